import Derived.Test.YtlahcmhjnhangaaDoorRSign
import Derived.Test.YtlahcmhjnhangaaDoorRNum
import Derived.Test.YtlahcmhjnhangaaDoorRText
import Derived.Test.YtlahcmhjnhangaaDoorTokAt
namespace Go.Proofs.YtlahcmhjnhangaaDoor
open Go.RowKit

theorem five_other {w : World} {A B : Nat} {a b c d e : Value} (h : Five w A a b c d e) (hne : A ≠ B) (y0 y1 y2 y3 y4 : Value) :
    Five (((((w.setCell ⟨B, 0, none⟩ y0).setCell ⟨B, 1, none⟩ y1).setCell ⟨B, 2, none⟩ y2).setCell ⟨B, 3, none⟩ y3).setCell ⟨B, 4, none⟩ y4) A a b c d e := by
  have ot : ∀ (W : World) (i j : Nat) (y : Value), (W.setCell ⟨B, j, none⟩ y).cell? ⟨A, i, none⟩ = W.cell? ⟨A, i, none⟩ := fun W i j y => World.cell?_setCell_other _ _ _ _ (fun e => hne (by cases e; rfl))
  refine ⟨?_, ?_, ?_, ?_, ?_, ?_⟩
  · rw [ot, ot, ot, ot, ot]; exact h.c0
  · rw [ot, ot, ot, ot, ot]; exact h.c1
  · rw [ot, ot, ot, ot, ot]; exact h.c2
  · rw [ot, ot, ot, ot, ot]; exact h.c3
  · rw [ot, ot, ot, ot, ot]; exact h.c4
  · intro j hj
    simp only [World.frozen?_setCell]
    exact h.f j hj

set_option maxRecDepth 100000 in
set_option maxHeartbeats 4000000 in
theorem refTok_any (t : ByteArray) (k : Nat) (w : World) (ht : t.size ≤ 4194304) (hk : k < t.size) (hT : RTabs w) :
    Calls Tryd.prog 28 #[.string t, .int .i64 (k : Int)] w fun e w' => e = .returned (resV k (tokS (t.data.toList.drop k))) ∧ Below w.heap.size w w' := by
  have FA : Hid (Five ((w.alloc (.cells #[.int .i64 0, .int .i64 0, .int .i64 0, .string ⟨#[]⟩, .int .i64 0] 35)).alloc (.cells #[.int .i64 0, .int .i64 0, .int .i64 0, .string ⟨#[]⟩, .int .i64 0] 35)) w.heap.size (.int .i64 0) (.int .i64 0) (.int .i64 0) (.string ⟨#[]⟩) (.int .i64 0)) := (five_new w _ _ _ _ _ 35).below ((Below.refl _ _).alloc (Nat.le_refl _) _) (World.block_lt_of_cell? _ _ (five_new w _ _ _ _ _ 35).c0)
  have FB : Hid (Five ((w.alloc (.cells #[.int .i64 0, .int .i64 0, .int .i64 0, .string ⟨#[]⟩, .int .i64 0] 35)).alloc (.cells #[.int .i64 0, .int .i64 0, .int .i64 0, .string ⟨#[]⟩, .int .i64 0] 35)) (w.heap.size + 1) (.int .i64 0) (.int .i64 0) (.int .i64 0) (.string ⟨#[]⟩) (.int .i64 0)) := by
    have h := five_new (w.alloc (.cells #[.int .i64 0, .int .i64 0, .int .i64 0, .string ⟨#[]⟩, .int .i64 0] 35)) (.int .i64 0) (.int .i64 0) (.int .i64 0) (.string ⟨#[]⟩) (.int .i64 0) 35
    simp only [World.size_alloc] at h
    exact h
  have HB0 : Hid (Below w.heap.size w ((w.alloc (.cells #[.int .i64 0, .int .i64 0, .int .i64 0, .string ⟨#[]⟩, .int .i64 0] 35)).alloc (.cells #[.int .i64 0, .int .i64 0, .int .i64 0, .string ⟨#[]⟩, .int .i64 0] 35))) := ((Below.refl _ w).alloc (Nat.le_refl _) _).alloc (by simp) _
  have hb1 : w.heap.size < ((w.alloc (.cells #[.int .i64 0, .int .i64 0, .int .i64 0, .string ⟨#[]⟩, .int .i64 0] 35)).alloc (.cells #[.int .i64 0, .int .i64 0, .int .i64 0, .string ⟨#[]⟩, .int .i64 0] 35)).heap.size := World.block_lt_of_cell? _ _ FA.out.c0
  have hb2 : w.heap.size + 1 < ((w.alloc (.cells #[.int .i64 0, .int .i64 0, .int .i64 0, .string ⟨#[]⟩, .int .i64 0] 35)).alloc (.cells #[.int .i64 0, .int .i64 0, .int .i64 0, .string ⟨#[]⟩, .int .i64 0] 35)).heap.size := World.block_lt_of_cell? _ _ FB.out.c0
  have HT : Hid (RTabs ((w.alloc (.cells #[.int .i64 0, .int .i64 0, .int .i64 0, .string ⟨#[]⟩, .int .i64 0] 35)).alloc (.cells #[.int .i64 0, .int .i64 0, .int .i64 0, .string ⟨#[]⟩, .int .i64 0] 35))) := hT.next HB0.out
  clear hT
  obtain ⟨c, hc⟩ : ∃ c, t[k]'hk = c := ⟨_, rfl⟩
  have hdr := drop_at t k hk
  rw [hc] at hdr
  have h4 : (letterB c = true ∧ tokS (t.data.toList.drop k) = wordS (t.data.toList.drop k)) ∨ (letterB c = false ∧ digitB c = true ∧ tokS (t.data.toList.drop k) = numS (t.data.toList.drop k)) ∨
      (letterB c = false ∧ digitB c = false ∧ c = 34 ∧ tokS (t.data.toList.drop k) = txtS ((t.data.toList.drop (k + 1)).length + 1) 1 [] (t.data.toList.drop (k + 1))) ∨ (letterB c = false ∧ digitB c = false ∧ c ≠ 34 ∧ tokS (t.data.toList.drop k) = signS (t.data.toList.drop k)) := by
    rw [hdr]
    simp only [tokS]
    by_cases h1 : letterB c = true
    · left; exact ⟨h1, by rw [if_pos h1]⟩
    · right
      have h1' : letterB c = false := by simpa using h1
      by_cases h2 : digitB c = true
      · left; exact ⟨h1', h2, by rw [if_neg h1, if_pos h2]⟩
      · right
        have h2' : digitB c = false := by simpa using h2
        by_cases h3 : c = 34
        · left; exact ⟨h1', h2', h3, by rw [if_neg h1, if_neg h2, if_pos h3]⟩
        · right; exact ⟨h1', h2', h3, by rw [if_neg h1, if_neg h2, if_neg h3]⟩
  have HL : Hid (∀ (w : World), Calls Tryd.prog 40 #[.int .u8 (c.toNat : Int)] w fun e w' => e = .returned (.bool (letterB c)) ∧ w = w') := fun w => refLetter_any c w
  have HD : Hid (∀ (w : World), Calls Tryd.prog 42 #[.int .u8 (c.toNat : Int)] w fun e w' => e = .returned (.bool (digitB c)) ∧ w = w') := fun w => refDigit_any c w
  clear hdr
  have k0 : (0 : Int) ≤ (k : Int) := by omega
  have k1 : (k : Int) < (t.size : Int) := by omega
  rcases h4 with ⟨h1, he⟩ | ⟨h1, h2, he⟩ | ⟨h1, h2, h3, he⟩ | ⟨h1, h2, h3, he⟩
  · obtain ⟨a0, a1, a2, a3, a4, x, hv⟩ := resV_shape k (wordS (t.data.toList.drop k))
    have HC := refWord_any t k ((w.alloc (.cells #[.int .i64 0, .int .i64 0, .int .i64 0, .string ⟨#[]⟩, .int .i64 0] 35)).alloc (.cells #[.int .i64 0, .int .i64 0, .int .i64 0, .string ⟨#[]⟩, .int .i64 0] 35)) (by omega) hk HT.out
    rw [he]
    rw [hv] at HC ⊢
    have HC' : Hid (Calls Tryd.prog 41 #[.string t, .int .i64 (k : Int)] ((w.alloc (.cells #[.int .i64 0, .int .i64 0, .int .i64 0, .string ⟨#[]⟩, .int .i64 0] 35)).alloc (.cells #[.int .i64 0, .int .i64 0, .int .i64 0, .string ⟨#[]⟩, .int .i64 0] 35)) fun e w' => e = .returned (.tuple #[.agg #[.int .i64 a0, .int .i64 a1, .int .i64 a2, .string a3, .int .i64 a4], .int .i64 x]) ∧ Below ((w.alloc (.cells #[.int .i64 0, .int .i64 0, .int .i64 0, .string ⟨#[]⟩, .int .i64 0] 35)).alloc (.cells #[.int .i64 0, .int .i64 0, .int .i64 0, .string ⟨#[]⟩, .int .i64 0] 35)).heap.size ((w.alloc (.cells #[.int .i64 0, .int .i64 0, .int .i64 0, .string ⟨#[]⟩, .int .i64 0] 35)).alloc (.cells #[.int .i64 0, .int .i64 0, .int .i64 0, .string ⟨#[]⟩, .int .i64 0] 35)) w') := HC
    rw [h1] at HL
    clear HC he hv h1
    go_enter Tryd.func28, Tryd.ntmps28
    go_wp2_with (first
      | (go_at_call 40; refine (HL.out _).mono ?_; rintro e w2 ⟨rfl, hw2⟩; subst hw2)
      | (go_at_call 41; refine HC'.out.mono ?_; rintro e w3 ⟨rfl, hb3⟩; have F3 : Hid (Five w3 w.heap.size _ _ _ _ _) := FA.out.below hb3 hb1; have G3 : Hid (Five w3 (w.heap.size + 1) _ _ _ _ _) := FB.out.below hb3 hb2; obtain ⟨c0, c1, c2, c3, c4, f⟩ := F3.out; have f0 := f 0 (by omega); have f1 := f 1 (by omega); have f2 := f 2 (by omega); have f3 := f 3 (by omega); have f4 := f 4 (by omega); clear f; obtain ⟨d0, d1, d2, d3, d4, g⟩ := G3.out; have g0 := g 0 (by omega); have g1 := g 1 (by omega); have g2 := g 2 (by omega); have g3 := g 3 (by omega); have g4 := g 4 (by omega); clear g)
      | go_in)
    have HB3 : Below w.heap.size w w3 := HB0.out.trans (hb3.mono (Nat.le_of_lt hb1))
    exact bodyPost_ret (ret5 (five_set (five_other F3.out (by omega) _ _ _ _ _) _ _ _ _ _) rfl rfl) rfl ⟨rfl, below_set5 (below_set5 HB3 (Nat.le_succ _) _ _ _ _ _) (Nat.le_refl _) _ _ _ _ _⟩
  · obtain ⟨a0, a1, a2, a3, a4, x, hv⟩ := resV_shape k (numS (t.data.toList.drop k))
    have HC := refNum_any t k ((w.alloc (.cells #[.int .i64 0, .int .i64 0, .int .i64 0, .string ⟨#[]⟩, .int .i64 0] 35)).alloc (.cells #[.int .i64 0, .int .i64 0, .int .i64 0, .string ⟨#[]⟩, .int .i64 0] 35)) (by omega) hk (by rw [hc]; exact h2)
    rw [he]
    rw [hv] at HC ⊢
    have HC' : Hid (Calls Tryd.prog 43 #[.string t, .int .i64 (k : Int)] ((w.alloc (.cells #[.int .i64 0, .int .i64 0, .int .i64 0, .string ⟨#[]⟩, .int .i64 0] 35)).alloc (.cells #[.int .i64 0, .int .i64 0, .int .i64 0, .string ⟨#[]⟩, .int .i64 0] 35)) fun e w' => e = .returned (.tuple #[.agg #[.int .i64 a0, .int .i64 a1, .int .i64 a2, .string a3, .int .i64 a4], .int .i64 x]) ∧ Below ((w.alloc (.cells #[.int .i64 0, .int .i64 0, .int .i64 0, .string ⟨#[]⟩, .int .i64 0] 35)).alloc (.cells #[.int .i64 0, .int .i64 0, .int .i64 0, .string ⟨#[]⟩, .int .i64 0] 35)).heap.size ((w.alloc (.cells #[.int .i64 0, .int .i64 0, .int .i64 0, .string ⟨#[]⟩, .int .i64 0] 35)).alloc (.cells #[.int .i64 0, .int .i64 0, .int .i64 0, .string ⟨#[]⟩, .int .i64 0] 35)) w') := HC
    rw [h1] at HL
    rw [h2] at HD
    clear HC he hv h1 h2
    go_enter Tryd.func28, Tryd.ntmps28
    go_wp2_with (first
      | (go_at_call 40; refine (HL.out _).mono ?_; rintro e w2 ⟨rfl, hw2⟩; subst hw2)
      | (go_at_call 42; refine (HD.out _).mono ?_; rintro e w2 ⟨rfl, hw2⟩; subst hw2)
      | (go_at_call 43; refine HC'.out.mono ?_; rintro e w3 ⟨rfl, hb3⟩; have F3 : Hid (Five w3 w.heap.size _ _ _ _ _) := FA.out.below hb3 hb1; have G3 : Hid (Five w3 (w.heap.size + 1) _ _ _ _ _) := FB.out.below hb3 hb2; obtain ⟨c0, c1, c2, c3, c4, f⟩ := F3.out; have f0 := f 0 (by omega); have f1 := f 1 (by omega); have f2 := f 2 (by omega); have f3 := f 3 (by omega); have f4 := f 4 (by omega); clear f; obtain ⟨d0, d1, d2, d3, d4, g⟩ := G3.out; have g0 := g 0 (by omega); have g1 := g 1 (by omega); have g2 := g 2 (by omega); have g3 := g 3 (by omega); have g4 := g 4 (by omega); clear g)
      | go_in)
    have HB3 : Below w.heap.size w w3 := HB0.out.trans (hb3.mono (Nat.le_of_lt hb1))
    exact bodyPost_ret (ret5 (five_set (five_other F3.out (by omega) _ _ _ _ _) _ _ _ _ _) rfl rfl) rfl ⟨rfl, below_set5 (below_set5 HB3 (Nat.le_succ _) _ _ _ _ _) (Nat.le_refl _) _ _ _ _ _⟩
  · obtain ⟨a0, a1, a2, a3, a4, x, hv⟩ := resV_shape k (txtS ((t.data.toList.drop (k + 1)).length + 1) 1 [] (t.data.toList.drop (k + 1)))
    have HC := refQuoted_any t k ((w.alloc (.cells #[.int .i64 0, .int .i64 0, .int .i64 0, .string ⟨#[]⟩, .int .i64 0] 35)).alloc (.cells #[.int .i64 0, .int .i64 0, .int .i64 0, .string ⟨#[]⟩, .int .i64 0] 35)) ht hk
    rw [he]
    rw [hv] at HC ⊢
    have HC' : Hid (Calls Tryd.prog 44 #[.string t, .int .i64 (k : Int)] ((w.alloc (.cells #[.int .i64 0, .int .i64 0, .int .i64 0, .string ⟨#[]⟩, .int .i64 0] 35)).alloc (.cells #[.int .i64 0, .int .i64 0, .int .i64 0, .string ⟨#[]⟩, .int .i64 0] 35)) fun e w' => e = .returned (.tuple #[.agg #[.int .i64 a0, .int .i64 a1, .int .i64 a2, .string a3, .int .i64 a4], .int .i64 x]) ∧ Below ((w.alloc (.cells #[.int .i64 0, .int .i64 0, .int .i64 0, .string ⟨#[]⟩, .int .i64 0] 35)).alloc (.cells #[.int .i64 0, .int .i64 0, .int .i64 0, .string ⟨#[]⟩, .int .i64 0] 35)).heap.size ((w.alloc (.cells #[.int .i64 0, .int .i64 0, .int .i64 0, .string ⟨#[]⟩, .int .i64 0] 35)).alloc (.cells #[.int .i64 0, .int .i64 0, .int .i64 0, .string ⟨#[]⟩, .int .i64 0] 35)) w') := HC
    rw [h1] at HL
    rw [h2] at HD
    clear HC he hv h1 h2
    subst h3
    go_enter Tryd.func28, Tryd.ntmps28
    go_wp2_with (first
      | (go_at_call 40; refine (HL.out _).mono ?_; rintro e w2 ⟨rfl, hw2⟩; subst hw2)
      | (go_at_call 42; refine (HD.out _).mono ?_; rintro e w2 ⟨rfl, hw2⟩; subst hw2)
      | (go_at_call 44; refine HC'.out.mono ?_; rintro e w3 ⟨rfl, hb3⟩; have F3 : Hid (Five w3 w.heap.size _ _ _ _ _) := FA.out.below hb3 hb1; have G3 : Hid (Five w3 (w.heap.size + 1) _ _ _ _ _) := FB.out.below hb3 hb2; obtain ⟨c0, c1, c2, c3, c4, f⟩ := F3.out; have f0 := f 0 (by omega); have f1 := f 1 (by omega); have f2 := f 2 (by omega); have f3 := f 3 (by omega); have f4 := f 4 (by omega); clear f; obtain ⟨d0, d1, d2, d3, d4, g⟩ := G3.out; have g0 := g 0 (by omega); have g1 := g 1 (by omega); have g2 := g 2 (by omega); have g3 := g 3 (by omega); have g4 := g 4 (by omega); clear g)
      | go_in)
    have HB3 : Below w.heap.size w w3 := HB0.out.trans (hb3.mono (Nat.le_of_lt hb1))
    exact bodyPost_ret (ret5 (five_set (five_other F3.out (by omega) _ _ _ _ _) _ _ _ _ _) rfl rfl) rfl ⟨rfl, below_set5 (below_set5 HB3 (Nat.le_succ _) _ _ _ _ _) (Nat.le_refl _) _ _ _ _ _⟩
  · obtain ⟨a0, a1, a2, a3, a4, x, hv⟩ := resV_shape k (signS (t.data.toList.drop k))
    have HC := refSign_any t k ((w.alloc (.cells #[.int .i64 0, .int .i64 0, .int .i64 0, .string ⟨#[]⟩, .int .i64 0] 35)).alloc (.cells #[.int .i64 0, .int .i64 0, .int .i64 0, .string ⟨#[]⟩, .int .i64 0] 35)) (by omega) hk HT.out
    rw [he]
    rw [hv] at HC ⊢
    have HC' : Hid (Calls Tryd.prog 45 #[.string t, .int .i64 (k : Int)] ((w.alloc (.cells #[.int .i64 0, .int .i64 0, .int .i64 0, .string ⟨#[]⟩, .int .i64 0] 35)).alloc (.cells #[.int .i64 0, .int .i64 0, .int .i64 0, .string ⟨#[]⟩, .int .i64 0] 35)) fun e w' => e = .returned (.tuple #[.agg #[.int .i64 a0, .int .i64 a1, .int .i64 a2, .string a3, .int .i64 a4], .int .i64 x]) ∧ Below ((w.alloc (.cells #[.int .i64 0, .int .i64 0, .int .i64 0, .string ⟨#[]⟩, .int .i64 0] 35)).alloc (.cells #[.int .i64 0, .int .i64 0, .int .i64 0, .string ⟨#[]⟩, .int .i64 0] 35)).heap.size ((w.alloc (.cells #[.int .i64 0, .int .i64 0, .int .i64 0, .string ⟨#[]⟩, .int .i64 0] 35)).alloc (.cells #[.int .i64 0, .int .i64 0, .int .i64 0, .string ⟨#[]⟩, .int .i64 0] 35)) w') := HC
    rw [h1] at HL
    rw [h2] at HD
    have b34 := u8ne (n := 34) (by omega) h3
    clear HC he hv h1 h2 h3
    go_enter Tryd.func28, Tryd.ntmps28
    go_wp2_with (first
      | (go_at_call 40; refine (HL.out _).mono ?_; rintro e w2 ⟨rfl, hw2⟩; subst hw2)
      | (go_at_call 42; refine (HD.out _).mono ?_; rintro e w2 ⟨rfl, hw2⟩; subst hw2)
      | (go_at_call 45; refine HC'.out.mono ?_; rintro e w3 ⟨rfl, hb3⟩; have F3 : Hid (Five w3 w.heap.size _ _ _ _ _) := FA.out.below hb3 hb1; have G3 : Hid (Five w3 (w.heap.size + 1) _ _ _ _ _) := FB.out.below hb3 hb2; obtain ⟨c0, c1, c2, c3, c4, f⟩ := F3.out; have f0 := f 0 (by omega); have f1 := f 1 (by omega); have f2 := f 2 (by omega); have f3 := f 3 (by omega); have f4 := f 4 (by omega); clear f; obtain ⟨d0, d1, d2, d3, d4, g⟩ := G3.out; have g0 := g 0 (by omega); have g1 := g 1 (by omega); have g2 := g 2 (by omega); have g3 := g 3 (by omega); have g4 := g 4 (by omega); clear g)
      | go_in)
    have HB3 : Below w.heap.size w w3 := HB0.out.trans (hb3.mono (Nat.le_of_lt hb1))
    exact bodyPost_ret (ret5 (five_set (five_other F3.out (by omega) _ _ _ _ _) _ _ _ _ _) rfl rfl) rfl ⟨rfl, below_set5 (below_set5 HB3 (Nat.le_succ _) _ _ _ _ _) (Nat.le_refl _) _ _ _ _ _⟩
end Go.Proofs.YtlahcmhjnhangaaDoor
