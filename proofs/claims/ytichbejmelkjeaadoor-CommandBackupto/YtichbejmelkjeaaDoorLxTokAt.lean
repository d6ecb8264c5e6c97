import Derived.Test.YtichbejmelkjeaaDoorLxWordAt
import Derived.Test.YtichbejmelkjeaaDoorLxSignAt
import Derived.Test.YtichbejmelkjeaaDoorLxTextAt
namespace Go.Proofs.YtichbejmelkjeaaDoor.Lx
open Go.RowKit

theorem resV_shape (k : Nat) (R : TkR) : ∃ (a b c : Int) (d : ByteArray) (e x : Int), resV k R = .tuple #[.agg #[.int .i64 a, .int .i64 b, .int .i64 c, .string d, .int .i64 e], .int .i64 x] := by
  cases R with
  | inl e => exact ⟨_, _, _, _, _, _, rfl⟩
  | inr x => exact ⟨_, _, _, _, _, _, rfl⟩

set_option maxRecDepth 100000 in
set_option maxHeartbeats 4000000 in
theorem tokAt_any (t : ByteArray) (k : Nat) (w : World) (ht : t.size ≤ 140737488355328) (hk : k < t.size) (hT : Tabs w) :
    Calls Tryd.prog 53 #[.string t, .int .i64 (k : Int)] w fun e w' => e = .returned (resV k (tokS (t.data.toList.drop k))) ∧ Below w.heap.size w w' := by
  have H5 := five_new w (.int .i64 0) (.int .i64 0) (.int .i64 0) (.string ⟨#[]⟩) (.int .i64 0) 89
  have H5' : Hid (Five (w.alloc (.cells #[.int .i64 0, .int .i64 0, .int .i64 0, .string ⟨#[]⟩, .int .i64 0] 89)) w.heap.size (.int .i64 0) (.int .i64 0) (.int .i64 0) (.string ⟨#[]⟩) (.int .i64 0)) := H5
  clear H5
  have HB0 : Hid (Below w.heap.size w (w.alloc (.cells #[.int .i64 0, .int .i64 0, .int .i64 0, .string ⟨#[]⟩, .int .i64 0] 89))) := (Below.refl _ w).alloc (Nat.le_refl _) _
  have hb1 : w.heap.size < (w.alloc (.cells #[.int .i64 0, .int .i64 0, .int .i64 0, .string ⟨#[]⟩, .int .i64 0] 89)).heap.size := World.block_lt_of_cell? _ _ H5'.out.c0
  have HT : Hid (Tabs (w.alloc (.cells #[.int .i64 0, .int .i64 0, .int .i64 0, .string ⟨#[]⟩, .int .i64 0] 89))) := hT.next HB0.out
  clear hT
  obtain ⟨c, hc⟩ : ∃ c, t[k]'hk = c := ⟨_, rfl⟩
  have hdr := drop_at t k hk
  rw [hc] at hdr
  have h4 : (letterB c = true ∧ tokS (t.data.toList.drop k) = wordS (t.data.toList.drop k)) ∨ (letterB c = false ∧ digitB c = true ∧ tokS (t.data.toList.drop k) = numS (t.data.toList.drop k)) ∨
      (letterB c = false ∧ digitB c = false ∧ c = 34 ∧ tokS (t.data.toList.drop k) = txtS ((t.data.toList.drop (k + 1)).length + 1) 1 [] (t.data.toList.drop (k + 1))) ∨ (letterB c = false ∧ digitB c = false ∧ c ≠ 34 ∧ tokS (t.data.toList.drop k) = signS (t.data.toList.drop k)) := by
    rw [hdr]
    simp only [tokS]
    by_cases h1 : letterB c = true
    · left; exact ⟨h1, by rw [if_pos h1]⟩
    · right
      have h1' : letterB c = false := by simpa using h1
      by_cases h2 : digitB c = true
      · left; exact ⟨h1', h2, by rw [if_neg h1, if_pos h2]⟩
      · right
        have h2' : digitB c = false := by simpa using h2
        by_cases h3 : c = 34
        · left; exact ⟨h1', h2', h3, by rw [if_neg h1, if_neg h2, if_pos h3]⟩
        · right; exact ⟨h1', h2', h3, by rw [if_neg h1, if_neg h2, if_neg h3]⟩
  have HL : Hid (∀ (w : World), Calls Tryd.prog 58 #[.int .u8 (c.toNat : Int)] w fun e w' => e = .returned (.bool (letterB c)) ∧ w = w') := fun w => isLetter_any c w
  have HD : Hid (∀ (w : World), Calls Tryd.prog 60 #[.int .u8 (c.toNat : Int)] w fun e w' => e = .returned (.bool (digitB c)) ∧ w = w') := fun w => isDigit_any c w
  clear hdr
  have k0 : (0 : Int) ≤ (k : Int) := by omega
  have k1 : (k : Int) < (t.size : Int) := by omega
  rcases h4 with ⟨h1, he⟩ | ⟨h1, h2, he⟩ | ⟨h1, h2, h3, he⟩ | ⟨h1, h2, h3, he⟩
  · obtain ⟨a0, a1, a2, a3, a4, x, hv⟩ := resV_shape k (wordS (t.data.toList.drop k))
    have HC := wordAt_any t k _ ht hk HT.out
    rw [he]
    rw [hv] at HC ⊢
    have HC' : Hid (Calls Tryd.prog 59 #[.string t, .int .i64 (k : Int)] (w.alloc (.cells #[.int .i64 0, .int .i64 0, .int .i64 0, .string ⟨#[]⟩, .int .i64 0] 89)) fun e w' => e = .returned (.tuple #[.agg #[.int .i64 a0, .int .i64 a1, .int .i64 a2, .string a3, .int .i64 a4], .int .i64 x]) ∧ Below (w.alloc (.cells #[.int .i64 0, .int .i64 0, .int .i64 0, .string ⟨#[]⟩, .int .i64 0] 89)).heap.size (w.alloc (.cells #[.int .i64 0, .int .i64 0, .int .i64 0, .string ⟨#[]⟩, .int .i64 0] 89)) w') := HC
    rw [h1] at HL
    clear HC he hv h1
    go_enter Tryd.func53, Tryd.ntmps53
    go_wp2_with (first
      | (go_at_call 58; refine (HL.out _).mono ?_; rintro e w2 ⟨rfl, hw2⟩; subst hw2)
      | (go_at_call 59; refine HC'.out.mono ?_; rintro e w3 ⟨rfl, hb3⟩; have F3 : Hid (Five w3 w.heap.size _ _ _ _ _) := H5'.out.below hb3 hb1; obtain ⟨c0, c1, c2, c3, c4, f⟩ := F3.out; have f0 := f 0 (by omega); have f1 := f 1 (by omega); have f2 := f 2 (by omega); have f3 := f 3 (by omega); have f4 := f 4 (by omega); clear f)
      | go_in)
    exact bodyPost_ret (ret5 (five_set F3.out _ _ _ _ _) rfl rfl) rfl ⟨rfl, below_set5 (HB0.out.trans (hb3.mono (by omega))) (Nat.le_refl _) _ _ _ _ _⟩
  · obtain ⟨a0, a1, a2, a3, a4, x, hv⟩ := resV_shape k (numS (t.data.toList.drop k))
    have HC := numAt_any t k _ ht hk HT.out
    rw [he]
    rw [hv] at HC ⊢
    have HC' : Hid (Calls Tryd.prog 61 #[.string t, .int .i64 (k : Int)] (w.alloc (.cells #[.int .i64 0, .int .i64 0, .int .i64 0, .string ⟨#[]⟩, .int .i64 0] 89)) fun e w' => e = .returned (.tuple #[.agg #[.int .i64 a0, .int .i64 a1, .int .i64 a2, .string a3, .int .i64 a4], .int .i64 x]) ∧ Below (w.alloc (.cells #[.int .i64 0, .int .i64 0, .int .i64 0, .string ⟨#[]⟩, .int .i64 0] 89)).heap.size (w.alloc (.cells #[.int .i64 0, .int .i64 0, .int .i64 0, .string ⟨#[]⟩, .int .i64 0] 89)) w') := HC
    rw [h1] at HL
    rw [h2] at HD
    clear HC he hv h1 h2
    go_enter Tryd.func53, Tryd.ntmps53
    go_wp2_with (first
      | (go_at_call 58; refine (HL.out _).mono ?_; rintro e w2 ⟨rfl, hw2⟩; subst hw2)
      | (go_at_call 60; refine (HD.out _).mono ?_; rintro e w2 ⟨rfl, hw2⟩; subst hw2)
      | (go_at_call 61; refine HC'.out.mono ?_; rintro e w3 ⟨rfl, hb3⟩; have F3 : Hid (Five w3 w.heap.size _ _ _ _ _) := H5'.out.below hb3 hb1; obtain ⟨c0, c1, c2, c3, c4, f⟩ := F3.out; have f0 := f 0 (by omega); have f1 := f 1 (by omega); have f2 := f 2 (by omega); have f3 := f 3 (by omega); have f4 := f 4 (by omega); clear f)
      | go_in)
    exact bodyPost_ret (ret5 (five_set F3.out _ _ _ _ _) rfl rfl) rfl ⟨rfl, below_set5 (HB0.out.trans (hb3.mono (by omega))) (Nat.le_refl _) _ _ _ _ _⟩
  · obtain ⟨a0, a1, a2, a3, a4, x, hv⟩ := resV_shape k (txtS ((t.data.toList.drop (k + 1)).length + 1) 1 [] (t.data.toList.drop (k + 1)))
    have HC := textAt_any t k (w.alloc (.cells #[.int .i64 0, .int .i64 0, .int .i64 0, .string ⟨#[]⟩, .int .i64 0] 89)) ht hk
    rw [he]
    rw [hv] at HC ⊢
    have HC' : Hid (Calls Tryd.prog 62 #[.string t, .int .i64 (k : Int)] (w.alloc (.cells #[.int .i64 0, .int .i64 0, .int .i64 0, .string ⟨#[]⟩, .int .i64 0] 89)) fun e w' => e = .returned (.tuple #[.agg #[.int .i64 a0, .int .i64 a1, .int .i64 a2, .string a3, .int .i64 a4], .int .i64 x]) ∧ Below (w.alloc (.cells #[.int .i64 0, .int .i64 0, .int .i64 0, .string ⟨#[]⟩, .int .i64 0] 89)).heap.size (w.alloc (.cells #[.int .i64 0, .int .i64 0, .int .i64 0, .string ⟨#[]⟩, .int .i64 0] 89)) w') := HC
    rw [h1] at HL
    rw [h2] at HD
    clear HC he hv h1 h2
    subst h3
    go_enter Tryd.func53, Tryd.ntmps53
    go_wp2_with (first
      | (go_at_call 58; refine (HL.out _).mono ?_; rintro e w2 ⟨rfl, hw2⟩; subst hw2)
      | (go_at_call 60; refine (HD.out _).mono ?_; rintro e w2 ⟨rfl, hw2⟩; subst hw2)
      | (go_at_call 62; refine HC'.out.mono ?_; rintro e w3 ⟨rfl, hb3⟩; have F3 : Hid (Five w3 w.heap.size _ _ _ _ _) := H5'.out.below hb3 hb1; obtain ⟨c0, c1, c2, c3, c4, f⟩ := F3.out; have f0 := f 0 (by omega); have f1 := f 1 (by omega); have f2 := f 2 (by omega); have f3 := f 3 (by omega); have f4 := f 4 (by omega); clear f)
      | go_in)
    exact bodyPost_ret (ret5 (five_set F3.out _ _ _ _ _) rfl rfl) rfl ⟨rfl, below_set5 (HB0.out.trans (hb3.mono (by omega))) (Nat.le_refl _) _ _ _ _ _⟩
  · obtain ⟨a0, a1, a2, a3, a4, x, hv⟩ := resV_shape k (signS (t.data.toList.drop k))
    have HC := signAt_any t k _ ht hk HT.out
    rw [he]
    rw [hv] at HC ⊢
    have HC' : Hid (Calls Tryd.prog 63 #[.string t, .int .i64 (k : Int)] (w.alloc (.cells #[.int .i64 0, .int .i64 0, .int .i64 0, .string ⟨#[]⟩, .int .i64 0] 89)) fun e w' => e = .returned (.tuple #[.agg #[.int .i64 a0, .int .i64 a1, .int .i64 a2, .string a3, .int .i64 a4], .int .i64 x]) ∧ Below (w.alloc (.cells #[.int .i64 0, .int .i64 0, .int .i64 0, .string ⟨#[]⟩, .int .i64 0] 89)).heap.size (w.alloc (.cells #[.int .i64 0, .int .i64 0, .int .i64 0, .string ⟨#[]⟩, .int .i64 0] 89)) w') := HC
    rw [h1] at HL
    rw [h2] at HD
    have b34 := u8ne (n := 34) (by omega) h3
    clear HC he hv h1 h2 h3
    go_enter Tryd.func53, Tryd.ntmps53
    go_wp2_with (first
      | (go_at_call 58; refine (HL.out _).mono ?_; rintro e w2 ⟨rfl, hw2⟩; subst hw2)
      | (go_at_call 60; refine (HD.out _).mono ?_; rintro e w2 ⟨rfl, hw2⟩; subst hw2)
      | (go_at_call 63; refine HC'.out.mono ?_; rintro e w3 ⟨rfl, hb3⟩; have F3 : Hid (Five w3 w.heap.size _ _ _ _ _) := H5'.out.below hb3 hb1; obtain ⟨c0, c1, c2, c3, c4, f⟩ := F3.out; have f0 := f 0 (by omega); have f1 := f 1 (by omega); have f2 := f 2 (by omega); have f3 := f 3 (by omega); have f4 := f 4 (by omega); clear f)
      | go_in)
    exact bodyPost_ret (ret5 (five_set F3.out _ _ _ _ _) rfl rfl) rfl ⟨rfl, below_set5 (HB0.out.trans (hb3.mono (by omega))) (Nat.le_refl _) _ _ _ _ _⟩
end Go.Proofs.YtichbejmelkjeaaDoor.Lx
