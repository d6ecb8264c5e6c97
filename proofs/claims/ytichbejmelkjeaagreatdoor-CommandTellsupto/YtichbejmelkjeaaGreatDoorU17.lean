import Derived.Test.YtichbejmelkjeaaGreatDoorU14
import Derived.Test.YtichbejmelkjeaaGreatDoorU09
namespace Go.Proofs.YtichbejmelkjeaaGreatDoor.Lx
open Go.RowKit

theorem own_slice {w : World} {base : Nat} {e : TypeId} {size : Nat} {v : Value} {n : Nat} {xs : List Value} (h : w.ownsRow base e size v n xs) : ∃ a cap, v = .slice a n cap := by
  rcases h.2 with ⟨rfl, rfl⟩ | ⟨g, cap, cur, rfl, _⟩
  · exact ⟨_, _, rfl⟩
  · exact ⟨_, _, rfl⟩

theorem txt_quote (f n : Nat) (V r : List UInt8) : txtS (f + 1) n V (34 :: r) = .inr ⟨3, n + 1, V, 0⟩ := by
  unfold txtS
  rw [if_pos rfl]
theorem txt_bad (f n : Nat) (V r : List UInt8) (c : UInt8) (hc : c ≠ 34) (h : (pcS (c :: r)).2 = 0 ∨ V.length = 200) : txtS (f + 1) n V (c :: r) = .inl 22 := by
  unfold txtS
  rw [if_neg hc, if_pos h]
theorem txt_step (f n : Nat) (V r : List UInt8) (c : UInt8) (hc : c ≠ 34) (h : ¬ ((pcS (c :: r)).2 = 0 ∨ V.length = 200)) :
    txtS (f + 1) n V (c :: r) = txtS f (n + (pcS (c :: r)).2) (V ++ [(pcS (c :: r)).1]) ((c :: r).drop (pcS (c :: r)).2) := by
  conv => lhs; unfold txtS
  rw [if_neg hc, if_neg h]
theorem txt_end (f n : Nat) (V : List UInt8) : txtS f n V [] = .inl 22 := by cases f <;> rfl

set_option maxRecDepth 100000 in
set_option maxHeartbeats 4000000 in
theorem textAt_any (t : ByteArray) (k : Nat) (w : World) (ht : t.size ≤ 140737488355328) (hk : k < t.size) :
    Calls Tryz.prog 99 #[.string t, .int .i64 (k : Int)] w fun e w' => e = .returned (resV k (txtS ((t.data.toList.drop (k + 1)).length + 1) 1 [] (t.data.toList.drop (k + 1)))) ∧ Below w.heap.size w w' := by
  obtain ⟨R, hR⟩ : ∃ R, txtS ((t.data.toList.drop (k + 1)).length + 1) 1 [] (t.data.toList.drop (k + 1)) = R := ⟨_, rfl⟩
  rw [hR]
  have HR0 : Hid (txtS ((t.data.toList.drop (k + 1)).length + 1) 1 [] (t.data.toList.drop (k + 1)) = R) := hR
  clear hR
  have H5 := five_new w (.int .i64 0) (.int .i64 0) (.int .i64 0) (.string ⟨#[]⟩) (.int .i64 0) 113
  have H5' : Hid (Five (w.alloc (.cells #[.int .i64 0, .int .i64 0, .int .i64 0, .string ⟨#[]⟩, .int .i64 0] 113)) w.heap.size (.int .i64 0) (.int .i64 0) (.int .i64 0) (.string ⟨#[]⟩) (.int .i64 0)) := H5
  clear H5
  have HB0 : Hid (Below w.heap.size w (w.alloc (.cells #[.int .i64 0, .int .i64 0, .int .i64 0, .string ⟨#[]⟩, .int .i64 0] 113))) := (Below.refl _ w).alloc (Nat.le_refl _) _
  go_enter Tryz.func99, Tryz.ntmps99
  go_wp2
  generalize hw1 : w.alloc (.cells #[.int .i64 0, .int .i64 0, .int .i64 0, .string ⟨#[]⟩, .int .i64 0] 113) = w1 at *
  clear hw1
  have hb1 : w.heap.size < w1.heap.size := World.block_lt_of_cell? w1 _ H5'.out.c0
  go_loopw [6, 7] (fun v i wr => ∃ (f j : Nat) (V : List UInt8), k + 1 ≤ j ∧ j ≤ t.size ∧ i = .int .i64 (j : Int) ∧ t.size - j < f ∧ V.length ≤ 200 ∧ Hid (txtS f (j - k) V (t.data.toList.drop j) = R) ∧ Hid (wr.ownsRow w1.heap.size 5 1 v V.length (bv V)) ∧ Hid (Below w1.heap.size w1 wr)) (fun _ i _ => t.size - (intOf i).toNat)
  case atStart =>
    refine ⟨(t.data.toList.drop (k + 1)).length + 1, k + 1, [], Nat.le_refl _, by omega, by go_num, ?_, by simp, ?_, World.ownsRow_nil _ _ _ _, Below.refl _ _⟩
    · rw [List.length_drop, ← Lib.size_eq]; omega
    · rw [show k + 1 - k = 1 from by omega]; exact HR0.out
  case round =>
    clear HR0
    obtain ⟨f, j, V, hkj, hj, rfl, hf, hV, hx, ho, hB⟩ := hrel
    obtain ⟨sa, cap, rfl⟩ := own_slice ho.out
    have HF : Hid (Five wr w.heap.size (.int .i64 0) (.int .i64 0) (.int .i64 0) (.string ⟨#[]⟩) (.int .i64 0)) := H5'.out.below hB.out hb1
    have j0 : (0 : Int) ≤ (j : Int) := by omega
    have j1 : (j : Int) ≤ (t.size : Int) := by omega
    have errR : ∀ W : World, Five W w.heap.size (.int .i64 0) (.int .i64 0) (.int .i64 0) (.string ⟨#[]⟩) (.int .i64 0) → True := fun _ _ => trivial
    clear errR
    by_cases hlt : j < t.size
    · obtain ⟨f, rfl⟩ : ∃ g, f = g + 1 := ⟨f - 1, by omega⟩
      obtain ⟨c, hc⟩ : ∃ c, t[j]'hlt = c := ⟨_, rfl⟩
      have hdr := drop_at t j hlt
      rw [hc] at hdr
      by_cases hq : c = 34
      · subst hq
        have HRv : Hid (resV k R = .tuple #[.agg #[.int .i64 3, .int .i64 (k : Int), .int .i64 ((j : Int) + 1), .string ⟨V.toArray⟩, .int .i64 0], .int .i64 0]) := by
          show resV k R = _
          rw [← hx.out, hdr, txt_quote]
          simp only [resV, tkCells]
          rw [show ((k : Int) + ((j - k + 1 : Nat) : Int)) = (j : Int) + 1 from by omega]
          rfl
        have hcv := conv_own ho.out
        obtain ⟨c0, c1, c2, c3, c4, f'⟩ := HF.out
        have f0 := f' 0 (by omega)
        have f1 := f' 1 (by omega)
        have f2 := f' 2 (by omega)
        have f3 := f' 3 (by omega)
        have f4 := f' 4 (by omega)
        clear f' hdr hx ho
        go_wp2
        exact bodyPost_ret (ret5 (five_set HF.out _ _ _ _ _) rfl rfl) rfl ⟨congrArg Ending.returned HRv.out.symm, below_set5 (HB0.out.trans (hB.out.mono (by omega))) (Nat.le_refl _) _ _ _ _ _⟩
      · have b34 := u8ne (n := 34) (by omega) hq
        have hxd : (t.extract j t.size).data.toList = t.data.toList.drop j := by rw [Lib.extract_data, List.take_of_length_le (by rw [List.length_drop, ← Lib.size_eq]; omega)]
        have HP := first_any (t.extract j t.size) (by rw [Lib.size_eq, hxd, List.length_drop, ← Lib.size_eq]; omega) wr
        rw [hxd] at HP
        have hle := pcS_le (t.data.toList.drop j)
        rw [List.length_drop, ← Lib.size_eq] at hle
        have hbad : ((pcS (t.data.toList.drop j)).2 = 0 ∨ V.length = 200) → R = .inl 22 := by
          intro h
          rw [← hx.out, hdr]
          exact txt_bad _ _ _ _ _ hq (by rw [← hdr]; exact h)
        have hgood : ¬ ((pcS (t.data.toList.drop j)).2 = 0 ∨ V.length = 200) → txtS f (j - k + (pcS (t.data.toList.drop j)).2) (V ++ [(pcS (t.data.toList.drop j)).1]) (t.data.toList.drop (j + (pcS (t.data.toList.drop j)).2)) = R := by
          intro h
          rw [← hx.out]
          have := txt_step f (j - k) V (t.data.toList.drop (j + 1)) c hq (by rw [← hdr]; exact h)
          rw [← hdr, List.drop_drop] at this
          exact this.symm
        clear hxd hdr hx hq
        generalize pcS (t.data.toList.drop j) = P at HP hle hbad hgood
        obtain ⟨b, m⟩ := P
        simp only at hle hbad hgood
        have HP' : Hid (Calls Tryz.prog 112 #[.string (t.extract j t.size)] wr fun e w' => e = .returned (.tuple #[.int .u8 (b.toNat : Int), .int .i64 (m : Int)]) ∧ wr = w') := HP
        have HG : Hid (¬ (m = 0 ∨ V.length = 200) → txtS f (j - k + m) (V ++ [b]) (t.data.toList.drop (j + m)) = R) := hgood
        have HBd : Hid ((m = 0 ∨ V.length = 200) → R = .inl 22) := hbad
        clear HP hgood hbad
        by_cases hm : m = 0 ∨ V.length = 200
        · have HRv : Hid (resV k R = .tuple #[.agg #[.int .i64 0, .int .i64 0, .int .i64 0, .string ⟨#[]⟩, .int .i64 0], .int .i64 22]) := by
            show resV k R = _
            rw [HBd.out hm]
            rfl
          obtain ⟨c0, c1, c2, c3, c4, f'⟩ := HF.out
          have f0 := f' 0 (by omega)
          have f1 := f' 1 (by omega)
          have f2 := f' 2 (by omega)
          have f3 := f' 3 (by omega)
          have f4 := f' 4 (by omega)
          clear f' HG HBd
          have hm2 : ((m : Int) == 0) = true ∨ (((m : Int) == 0) = false ∧ ((V.length : Int) == 200) = true) := by
            by_cases h : m = 0
            · left; subst h; rfl
            · right
              refine ⟨by rw [beq_eq_false_iff_ne]; omega, ?_⟩
              rcases hm with h' | h'
              · exact absurd h' h
              · rw [h']; rfl
          clear hm
          rcases hm2 with q1 | ⟨q1, q2⟩
          all_goals
            go_wp2_with (first
              | (go_at_call 112; refine HP'.out.mono ?_; rintro e w2 ⟨rfl, hw2⟩; subst hw2)
              | go_in)
            exact bodyPost_ret (ret5 (five_set HF.out _ _ _ _ _) rfl rfl) rfl ⟨congrArg Ending.returned HRv.out.symm, below_set5 (HB0.out.trans (hB.out.mono (by omega))) (Nat.le_refl _) _ _ _ _ _⟩
        · have HG2 : Hid (txtS f (j + m - k) (V ++ [b]) (t.data.toList.drop (j + m)) = R) := by
            show txtS f (j + m - k) (V ++ [b]) (t.data.toList.drop (j + m)) = R
            rw [show j + m - k = j - k + m from by omega]
            exact HG.out hm
          have q1 : ((m : Int) == 0) = false := by rw [beq_eq_false_iff_ne]; omega
          have q2 : ((V.length : Int) == 200) = false := by rw [beq_eq_false_iff_ne]; omega
          have hm0 : 0 < m := by omega
          have hV2 : V.length < 200 := by omega
          clear hm HG HBd
          go_wp2_with (first
            | (go_at_call 112; refine HP'.out.mono ?_; rintro e w2 ⟨rfl, hw2⟩; subst hw2)
            | (at_builtin; refine wpList_app1 (w0 := w1) (by rfl) _ _ (by rfl) _ V.length V (by rfl) ho hB b (by rfl) (by omega) ?_; intro v2 w2 ho2 hb2)
            | go_in)
          exact ⟨⟨f, j + m, V ++ [b], by omega, by omega, by go_num, by omega, by simp; omega, HG2, by rw [List.length_append]; exact ho2, hb2⟩, by simp [intOf]; omega⟩
    · obtain rfl : j = t.size := by omega
      have HRv : Hid (resV k R = .tuple #[.agg #[.int .i64 0, .int .i64 0, .int .i64 0, .string ⟨#[]⟩, .int .i64 0], .int .i64 22]) := by
        show resV k R = _
        rw [← hx.out, List.drop_eq_nil_of_le (by rw [← Lib.size_eq]; omega), txt_end]
        rfl
      obtain ⟨c0, c1, c2, c3, c4, f'⟩ := HF.out
      have f0 := f' 0 (by omega)
      have f1 := f' 1 (by omega)
      have f2 := f' 2 (by omega)
      have f3 := f' 3 (by omega)
      have f4 := f' 4 (by omega)
      clear f' hx
      go_wp2
      exact bodyPost_ret (ret5 (five_set HF.out _ _ _ _ _) rfl rfl) rfl ⟨congrArg Ending.returned HRv.out.symm, below_set5 (HB0.out.trans (hB.out.mono (by omega))) (Nat.le_refl _) _ _ _ _ _⟩
end Go.Proofs.YtichbejmelkjeaaGreatDoor.Lx

namespace Go.Proofs.YtichbejmelkjeaaGreatDoor.Lx
open Go.RowKit

theorem resV_shape (k : Nat) (R : TkR) : ∃ (a b c : Int) (d : ByteArray) (e x : Int), resV k R = .tuple #[.agg #[.int .i64 a, .int .i64 b, .int .i64 c, .string d, .int .i64 e], .int .i64 x] := by
  cases R with
  | inl e => exact ⟨_, _, _, _, _, _, rfl⟩
  | inr x => exact ⟨_, _, _, _, _, _, rfl⟩

set_option maxRecDepth 100000 in
set_option maxHeartbeats 4000000 in
theorem tokAt_any (t : ByteArray) (k : Nat) (w : World) (ht : t.size ≤ 140737488355328) (hk : k < t.size) (hT : Tabs w) :
    Calls Tryz.prog 88 #[.string t, .int .i64 (k : Int)] w fun e w' => e = .returned (resV k (tokS (t.data.toList.drop k))) ∧ Below w.heap.size w w' := by
  have H5 := five_new w (.int .i64 0) (.int .i64 0) (.int .i64 0) (.string ⟨#[]⟩) (.int .i64 0) 113
  have H5' : Hid (Five (w.alloc (.cells #[.int .i64 0, .int .i64 0, .int .i64 0, .string ⟨#[]⟩, .int .i64 0] 113)) w.heap.size (.int .i64 0) (.int .i64 0) (.int .i64 0) (.string ⟨#[]⟩) (.int .i64 0)) := H5
  clear H5
  have HB0 : Hid (Below w.heap.size w (w.alloc (.cells #[.int .i64 0, .int .i64 0, .int .i64 0, .string ⟨#[]⟩, .int .i64 0] 113))) := (Below.refl _ w).alloc (Nat.le_refl _) _
  have hb1 : w.heap.size < (w.alloc (.cells #[.int .i64 0, .int .i64 0, .int .i64 0, .string ⟨#[]⟩, .int .i64 0] 113)).heap.size := World.block_lt_of_cell? _ _ H5'.out.c0
  have HT : Hid (Tabs (w.alloc (.cells #[.int .i64 0, .int .i64 0, .int .i64 0, .string ⟨#[]⟩, .int .i64 0] 113))) := hT.next HB0.out
  clear hT
  obtain ⟨c, hc⟩ : ∃ c, t[k]'hk = c := ⟨_, rfl⟩
  have hdr := drop_at t k hk
  rw [hc] at hdr
  have h4 : (letterB c = true ∧ tokS (t.data.toList.drop k) = wordS (t.data.toList.drop k)) ∨ (letterB c = false ∧ digitB c = true ∧ tokS (t.data.toList.drop k) = numS (t.data.toList.drop k)) ∨
      (letterB c = false ∧ digitB c = false ∧ c = 34 ∧ tokS (t.data.toList.drop k) = txtS ((t.data.toList.drop (k + 1)).length + 1) 1 [] (t.data.toList.drop (k + 1))) ∨ (letterB c = false ∧ digitB c = false ∧ c ≠ 34 ∧ tokS (t.data.toList.drop k) = signS (t.data.toList.drop k)) := by
    rw [hdr]
    simp only [tokS]
    by_cases h1 : letterB c = true
    · left; exact ⟨h1, by rw [if_pos h1]⟩
    · right
      have h1' : letterB c = false := by simpa using h1
      by_cases h2 : digitB c = true
      · left; exact ⟨h1', h2, by rw [if_neg h1, if_pos h2]⟩
      · right
        have h2' : digitB c = false := by simpa using h2
        by_cases h3 : c = 34
        · left; exact ⟨h1', h2', h3, by rw [if_neg h1, if_neg h2, if_pos h3]⟩
        · right; exact ⟨h1', h2', h3, by rw [if_neg h1, if_neg h2, if_neg h3]⟩
  have HL : Hid (∀ (w : World), Calls Tryz.prog 95 #[.int .u8 (c.toNat : Int)] w fun e w' => e = .returned (.bool (letterB c)) ∧ w = w') := fun w => isLetter_any c w
  have HD : Hid (∀ (w : World), Calls Tryz.prog 97 #[.int .u8 (c.toNat : Int)] w fun e w' => e = .returned (.bool (digitB c)) ∧ w = w') := fun w => isDigit_any c w
  clear hdr
  have k0 : (0 : Int) ≤ (k : Int) := by omega
  have k1 : (k : Int) < (t.size : Int) := by omega
  rcases h4 with ⟨h1, he⟩ | ⟨h1, h2, he⟩ | ⟨h1, h2, h3, he⟩ | ⟨h1, h2, h3, he⟩
  · obtain ⟨a0, a1, a2, a3, a4, x, hv⟩ := resV_shape k (wordS (t.data.toList.drop k))
    have HC := wordAt_any t k _ ht hk HT.out
    rw [he]
    rw [hv] at HC ⊢
    have HC' : Hid (Calls Tryz.prog 96 #[.string t, .int .i64 (k : Int)] (w.alloc (.cells #[.int .i64 0, .int .i64 0, .int .i64 0, .string ⟨#[]⟩, .int .i64 0] 113)) fun e w' => e = .returned (.tuple #[.agg #[.int .i64 a0, .int .i64 a1, .int .i64 a2, .string a3, .int .i64 a4], .int .i64 x]) ∧ Below (w.alloc (.cells #[.int .i64 0, .int .i64 0, .int .i64 0, .string ⟨#[]⟩, .int .i64 0] 113)).heap.size (w.alloc (.cells #[.int .i64 0, .int .i64 0, .int .i64 0, .string ⟨#[]⟩, .int .i64 0] 113)) w') := HC
    rw [h1] at HL
    clear HC he hv h1
    go_enter Tryz.func88, Tryz.ntmps88
    go_wp2_with (first
      | (go_at_call 95; refine (HL.out _).mono ?_; rintro e w2 ⟨rfl, hw2⟩; subst hw2)
      | (go_at_call 96; refine HC'.out.mono ?_; rintro e w3 ⟨rfl, hb3⟩; have F3 : Hid (Five w3 w.heap.size _ _ _ _ _) := H5'.out.below hb3 hb1; obtain ⟨c0, c1, c2, c3, c4, f⟩ := F3.out; have f0 := f 0 (by omega); have f1 := f 1 (by omega); have f2 := f 2 (by omega); have f3 := f 3 (by omega); have f4 := f 4 (by omega); clear f)
      | go_in)
    exact bodyPost_ret (ret5 (five_set F3.out _ _ _ _ _) rfl rfl) rfl ⟨rfl, below_set5 (HB0.out.trans (hb3.mono (by omega))) (Nat.le_refl _) _ _ _ _ _⟩
  · obtain ⟨a0, a1, a2, a3, a4, x, hv⟩ := resV_shape k (numS (t.data.toList.drop k))
    have HC := numAt_any t k _ ht hk HT.out
    rw [he]
    rw [hv] at HC ⊢
    have HC' : Hid (Calls Tryz.prog 98 #[.string t, .int .i64 (k : Int)] (w.alloc (.cells #[.int .i64 0, .int .i64 0, .int .i64 0, .string ⟨#[]⟩, .int .i64 0] 113)) fun e w' => e = .returned (.tuple #[.agg #[.int .i64 a0, .int .i64 a1, .int .i64 a2, .string a3, .int .i64 a4], .int .i64 x]) ∧ Below (w.alloc (.cells #[.int .i64 0, .int .i64 0, .int .i64 0, .string ⟨#[]⟩, .int .i64 0] 113)).heap.size (w.alloc (.cells #[.int .i64 0, .int .i64 0, .int .i64 0, .string ⟨#[]⟩, .int .i64 0] 113)) w') := HC
    rw [h1] at HL
    rw [h2] at HD
    clear HC he hv h1 h2
    go_enter Tryz.func88, Tryz.ntmps88
    go_wp2_with (first
      | (go_at_call 95; refine (HL.out _).mono ?_; rintro e w2 ⟨rfl, hw2⟩; subst hw2)
      | (go_at_call 97; refine (HD.out _).mono ?_; rintro e w2 ⟨rfl, hw2⟩; subst hw2)
      | (go_at_call 98; refine HC'.out.mono ?_; rintro e w3 ⟨rfl, hb3⟩; have F3 : Hid (Five w3 w.heap.size _ _ _ _ _) := H5'.out.below hb3 hb1; obtain ⟨c0, c1, c2, c3, c4, f⟩ := F3.out; have f0 := f 0 (by omega); have f1 := f 1 (by omega); have f2 := f 2 (by omega); have f3 := f 3 (by omega); have f4 := f 4 (by omega); clear f)
      | go_in)
    exact bodyPost_ret (ret5 (five_set F3.out _ _ _ _ _) rfl rfl) rfl ⟨rfl, below_set5 (HB0.out.trans (hb3.mono (by omega))) (Nat.le_refl _) _ _ _ _ _⟩
  · obtain ⟨a0, a1, a2, a3, a4, x, hv⟩ := resV_shape k (txtS ((t.data.toList.drop (k + 1)).length + 1) 1 [] (t.data.toList.drop (k + 1)))
    have HC := textAt_any t k (w.alloc (.cells #[.int .i64 0, .int .i64 0, .int .i64 0, .string ⟨#[]⟩, .int .i64 0] 113)) ht hk
    rw [he]
    rw [hv] at HC ⊢
    have HC' : Hid (Calls Tryz.prog 99 #[.string t, .int .i64 (k : Int)] (w.alloc (.cells #[.int .i64 0, .int .i64 0, .int .i64 0, .string ⟨#[]⟩, .int .i64 0] 113)) fun e w' => e = .returned (.tuple #[.agg #[.int .i64 a0, .int .i64 a1, .int .i64 a2, .string a3, .int .i64 a4], .int .i64 x]) ∧ Below (w.alloc (.cells #[.int .i64 0, .int .i64 0, .int .i64 0, .string ⟨#[]⟩, .int .i64 0] 113)).heap.size (w.alloc (.cells #[.int .i64 0, .int .i64 0, .int .i64 0, .string ⟨#[]⟩, .int .i64 0] 113)) w') := HC
    rw [h1] at HL
    rw [h2] at HD
    clear HC he hv h1 h2
    subst h3
    go_enter Tryz.func88, Tryz.ntmps88
    go_wp2_with (first
      | (go_at_call 95; refine (HL.out _).mono ?_; rintro e w2 ⟨rfl, hw2⟩; subst hw2)
      | (go_at_call 97; refine (HD.out _).mono ?_; rintro e w2 ⟨rfl, hw2⟩; subst hw2)
      | (go_at_call 99; refine HC'.out.mono ?_; rintro e w3 ⟨rfl, hb3⟩; have F3 : Hid (Five w3 w.heap.size _ _ _ _ _) := H5'.out.below hb3 hb1; obtain ⟨c0, c1, c2, c3, c4, f⟩ := F3.out; have f0 := f 0 (by omega); have f1 := f 1 (by omega); have f2 := f 2 (by omega); have f3 := f 3 (by omega); have f4 := f 4 (by omega); clear f)
      | go_in)
    exact bodyPost_ret (ret5 (five_set F3.out _ _ _ _ _) rfl rfl) rfl ⟨rfl, below_set5 (HB0.out.trans (hb3.mono (by omega))) (Nat.le_refl _) _ _ _ _ _⟩
  · obtain ⟨a0, a1, a2, a3, a4, x, hv⟩ := resV_shape k (signS (t.data.toList.drop k))
    have HC := signAt_any t k _ ht hk HT.out
    rw [he]
    rw [hv] at HC ⊢
    have HC' : Hid (Calls Tryz.prog 100 #[.string t, .int .i64 (k : Int)] (w.alloc (.cells #[.int .i64 0, .int .i64 0, .int .i64 0, .string ⟨#[]⟩, .int .i64 0] 113)) fun e w' => e = .returned (.tuple #[.agg #[.int .i64 a0, .int .i64 a1, .int .i64 a2, .string a3, .int .i64 a4], .int .i64 x]) ∧ Below (w.alloc (.cells #[.int .i64 0, .int .i64 0, .int .i64 0, .string ⟨#[]⟩, .int .i64 0] 113)).heap.size (w.alloc (.cells #[.int .i64 0, .int .i64 0, .int .i64 0, .string ⟨#[]⟩, .int .i64 0] 113)) w') := HC
    rw [h1] at HL
    rw [h2] at HD
    have b34 := u8ne (n := 34) (by omega) h3
    clear HC he hv h1 h2 h3
    go_enter Tryz.func88, Tryz.ntmps88
    go_wp2_with (first
      | (go_at_call 95; refine (HL.out _).mono ?_; rintro e w2 ⟨rfl, hw2⟩; subst hw2)
      | (go_at_call 97; refine (HD.out _).mono ?_; rintro e w2 ⟨rfl, hw2⟩; subst hw2)
      | (go_at_call 100; refine HC'.out.mono ?_; rintro e w3 ⟨rfl, hb3⟩; have F3 : Hid (Five w3 w.heap.size _ _ _ _ _) := H5'.out.below hb3 hb1; obtain ⟨c0, c1, c2, c3, c4, f⟩ := F3.out; have f0 := f 0 (by omega); have f1 := f 1 (by omega); have f2 := f 2 (by omega); have f3 := f 3 (by omega); have f4 := f 4 (by omega); clear f)
      | go_in)
    exact bodyPost_ret (ret5 (five_set F3.out _ _ _ _ _) rfl rfl) rfl ⟨rfl, below_set5 (HB0.out.trans (hb3.mono (by omega))) (Nat.le_refl _) _ _ _ _ _⟩
end Go.Proofs.YtichbejmelkjeaaGreatDoor.Lx

namespace Go.Proofs.YtichbejmelkjeaaGreatDoor.Lx
open Go.RowKit

theorem letter_inner {c : UInt8} (h : letterB c = true) : innerB c = true := by unfold innerB; rw [h]; rfl
theorem digit_inner {c : UInt8} (h : digitB c = true) : innerB c = true := by unfold innerB; rw [h]; simp

theorem tw_pos {p : UInt8 → Bool} {c : UInt8} {r : List UInt8} (h : p c = true) : 1 ≤ ((c :: r).takeWhile p).length := by rw [List.takeWhile_cons, if_pos h]; simp
theorem tw_le {p : UInt8 → Bool} (l : List UInt8) : (l.takeWhile p).length ≤ l.length := (List.takeWhile_sublist _).length_le

theorem word_len {c : UInt8} {r : List UInt8} {x : Tk} (hc : innerB c = true) (h : wordS (c :: r) = .inr x) : 1 ≤ x.len ∧ x.len ≤ (c :: r).length := by
  have h1 := tw_pos (r := r) hc
  have h2 := tw_le (p := innerB) (c :: r)
  unfold wordS at h
  simp only at h
  split at h
  · cases h; exact ⟨h1, h2⟩
  · split at h
    · cases h
    · cases h; exact ⟨h1, h2⟩
theorem num_len {c : UInt8} {r : List UInt8} {x : Tk} (hc : digitB c = true) (h : numS (c :: r) = .inr x) : 1 ≤ x.len ∧ x.len ≤ (c :: r).length := by
  have h1 := tw_pos (r := r) hc
  have h2 := tw_le (p := digitB) (c :: r)
  unfold numS at h
  simp only at h
  split at h
  · cases h
  · split at h
    · cases h
    · split at h
      · cases h; exact ⟨h1, h2⟩
      · cases h
theorem txt_len (f : Nat) : ∀ (n : Nat) (V l : List UInt8) (x : Tk), txtS f n V l = .inr x → n + 1 ≤ x.len ∧ x.len ≤ n + l.length := by
  induction f with
  | zero => intro n V l x h; simp [txtS] at h
  | succ f ih =>
    intro n V l x h
    match l with
    | [] => simp [txtS] at h
    | c :: r =>
      unfold txtS at h
      split at h
      · cases h
        simp
      · split at h
        · cases h
        · obtain ⟨h1, h2⟩ := ih _ _ _ _ h
          have hle := pcS_le (c :: r)
          rw [List.length_drop] at h2
          omega
theorem sgs_pos : ∀ s ∈ sgs, 1 ≤ s.size := by decide
theorem sign_len {l : List UInt8} {x : Tk} (h : signS l = .inr x) : 1 ≤ x.len ∧ x.len ≤ l.length := by
  unfold signS at h
  split at h
  · rename_i s hf
    cases h
    have hm := List.mem_of_find?_eq_some hf
    have hp := List.find?_some hf
    refine ⟨sgs_pos s hm, ?_⟩
    show s.size ≤ l.length
    rw [Lib.size_eq]
    exact (List.isPrefixOf_iff_prefix.1 hp).length_le
  · cases h
theorem tok_len {l : List UInt8} {x : Tk} (h : tokS l = .inr x) : 1 ≤ x.len ∧ x.len ≤ l.length := by
  match l with
  | [] => simp [tokS] at h
  | c :: r =>
    simp only [tokS] at h
    split at h
    · rename_i hc; exact word_len (letter_inner hc) h
    · split at h
      · rename_i hc; exact num_len hc h
      · split at h
        · have := txt_len _ _ _ _ _ h
          rw [List.length_cons]
          omega
        · exact sign_len h

theorem word_err {l : List UInt8} {e : Nat} (h : wordS l = .inl e) : 20 ≤ e ∧ e ≤ 23 := by
  unfold wordS at h
  simp only at h
  split at h
  · cases h
  · split at h
    · cases h; omega
    · cases h
theorem num_err {l : List UInt8} {e : Nat} (h : numS l = .inl e) : 20 ≤ e ∧ e ≤ 23 := by
  unfold numS at h
  simp only at h
  split at h
  · cases h; omega
  · split at h
    · cases h; omega
    · split at h
      · cases h
      · cases h; omega
theorem txt_err (f : Nat) : ∀ (n : Nat) (V l : List UInt8) (e : Nat), txtS f n V l = .inl e → 20 ≤ e ∧ e ≤ 23 := by
  induction f with
  | zero => intro n V l x h; simp [txtS] at h; omega
  | succ f ih =>
    intro n V l x h
    match l with
    | [] => simp [txtS] at h; omega
    | c :: r =>
      unfold txtS at h
      split at h
      · cases h
      · split at h
        · cases h; omega
        · exact ih _ _ _ _ h
theorem sign_err {l : List UInt8} {e : Nat} (h : signS l = .inl e) : 20 ≤ e ∧ e ≤ 23 := by
  unfold signS at h
  split at h
  · cases h
  · cases h; omega
theorem tok_err {l : List UInt8} {e : Nat} (h : tokS l = .inl e) : 20 ≤ e ∧ e ≤ 23 := by
  match l with
  | [] => simp [tokS] at h; omega
  | c :: r =>
    simp only [tokS] at h
    split at h
    · exact word_err h
    · split at h
      · exact num_err h
      · split at h
        · exact txt_err _ _ _ _ _ h
        · exact sign_err h

/-- Tokens ahead of what is scanned. -/
def comb (acc : List (Nat × Tk)) : Scanned → Scanned
  | .inl p => .inl p
  | .inr l => .inr (acc ++ l)

theorem scan_end (f k : Nat) : scanS (f + 1) k [] = .inr [(k, ⟨0, 0, [], 0⟩)] := rfl
theorem scan_blank (f k : Nat) (c : UInt8) (r : List UInt8) (h : blankB c = true) : scanS (f + 1) k (c :: r) = scanS f (k + 1) r := by
  simp only [scanS]; rw [if_pos h]
theorem scan_cmt (f k : Nat) (r : List UInt8) : scanS (f + 1) k (35 :: r) = scanS f (k + cmtS (35 :: r)) ((35 :: r).drop (cmtS (35 :: r))) := by
  simp only [scanS]; rw [if_neg (by decide), if_pos trivial]
theorem scan_bad (f k : Nat) (c : UInt8) (r : List UInt8) (e : Nat) (h : blankB c = false) (h2 : c ≠ 35) (ht : tokS (c :: r) = .inl e) : scanS (f + 1) k (c :: r) = .inl (e, k) := by
  simp only [scanS]; rw [if_neg (by rw [h]; simp), if_neg h2, ht]
theorem scan_tok (f k : Nat) (c : UInt8) (r : List UInt8) (x : Tk) (acc : List (Nat × Tk)) (h : blankB c = false) (h2 : c ≠ 35) (ht : tokS (c :: r) = .inr x) : comb acc (scanS (f + 1) k (c :: r)) = comb (acc ++ [(k, x)]) (scanS f (k + x.len) ((c :: r).drop x.len)) := by
  simp only [scanS]; rw [if_neg (by rw [h]; simp), if_neg h2, ht]
  simp only
  cases scanS f (k + x.len) ((c :: r).drop x.len) with
  | inl p => rfl
  | inr l => simp [comb]
theorem cmt_pos (r : List UInt8) : 1 ≤ cmtS (35 :: r) := by unfold cmtS; exact tw_pos (by decide)

def toksV (l : List (Nat × Tk)) : List Value := l.flatMap fun p => tkCells p.1 p.2
theorem toksV_app (a b : List (Nat × Tk)) : toksV (a ++ b) = toksV a ++ toksV b := List.flatMap_append
theorem toksV_len (a : List (Nat × Tk)) : (toksV a).length = a.length * 5 := by
  induction a with
  | nil => rfl
  | cons p a ih => unfold toksV at *; rw [List.flatMap_cons, List.length_append, ih, List.length_cons]; simp [tkCells]; omega
end Go.Proofs.YtichbejmelkjeaaGreatDoor.Lx

namespace Go.Proofs.YtichbejmelkjeaaGreatDoor.Lx
open Go.RowKit

/-! A token is found again in the text that ends behind it. -/
theorem tw_take (p : UInt8 → Bool) : ∀ (l : List UInt8) (m : Nat), (l.takeWhile p).length ≤ m → (l.take m).takeWhile p = l.takeWhile p := by
  intro l
  induction l with
  | nil => intro m _; simp
  | cons c r ih =>
    intro m hm
    by_cases hc : p c = true
    · rw [List.takeWhile_cons, if_pos hc] at hm ⊢
      obtain ⟨m, rfl⟩ : ∃ k, m = k + 1 := ⟨m - 1, by rw [List.length_cons] at hm; omega⟩
      rw [List.take_succ_cons, List.takeWhile_cons, if_pos hc, ih m (by rw [List.length_cons] at hm; omega)]
    · rw [List.takeWhile_cons, if_neg hc]
      cases m with
      | zero => rfl
      | succ m => rw [List.take_succ_cons, List.takeWhile_cons, if_neg hc]

theorem word_take {l : List UInt8} {x : Tk} {m : Nat} (h : wordS l = .inr x) (hm : x.len ≤ m) : wordS (l.take m) = .inr x := by
  have hl : x.len = (l.takeWhile innerB).length := by
    unfold wordS at h
    simp only at h
    split at h
    · cases h; rfl
    · split at h
      · cases h
      · cases h; rfl
  have e := tw_take innerB l m (by omega)
  rw [← h]
  unfold wordS
  simp only [e]

theorem head_take {α : Type} (l : List α) (n m : Nat) : ((l.take m).drop n).head? = none ∨ ((l.take m).drop n).head? = (l.drop n).head? := by
  rw [List.drop_take]
  by_cases h : m - n = 0
  · left; rw [h]; simp
  · right
    obtain ⟨k, hk⟩ : ∃ k, m - n = k + 1 := ⟨m - n - 1, by omega⟩
    rw [hk]
    cases l.drop n <;> simp

theorem num_take {l : List UInt8} {x : Tk} {m : Nat} (h : numS l = .inr x) (hm : x.len ≤ m) : numS (l.take m) = .inr x := by
  have hl : x.len = (l.takeWhile digitB).length := by
    unfold numS at h
    simp only at h
    split at h
    · cases h
    · split at h
      · cases h
      · split at h
        · cases h; rfl
        · cases h
  have e := tw_take digitB l m (by omega)
  unfold numS at h ⊢
  simp only [e] at h ⊢
  split at h
  · cases h
  · rename_i h1
    rw [if_neg h1]
    split at h
    · cases h
    · rename_i h2
      rw [if_neg (by
        rcases head_take l (l.takeWhile digitB).length m with h3 | h3
        · rw [h3]; simp
        · rw [h3]; exact h2)]
      exact h

theorem pcS_take (l : List UInt8) (m : Nat) (hm : (pcS l).2 ≤ m) (h0 : (pcS l).2 ≠ 0) : pcS (l.take m) = pcS l := by
  match l with
  | [] => simp
  | c :: r =>
    obtain ⟨m, rfl⟩ : ∃ k, m = k + 1 := ⟨m - 1, by omega⟩
    rw [List.take_succ_cons]
    by_cases hc : c ≠ 92
    · simp only [pcS]
      rw [if_pos hc, if_pos hc]
    · simp only [pcS] at hm h0 ⊢
      rw [if_neg hc] at hm h0 ⊢
      rw [if_neg hc]
      match r with
      | [] => simp
      | d :: r =>
        simp only at hm h0 ⊢
        have hm1 : 1 ≤ m := by
          by_cases d1 : d = 110
          · rw [if_pos d1] at hm; simp only at hm; omega
          · rw [if_neg d1] at hm h0
            by_cases d2 : d = 34 ∨ d = 92
            · rw [if_pos d2] at hm; simp only at hm; omega
            · rw [if_neg d2] at hm h0
              by_cases d3 : d = 120
              · rw [if_pos d3] at hm h0
                match r with
                | [] => simp at h0
                | [a] => simp at h0
                | a :: b :: r =>
                  simp only at hm h0
                  split at hm
                  · simp only at hm; omega
                  · rename_i hn; rw [if_neg hn] at h0; simp at h0
              · rw [if_neg d3] at h0; simp at h0
        obtain ⟨m, rfl⟩ : ∃ k, m = k + 1 := ⟨m - 1, by omega⟩
        rw [List.take_succ_cons]
        simp only
        by_cases d1 : d = 110
        · rw [if_pos d1, if_pos d1]
        · rw [if_neg d1] at hm h0 ⊢
          rw [if_neg d1]
          by_cases d2 : d = 34 ∨ d = 92
          · rw [if_pos d2, if_pos d2]
          · rw [if_neg d2] at hm h0 ⊢
            rw [if_neg d2]
            by_cases d3 : d = 120
            · rw [if_pos d3] at hm h0 ⊢
              rw [if_pos d3]
              match r with
              | [] => simp at h0
              | [a] => simp at h0
              | a :: b :: r =>
                simp only at hm h0 ⊢
                have hm2 : 2 ≤ m := by
                  split at hm
                  · simp only at hm; omega
                  · rename_i hn; rw [if_neg hn] at h0; simp at h0
                obtain ⟨m, rfl⟩ : ∃ k, m = k + 2 := ⟨m - 2, by omega⟩
                rw [List.take_succ_cons, List.take_succ_cons]
            · rw [if_neg d3, if_neg d3]

theorem txt_take (f : Nat) : ∀ (f' n m : Nat) (V l : List UInt8) (x : Tk), txtS f n V l = .inr x → x.len ≤ n + m → f ≤ f' ∨ m < f' → txtS f' n V (l.take m) = .inr x := by
  induction f with
  | zero => intro f' n m V l x h _ _; simp [txtS] at h
  | succ f ih =>
    intro f' n m V l x h hm hf
    match l with
    | [] => simp [txtS] at h
    | c :: r =>
      have hlen := txt_len _ _ _ _ _ h
      obtain ⟨m, rfl⟩ : ∃ k, m = k + 1 := ⟨m - 1, by omega⟩
      obtain ⟨f', rfl⟩ : ∃ k, f' = k + 1 := ⟨f' - 1, by omega⟩
      rw [List.take_succ_cons]
      unfold txtS at h ⊢
      by_cases hq : c = 34
      · rw [if_pos hq] at h ⊢
        exact h
      · rw [if_neg hq] at h ⊢
        by_cases hb : (pcS (c :: r)).2 = 0 ∨ V.length = 200
        · rw [if_pos hb] at h; cases h
        · rw [if_neg hb] at h
          have hl2 := txt_len _ _ _ _ _ h
          have hp0 : (pcS (c :: r)).2 ≠ 0 := fun e => hb (Or.inl e)
          have e := pcS_take (c :: r) (m + 1) (by omega) hp0
          rw [List.take_succ_cons] at e
          rw [e, if_neg hb, ← List.take_succ_cons, List.drop_take]
          exact ih _ _ _ _ _ _ h (by omega) (by omega)

theorem sign_take {l : List UInt8} {x : Tk} {m : Nat} (h : signS l = .inr x) (hm : x.len ≤ m) : signS (l.take m) = .inr x := by
  unfold signS at h
  split at h
  · rename_i s hf
    cases h
    simp only at hm
    have hf2 : sgs.find? (fun s => s.data.toList.isPrefixOf (l.take m)) = some s := by
      rw [List.find?_eq_some_iff_append] at hf ⊢
      obtain ⟨hp, l1, l2, e, hn⟩ := hf
      refine ⟨?_, l1, l2, e, fun a ha => ?_⟩
      · rw [List.isPrefixOf_iff_prefix] at hp ⊢
        rw [Lib.size_eq] at hm
        exact List.prefix_take_iff.2 ⟨hp, hm⟩
      · have := hn a ha
        rw [Bool.not_eq_true', ← Bool.not_eq_true] at this ⊢
        intro h2
        apply this
        rw [List.isPrefixOf_iff_prefix] at h2 ⊢
        exact h2.trans (List.take_prefix _ _)
    unfold signS
    rw [hf2]
  · cases h

theorem tok_take {l : List UInt8} {x : Tk} {m : Nat} (h : tokS l = .inr x) (hm : x.len ≤ m) : tokS (l.take m) = .inr x := by
  match l with
  | [] => simp [tokS] at h
  | c :: r =>
    have hlen := tok_len h
    obtain ⟨m, rfl⟩ : ∃ k, m = k + 1 := ⟨m - 1, by omega⟩
    rw [List.take_succ_cons]
    simp only [tokS] at h ⊢
    by_cases h1 : letterB c = true
    · rw [if_pos h1] at h ⊢
      have := word_take h hm
      rwa [List.take_succ_cons] at this
    · rw [if_neg h1] at h ⊢
      by_cases h2 : digitB c = true
      · rw [if_pos h2] at h ⊢
        have := num_take h hm
        rwa [List.take_succ_cons] at this
      · rw [if_neg h2] at h ⊢
        by_cases h3 : c = 34
        · rw [if_pos h3] at h ⊢
          have hl2 := txt_len _ _ _ _ _ h
          refine txt_take _ _ _ _ _ _ _ h (by omega) ?_
          rw [List.length_take]
          omega
        · rw [if_neg h3] at h ⊢
          have := sign_take h hm
          rwa [List.take_succ_cons] at this

/-- Where the first problem stands. -/
theorem scan_err (f : Nat) : ∀ (k : Nat) (l : List UInt8) (e q : Nat), l.length < f → scanS f k l = .inl (e, q) → ∃ m, q = k + m ∧ m < l.length ∧ ∃ c r, l.drop m = c :: r ∧ blankB c = false ∧ c ≠ 35 ∧ tokS (c :: r) = .inl e ∧ ∃ toks, toks ≠ [] ∧ scanS f k (l.take m) = .inr toks := by
  induction f with
  | zero => intro k l e q hl _; omega
  | succ f ih =>
    intro k l e q hl h
    match l with
    | [] => cases h
    | c :: r =>
      rw [List.length_cons] at hl
      by_cases hb : blankB c = true
      · rw [scan_blank f k c r hb] at h
        obtain ⟨m, rfl, hm, c2, r2, hd, h1, h2, h3, toks, ht, hs⟩ := ih _ _ _ _ (by omega) h
        refine ⟨m + 1, by omega, by rw [List.length_cons]; omega, c2, r2, by rw [List.drop_succ_cons]; exact hd, h1, h2, h3, toks, ht, ?_⟩
        rw [List.take_succ_cons, scan_blank f k c _ hb]
        exact hs
      · have hbf : blankB c = false := by simpa using hb
        by_cases h35 : c = 35
        · subst h35
          have hcp := cmt_pos r
          have hcl := cmt_le (35 :: r)
          rw [scan_cmt] at h
          obtain ⟨m, rfl, hm, c2, r2, hd, h1, h2, h3, toks, ht, hs⟩ := ih _ _ _ _ (by rw [List.length_drop, List.length_cons]; omega) h
          rw [List.length_drop] at hm
          rw [List.drop_drop] at hd
          refine ⟨cmtS (35 :: r) + m, by omega, by omega, c2, r2, hd, h1, h2, h3, toks, ht, ?_⟩
          have ec : cmtS ((35 :: r).take (cmtS (35 :: r) + m)) = cmtS (35 :: r) := by
            unfold cmtS
            rw [tw_take _ (35 :: r) _ (by omega)]
          obtain ⟨p, hp⟩ : ∃ p, cmtS (35 :: r) + m = p + 1 := ⟨cmtS (35 :: r) + m - 1, by omega⟩
          have e2 : (35 :: r).take (cmtS (35 :: r) + m) = 35 :: r.take p := by rw [hp, List.take_succ_cons]
          rw [e2, scan_cmt, ← e2, ec, List.drop_take, Nat.add_sub_cancel_left]
          exact hs
        · cases hk : tokS (c :: r) with
          | inl e' =>
            rw [scan_bad f k c r e' hbf h35 hk] at h
            cases h
            exact ⟨0, by omega, by simp, c, r, rfl, hbf, h35, hk, [(k, ⟨0, 0, [], 0⟩)], by simp, by rw [List.take_zero]; exact scan_end f k⟩
          | inr x =>
            obtain ⟨hl1, hl2⟩ := tok_len hk
            have hcomb := scan_tok f k c r x [] hbf h35 hk
            rw [h] at hcomb
            have hrec : scanS f (k + x.len) ((c :: r).drop x.len) = .inl (e, q) := by
              cases hz : scanS f (k + x.len) ((c :: r).drop x.len) with
              | inl p => rw [hz] at hcomb; exact hcomb.symm
              | inr l => rw [hz] at hcomb; cases hcomb
            obtain ⟨m, rfl, hm, c2, r2, hd, h1, h2, h3, toks, ht, hs⟩ := ih _ _ _ _ (by rw [List.length_drop, List.length_cons]; omega) hrec
            rw [List.length_drop] at hm
            rw [List.drop_drop] at hd
            refine ⟨x.len + m, by omega, by omega, c2, r2, hd, h1, h2, h3, (k, x) :: toks, by simp, ?_⟩
            obtain ⟨p, hp⟩ : ∃ p, x.len + m = p + 1 := ⟨x.len + m - 1, by omega⟩
            have e2 : (c :: r).take (x.len + m) = c :: r.take p := by rw [hp, List.take_succ_cons]
            have hk2 := tok_take (m := x.len + m) hk (by omega)
            rw [e2] at hk2
            have hc2 := scan_tok f k c (r.take p) x [] hbf h35 hk2
            rw [← e2, List.drop_take, Nat.add_sub_cancel_left, hs] at hc2
            rw [e2] at hc2 ⊢
            cases hz : scanS (f + 1) k (c :: r.take p) with
            | inl q => rw [hz] at hc2; cases hc2
            | inr l => rw [hz] at hc2; simpa [comb] using hc2
theorem scan_some (f : Nat) : ∀ (k : Nat) (l : List UInt8) (toks : List (Nat × Tk)), scanS f k l = .inr toks → toks ≠ [] := by
  induction f with
  | zero => intro k l toks h; cases h
  | succ f ih =>
    intro k l toks h
    match l with
    | [] => cases h; simp
    | c :: r =>
      simp only [scanS] at h
      split at h
      · exact ih _ _ _ h
      · split at h
        · exact ih _ _ _ h
        · split at h
          · cases h
          · split at h
            · cases h
            · cases h; simp
end Go.Proofs.YtichbejmelkjeaaGreatDoor.Lx
namespace Go.Proofs.YtichbejmelkjeaaGreatDoor.Lx
/-- More fuel makes no difference. -/
theorem scan_more (f : Nat) : ∀ (f' k : Nat) (l : List UInt8) {p : Scanned}, l.length < f → f ≤ f' → scanS f k l = p → scanS f' k l = p := by
  induction f with
  | zero => intro f' k l p hl; omega
  | succ f ih =>
    intro f' k l p hl hf h
    obtain ⟨f', rfl⟩ : ∃ g, f' = g + 1 := ⟨f' - 1, by omega⟩
    match l with
    | [] => exact h
    | c :: r =>
      rw [List.length_cons] at hl
      by_cases hb : blankB c = true
      · rw [scan_blank _ k c r hb] at h ⊢
        exact ih _ _ _ (by omega) (by omega) h
      · have hbf : blankB c = false := by simpa using hb
        by_cases h35 : c = 35
        · subst h35
          have hcp := cmt_pos r
          rw [scan_cmt] at h ⊢
          exact ih _ _ _ (by rw [List.length_drop, List.length_cons]; omega) (by omega) h
        · cases hk : tokS (c :: r) with
          | inl e =>
            rw [scan_bad _ k c r e hbf h35 hk] at h ⊢
            exact h
          | inr x =>
            obtain ⟨hl1, hl2⟩ := tok_len hk
            have hrec := ih f' (k + x.len) ((c :: r).drop x.len) (by rw [List.length_drop, List.length_cons]; omega) (by omega) rfl
            rw [← h]
            simp only [scanS]
            rw [if_neg hb, if_neg h35, hk]
            simp only [hrec]
            rw [if_neg hb, if_neg h35]
end Go.Proofs.YtichbejmelkjeaaGreatDoor.Lx

namespace Go.Proofs.YtichbejmelkjeaaGreatDoor.Lx
open Go.RowKit

/-- How many bytes are gaps from here on; the flag: in a comment. -/
def gpS : Bool → List UInt8 → Nat
  | _, [] => 0
  | true, c :: r => if c = 10 then 1 + gpS false r else 1 + gpS true r
  | false, c :: r => if c = 35 then 1 + gpS true r else if blankB c = true then 1 + gpS false r else 0

theorem gp_le (b : Bool) (l : List UInt8) : gpS b l ≤ l.length := by
  induction l generalizing b with
  | nil => cases b <;> simp [gpS]
  | cons c r ih =>
    have h1 := ih true
    have h2 := ih false
    cases b
    · simp only [gpS, List.length_cons]
      split
      · omega
      · split <;> omega
    · simp only [gpS, List.length_cons]
      split <;> omega
theorem gp_true_app (ys zs : List UInt8) (h : ∀ c ∈ ys, c ≠ 10) : gpS true (ys ++ zs) = ys.length + gpS true zs := by
  induction ys with
  | nil => simp
  | cons c ys ih =>
    rw [List.cons_append]
    simp only [gpS]
    rw [if_neg (h c (by simp)), ih (fun d hd => h d (by simp [hd])), List.length_cons]
    omega
theorem gp_same (zs : List UInt8) (h : zs = [] ∨ ∃ r, zs = 10 :: r) : gpS true zs = gpS false zs := by
  rcases h with rfl | ⟨r, rfl⟩
  · rfl
  · simp only [gpS]
    rw [if_pos trivial, if_neg (by decide), if_pos (by decide)]
theorem cmt_rest (l : List UInt8) : l.drop (cmtS l) = [] ∨ ∃ r, l.drop (cmtS l) = 10 :: r := by
  unfold cmtS
  induction l with
  | nil => left; rfl
  | cons c l ih =>
    by_cases hc : c = 10
    · subst hc; right; exact ⟨l, rfl⟩
    · have h2 : (c != 10) = true := by simpa using hc
      rw [List.takeWhile_cons, if_pos h2, List.length_cons, List.drop_succ_cons]
      exact ih
theorem cmt_bytes (l : List UInt8) : ∀ c ∈ l.take (cmtS l), c ≠ 10 := by
  unfold cmtS
  induction l with
  | nil => simp
  | cons c l ih =>
    by_cases hc : c = 10
    · subst hc; simp
    · have h2 : (c != 10) = true := by simpa using hc
      rw [List.takeWhile_cons, if_pos h2, List.length_cons, List.take_succ_cons]
      intro d hd
      rcases List.mem_cons.1 hd with rfl | hd
      · exact hc
      · exact ih d hd

theorem gap_cmt (r : List UInt8) (m : Nat) (h : gpS false (((35 :: r).drop (cmtS (35 :: r))).take m) = m) (hm : m ≤ ((35 :: r).drop (cmtS (35 :: r))).length) : gpS false ((35 :: r).take (cmtS (35 :: r) + m)) = cmtS (35 :: r) + m := by
  have hp := cmt_pos r
  have hr := cmt_rest (35 :: r)
  have hb := cmt_bytes (35 :: r)
  have hle := cmt_le (35 :: r)
  generalize cmtS (35 :: r) = n at *
  obtain ⟨n, rfl⟩ : ∃ k, n = k + 1 := ⟨n - 1, by omega⟩
  rw [List.take_succ_cons] at hb
  rw [List.drop_succ_cons] at h hr hm
  rw [show n + 1 + m = (n + m) + 1 from by omega, List.take_succ_cons]
  simp only [gpS]
  rw [if_pos trivial, List.take_add, gp_true_app _ _ (fun c hc => hb c (by simp [hc])), List.length_take]
  rw [List.length_cons] at hle
  rw [gp_same _ (by
    rcases hr with e | ⟨q, e⟩
    · left; rw [e]; simp
    · cases m with
      | zero => left; simp
      | succ m => right; rw [e, List.take_succ_cons]; exact ⟨_, rfl⟩), h]
  omega

/-- What stands first: a gap, and then the end or a token. -/
theorem scan_head (f : Nat) : ∀ (k : Nat) (l : List UInt8) (toks : List (Nat × Tk)), l.length < f → scanS f k l = .inr toks →
    ∃ m, m ≤ l.length ∧ gpS false (l.take m) = m ∧ ((m = l.length ∧ toks = [(k + m, ⟨0, 0, [], 0⟩)]) ∨
      ∃ c r x rest f', l.drop m = c :: r ∧ blankB c = false ∧ c ≠ 35 ∧ tokS (c :: r) = .inr x ∧ toks = (k + m, x) :: rest ∧ (l.drop (m + x.len)).length < f' ∧ scanS f' (k + m + x.len) (l.drop (m + x.len)) = .inr rest) := by
  induction f with
  | zero => intro k l toks hl; omega
  | succ f ih =>
    intro k l toks hl h
    match l with
    | [] =>
      cases h
      exact ⟨0, Nat.le_refl _, rfl, Or.inl ⟨rfl, rfl⟩⟩
    | c :: r =>
      rw [List.length_cons] at hl
      by_cases hb : blankB c = true
      · rw [scan_blank f k c r hb] at h
        obtain ⟨m, hm, hg, hrest⟩ := ih _ _ _ (by omega) h
        refine ⟨m + 1, by rw [List.length_cons]; omega, ?_, ?_⟩
        · rw [List.take_succ_cons]
          simp only [gpS]
          have h35 : c ≠ 35 := fun e => by subst e; exact absurd hb (by decide)
          rw [if_neg h35, if_pos hb, hg]
          omega
        · rcases hrest with ⟨rfl, rfl⟩ | ⟨c2, r2, x, rest, f', h1, h2, h3, h4, h5, h6, h7⟩
          · left; exact ⟨by rw [List.length_cons], by rw [show k + (r.length + 1) = k + 1 + r.length from by omega]⟩
          · right
            refine ⟨c2, r2, x, rest, f', by rw [List.drop_succ_cons]; exact h1, h2, h3, h4, by rw [h5, show k + (m + 1) = k + 1 + m from by omega], ?_, ?_⟩
            · rw [show m + 1 + x.len = (m + x.len) + 1 from by omega, List.drop_succ_cons]; exact h6
            · rw [show m + 1 + x.len = (m + x.len) + 1 from by omega, List.drop_succ_cons, show k + (m + 1) + x.len = k + 1 + m + x.len from by omega]; exact h7
      · have hbf : blankB c = false := by simpa using hb
        by_cases h35 : c = 35
        · subst h35
          have hcp := cmt_pos r
          have hcl := cmt_le (35 :: r)
          rw [scan_cmt] at h
          obtain ⟨m, hm, hg, hrest⟩ := ih _ _ _ (by rw [List.length_drop, List.length_cons]; omega) h
          have hgc := gap_cmt r m hg hm
          rw [List.length_drop] at hm
          refine ⟨cmtS (35 :: r) + m, by omega, hgc, ?_⟩
          rcases hrest with ⟨hm2, rfl⟩ | ⟨c2, r2, x, rest, f', h1, h2, h3, h4, h5, h6, h7⟩
          · left
            rw [List.length_drop] at hm2
            exact ⟨by omega, by rw [Nat.add_assoc]⟩
          · right
            rw [List.drop_drop] at h1 h6 h7
            refine ⟨c2, r2, x, rest, f', h1, h2, h3, h4, by rw [h5, Nat.add_assoc], ?_, ?_⟩
            · rw [Nat.add_assoc]; exact h6
            · rw [Nat.add_assoc (cmtS (35 :: r)), ← Nat.add_assoc k]; exact h7
        · cases hk : tokS (c :: r) with
          | inl e => rw [scan_bad f k c r e hbf h35 hk] at h; cases h
          | inr x =>
            obtain ⟨hl1, hl2⟩ := tok_len hk
            have hcomb := scan_tok f k c r x [] hbf h35 hk
            rw [h] at hcomb
            cases hz : scanS f (k + x.len) ((c :: r).drop x.len) with
            | inl p => rw [hz] at hcomb; cases hcomb
            | inr l =>
              rw [hz] at hcomb
              have e : toks = (k, x) :: l := by simpa [comb] using hcomb
              refine ⟨0, Nat.zero_le _, rfl, Or.inr ⟨c, r, x, l, f, rfl, hbf, h35, hk, by rw [e, Nat.add_zero], ?_, ?_⟩⟩
              · rw [Nat.zero_add, List.length_drop, List.length_cons]; omega
              · rw [Nat.zero_add, Nat.add_zero]; exact hz

/-- The tokens from an offset on cover the text from there on. -/
def Cov (L : List UInt8) : Nat → List (Nat × Tk) → Prop
  | _, [] => False
  | a, [(k, x)] => a ≤ k ∧ k = L.length ∧ x = ⟨0, 0, [], 0⟩ ∧ gpS false ((L.take k).drop a) = k - a
  | a, (k, x) :: y :: rest => a ≤ k ∧ 1 ≤ x.len ∧ k + x.len ≤ L.length ∧ gpS false ((L.take k).drop a) = k - a ∧ (∃ c r, L.drop k = c :: r ∧ blankB c = false ∧ c ≠ 35 ∧ tokS (c :: r) = .inr x) ∧ Cov L (k + x.len) (y :: rest)

theorem cov_of_scan (L : List UInt8) : ∀ (n : Nat) (f a : Nat) (toks : List (Nat × Tk)), L.length - a < n → a ≤ L.length → (L.drop a).length < f → scanS f a (L.drop a) = .inr toks → Cov L a toks := by
  intro n
  induction n with
  | zero => intro f a toks h; omega
  | succ n ih =>
    intro f a toks hn ha hf h
    obtain ⟨m, hm, hg, hrest⟩ := scan_head f a _ _ hf h
    rw [List.length_drop] at hm
    have hgap : gpS false ((L.take (a + m)).drop a) = a + m - a := by rw [List.drop_take, Nat.add_sub_cancel_left]; exact hg
    rcases hrest with ⟨hm2, rfl⟩ | ⟨c, r, x, rest, f', h1, h2, h3, h4, rfl, h6, h7⟩
    · rw [List.length_drop] at hm2
      exact ⟨by omega, by omega, rfl, hgap⟩
    · rw [List.drop_drop] at h1 h6 h7
      have hl := tok_len h4
      have hll : (c :: r).length = L.length - (a + m) := by rw [← h1, List.length_drop]
      rw [hll] at hl
      have hne := scan_some _ _ _ _ h7
      have e : a + (m + x.len) = a + m + x.len := by omega
      rw [e] at h6 h7
      have hcov := ih f' (a + m + x.len) rest (by omega) (by omega) h6 h7
      match rest, hne, hcov with
      | y :: rest, _, hcov => exact ⟨by omega, hl.1, by omega, hgap, ⟨c, r, h1, h2, h3, h4⟩, hcov⟩

/-- A token's own piece is the token, and the end. -/
theorem piece_scan {l : List UInt8} {c : UInt8} {r : List UInt8} {x : Tk} (h1 : l = c :: r) (h2 : blankB c = false) (h3 : c ≠ 35) (h4 : tokS (c :: r) = .inr x) : scanS (x.len + 1) 0 (l.take x.len) = .inr [(0, x), (x.len, ⟨0, 0, [], 0⟩)] := by
  subst h1
  have hl := tok_len h4
  obtain ⟨p, hp⟩ : ∃ p, x.len = p + 1 := ⟨x.len - 1, by omega⟩
  have e2 : (c :: r).take x.len = c :: r.take p := by rw [hp, List.take_succ_cons]
  have hk2 := tok_take (m := x.len) h4 (Nat.le_refl _)
  rw [e2] at hk2
  have hc2 := scan_tok x.len 0 c (r.take p) x [] h2 h3 hk2
  rw [← e2, List.drop_take, Nat.sub_self, List.take_zero, Nat.zero_add, hp, scan_end, ← hp] at hc2
  rw [e2] at hc2 ⊢
  cases hz : scanS (x.len + 1) 0 (c :: r.take p) with
  | inl q => rw [hz] at hc2; cases hc2
  | inr l => rw [hz] at hc2; simpa [comb] using hc2
end Go.Proofs.YtichbejmelkjeaaGreatDoor.Lx
namespace Go.Proofs.YtichbejmelkjeaaGreatDoor.Lx
theorem scan_len (f : Nat) : ∀ (k : Nat) (l : List UInt8) (toks : List (Nat × Tk)), scanS f k l = .inr toks → toks.length ≤ l.length + 1 := by
  induction f with
  | zero => intro k l toks h; cases h
  | succ f ih =>
    intro k l toks h
    match l with
    | [] => cases h; simp
    | c :: r =>
      by_cases hb : blankB c = true
      · rw [scan_blank f k c r hb] at h
        have := ih _ _ _ h
        rw [List.length_cons]; omega
      · have hbf : blankB c = false := by simpa using hb
        by_cases h35 : c = 35
        · subst h35
          rw [scan_cmt] at h
          have := ih _ _ _ h
          rw [List.length_drop] at this
          omega
        · cases hk : tokS (c :: r) with
          | inl e => rw [scan_bad f k c r e hbf h35 hk] at h; cases h
          | inr x =>
            obtain ⟨hl1, hl2⟩ := tok_len hk
            have hcomb := scan_tok f k c r x [] hbf h35 hk
            rw [h] at hcomb
            cases hz : scanS f (k + x.len) ((c :: r).drop x.len) with
            | inl p => rw [hz] at hcomb; cases hcomb
            | inr l =>
              rw [hz] at hcomb
              have e : toks = (k, x) :: l := by simpa [comb] using hcomb
              have := ih _ _ _ hz
              rw [List.length_drop] at this
              rw [e, List.length_cons]
              omega
theorem scan_count (t : ByteArray) (ht : t.size ≤ 4194304) (toks : List (Nat × Tk)) (h : scanS (t.size + 1) 0 t.data.toList = .inr toks) : toks.length ≤ 4194305 := by
  have := scan_len _ _ _ _ h
  rw [← Lib.size_eq] at this
  omega
end Go.Proofs.YtichbejmelkjeaaGreatDoor.Lx
