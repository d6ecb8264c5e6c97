import Derived.Test.YtekgnogjfggnmaaGreatDoorN26
import Derived.Test.YtekgnogjfggnmaaGreatDoorN16
namespace Go.Proofs.YtekgnogjfggnmaaGreatDoor.Lx
open Go.RowKit
set_option maxRecDepth 100000
set_option maxHeartbeats 4000000
theorem own_slice {w : World} {base : Nat} {e : TypeId} {size : Nat} {v : Value} {n : Nat} {xs : List Value} (h : w.ownsRow base e size v n xs) : ∃ a cap, v = .slice a n cap := by
 rcases h.2 with ⟨rfl, rfl⟩ | ⟨g, cap, cur, rfl, _⟩
 ·exact ⟨_, _, rfl⟩
 ·exact ⟨_, _, rfl⟩
theorem txt_quote (f n : Nat) (V r : List UInt8) : txtS (f + 1) n V (34 :: r) = .inr ⟨3, n + 1, V, 0⟩ := by
 unfold txtS
 rw [if_pos rfl]
theorem txt_bad (f n : Nat) (V r : List UInt8) (c : UInt8) (hc : c ≠ 34) (h : (pcS (c :: r)).2 = 0 ∨ V.length = 200) : txtS (f + 1) n V (c :: r) = .inl 22 := by
 unfold txtS
 rw [if_neg hc, if_pos h]
theorem txt_step (f n : Nat) (V r : List UInt8) (c : UInt8) (hc : c ≠ 34) (h : ¬ ((pcS (c :: r)).2 = 0 ∨ V.length = 200)) :
 txtS (f + 1) n V (c :: r) = txtS f (n + (pcS (c :: r)).2) (V ++ [(pcS (c :: r)).1]) ((c :: r).drop (pcS (c :: r)).2) := by
 conv => lhs; unfold txtS
 rw [if_neg hc, if_neg h]
theorem txt_end (f n : Nat) (V : List UInt8) : txtS f n V [] = .inl 22 := by cases f <;> rfl
theorem textAt_any (t : ByteArray) (k : Nat) (w : World) (ht : t.size ≤ 140737488355328) (hk : k < t.size) :
 Calls Tryz.prog 155 #[.string t, .int .i64 (k : Int)] w fun e w' => e = .returned (resV k (txtS ((t.data.toList.drop (k + 1)).length + 1) 1 [] (t.data.toList.drop (k + 1)))) ∧ Below w.heap.size w w' := by
 obtain ⟨R, hR⟩ : ∃ R, txtS ((t.data.toList.drop (k + 1)).length + 1) 1 [] (t.data.toList.drop (k + 1)) = R := ⟨_, rfl⟩
 rw [hR]
 have HR0 : Hid (txtS ((t.data.toList.drop (k + 1)).length + 1) 1 [] (t.data.toList.drop (k + 1)) = R) := hR
 clear hR
 have H5 := five_new w (.int .i64 0) (.int .i64 0) (.int .i64 0) (.string ⟨#[]⟩) (.int .i64 0) 102
 have H5' : Hid (Five (w.alloc (.cells #[.int .i64 0, .int .i64 0, .int .i64 0, .string ⟨#[]⟩, .int .i64 0] 102)) w.heap.size (.int .i64 0) (.int .i64 0) (.int .i64 0) (.string ⟨#[]⟩) (.int .i64 0)) := H5
 clear H5
 have HB0 : Hid (Below w.heap.size w (w.alloc (.cells #[.int .i64 0, .int .i64 0, .int .i64 0, .string ⟨#[]⟩, .int .i64 0] 102))) := (Below.refl _ w).alloc (Nat.le_refl _) _
 go_enter Tryz.func155, Tryz.ntmps155
 go_wp2
 generalize hw1 : w.alloc (.cells #[.int .i64 0, .int .i64 0, .int .i64 0, .string ⟨#[]⟩, .int .i64 0] 102) = w1 at *
 clear hw1
 have hb1 : w.heap.size < w1.heap.size := World.block_lt_of_cell? w1 _ H5'.out.c0
 go_loopw [6, 7] (fun v i wr => ∃ (f j : Nat) (V : List UInt8), k + 1 ≤ j ∧ j ≤ t.size ∧ i = .int .i64 (j : Int) ∧ t.size - j < f ∧ V.length ≤ 200 ∧ Hid (txtS f (j - k) V (t.data.toList.drop j) = R) ∧ Hid (wr.ownsRow w1.heap.size 5 1 v V.length (bv V)) ∧ Hid (Below w1.heap.size w1 wr)) (fun _ i _ => t.size - (intOf i).toNat)
 case atStart =>
  refine ⟨(t.data.toList.drop (k + 1)).length + 1, k + 1, [], Nat.le_refl _, by omega, by go_num, ?_, by simp, ?_, World.ownsRow_nil _ _ _ _, Below.refl _ _⟩
  ·rw [List.length_drop, ← Lib.size_eq]; omega
  ·rw [show k + 1 - k = 1 from by omega]; exact HR0.out
 case round =>
  clear HR0
  obtain ⟨f, j, V, hkj, hj, rfl, hf, hV, hx, ho, hB⟩ := hrel
  obtain ⟨sa, cap, rfl⟩ := own_slice ho.out
  have HF : Hid (Five wr w.heap.size (.int .i64 0) (.int .i64 0) (.int .i64 0) (.string ⟨#[]⟩) (.int .i64 0)) := H5'.out.below hB.out hb1
  have j0 : (0 : Int) ≤ (j : Int) := by omega
  have j1 : (j : Int) ≤ (t.size : Int) := by omega
  have errR : ∀ W : World, Five W w.heap.size (.int .i64 0) (.int .i64 0) (.int .i64 0) (.string ⟨#[]⟩) (.int .i64 0) → True := fun _ _ => trivial
  clear errR
  by_cases hlt : j < t.size
  ·obtain ⟨f, rfl⟩ : ∃ g, f = g + 1 := ⟨f - 1, by omega⟩
   obtain ⟨c, hc⟩ : ∃ c, t[j]'hlt = c := ⟨_, rfl⟩
   have hdr := drop_at t j hlt
   rw [hc] at hdr
   by_cases hq : c = 34
   ·subst hq
    have HRv : Hid (resV k R = .tuple #[.agg #[.int .i64 3, .int .i64 (k : Int), .int .i64 ((j : Int) + 1), .string ⟨V.toArray⟩, .int .i64 0], .int .i64 0]) := by
     show resV k R = _
     rw [← hx.out, hdr, txt_quote]
     simp only [resV, tkCells]
     rw [show ((k : Int) + ((j - k + 1 : Nat) : Int)) = (j : Int) + 1 from by omega]
     rfl
    have hcv := conv_own ho.out
    obtain ⟨c0, c1, c2, c3, c4, f'⟩ := HF.out
    have f0 := f' 0 (by omega)
    have f1 := f' 1 (by omega)
    have f2 := f' 2 (by omega)
    have f3 := f' 3 (by omega)
    have f4 := f' 4 (by omega)
    clear f' hdr hx ho
    go_wp2
    exact bodyPost_ret (ret5 (five_set HF.out _ _ _ _ _) rfl rfl) rfl ⟨congrArg Ending.returned HRv.out.symm, below_set5 (HB0.out.trans (hB.out.mono (by omega))) (Nat.le_refl _) _ _ _ _ _⟩
   ·have b34 := u8ne (n := 34) (by omega) hq
    have hxd : (t.extract j t.size).data.toList = t.data.toList.drop j := by rw [Lib.extract_data, List.take_of_length_le (by rw [List.length_drop, ← Lib.size_eq]; omega)]
    have HP := first_any (t.extract j t.size) (by rw [Lib.size_eq, hxd, List.length_drop, ← Lib.size_eq]; omega) wr
    rw [hxd] at HP
    have hle := pcS_le (t.data.toList.drop j)
    rw [List.length_drop, ← Lib.size_eq] at hle
    have hbad : ((pcS (t.data.toList.drop j)).2 = 0 ∨ V.length = 200) → R = .inl 22 := by
     intro h
     rw [← hx.out, hdr]
     exact txt_bad _ _ _ _ _ hq (by rw [← hdr]; exact h)
    have hgood : ¬ ((pcS (t.data.toList.drop j)).2 = 0 ∨ V.length = 200) → txtS f (j - k + (pcS (t.data.toList.drop j)).2) (V ++ [(pcS (t.data.toList.drop j)).1]) (t.data.toList.drop (j + (pcS (t.data.toList.drop j)).2)) = R := by
     intro h
     rw [← hx.out]
     have := txt_step f (j - k) V (t.data.toList.drop (j + 1)) c hq (by rw [← hdr]; exact h)
     rw [← hdr, List.drop_drop] at this
     exact this.symm
    clear hxd hdr hx hq
    generalize pcS (t.data.toList.drop j) = P at HP hle hbad hgood
    obtain ⟨b, m⟩ := P
    simp only at hle hbad hgood
    have HP' : Hid (Calls Tryz.prog 162 #[.string (t.extract j t.size)] wr fun e w' => e = .returned (.tuple #[.int .u8 (b.toNat : Int), .int .i64 (m : Int)]) ∧ wr = w') := HP
    have HG : Hid (¬ (m = 0 ∨ V.length = 200) → txtS f (j - k + m) (V ++ [b]) (t.data.toList.drop (j + m)) = R) := hgood
    have HBd : Hid ((m = 0 ∨ V.length = 200) → R = .inl 22) := hbad
    clear HP hgood hbad
    by_cases hm : m = 0 ∨ V.length = 200
    ·have HRv : Hid (resV k R = .tuple #[.agg #[.int .i64 0, .int .i64 0, .int .i64 0, .string ⟨#[]⟩, .int .i64 0], .int .i64 22]) := by
      show resV k R = _
      rw [HBd.out hm]
      rfl
     obtain ⟨c0, c1, c2, c3, c4, f'⟩ := HF.out
     have f0 := f' 0 (by omega)
     have f1 := f' 1 (by omega)
     have f2 := f' 2 (by omega)
     have f3 := f' 3 (by omega)
     have f4 := f' 4 (by omega)
     clear f' HG HBd
     have hm2 : ((m : Int) == 0) = true ∨ (((m : Int) == 0) = false ∧ ((V.length : Int) == 200) = true) := by
      by_cases h : m = 0
      ·left; subst h; rfl
      ·right
       refine ⟨by rw [beq_eq_false_iff_ne]; omega, ?_⟩
       rcases hm with h' | h'
       ·exact absurd h' h
       ·rw [h']; rfl
     clear hm
     rcases hm2 with q1 | ⟨q1, q2⟩
     all_goals
      go_wp2_with (first
       | (go_at_call 162; refine HP'.out.mono ?_; rintro e w2 ⟨rfl, hw2⟩; subst hw2)
       | go_in)
      exact bodyPost_ret (ret5 (five_set HF.out _ _ _ _ _) rfl rfl) rfl ⟨congrArg Ending.returned HRv.out.symm, below_set5 (HB0.out.trans (hB.out.mono (by omega))) (Nat.le_refl _) _ _ _ _ _⟩
    ·have HG2 : Hid (txtS f (j + m - k) (V ++ [b]) (t.data.toList.drop (j + m)) = R) := by
      show txtS f (j + m - k) (V ++ [b]) (t.data.toList.drop (j + m)) = R
      rw [show j + m - k = j - k + m from by omega]
      exact HG.out hm
     have q1 : ((m : Int) == 0) = false := by rw [beq_eq_false_iff_ne]; omega
     have q2 : ((V.length : Int) == 200) = false := by rw [beq_eq_false_iff_ne]; omega
     have hm0 : 0 < m := by omega
     have hV2 : V.length < 200 := by omega
     clear hm HG HBd
     go_wp2_with (first
      | (go_at_call 162; refine HP'.out.mono ?_; rintro e w2 ⟨rfl, hw2⟩; subst hw2)
      | (at_builtin; refine wpList_app1 (w0 := w1) (by rfl) _ _ (by rfl) _ V.length V (by rfl) ho hB b (by rfl) (by omega) ?_; intro v2 w2 ho2 hb2)
      | go_in)
     exact ⟨⟨f, j + m, V ++ [b], by omega, by omega, by go_num, by omega, by simp; omega, HG2, by rw [List.length_append]; exact ho2, hb2⟩, by simp [intOf]; omega⟩
  ·obtain rfl : j = t.size := by omega
   have HRv : Hid (resV k R = .tuple #[.agg #[.int .i64 0, .int .i64 0, .int .i64 0, .string ⟨#[]⟩, .int .i64 0], .int .i64 22]) := by
    show resV k R = _
    rw [← hx.out, List.drop_eq_nil_of_le (by rw [← Lib.size_eq]; omega), txt_end]
    rfl
   obtain ⟨c0, c1, c2, c3, c4, f'⟩ := HF.out
   have f0 := f' 0 (by omega)
   have f1 := f' 1 (by omega)
   have f2 := f' 2 (by omega)
   have f3 := f' 3 (by omega)
   have f4 := f' 4 (by omega)
   clear f' hx
   go_wp2
   exact bodyPost_ret (ret5 (five_set HF.out _ _ _ _ _) rfl rfl) rfl ⟨congrArg Ending.returned HRv.out.symm, below_set5 (HB0.out.trans (hB.out.mono (by omega))) (Nat.le_refl _) _ _ _ _ _⟩
end Go.Proofs.YtekgnogjfggnmaaGreatDoor.Lx

namespace Go.Proofs.YtekgnogjfggnmaaGreatDoor.Lx
open Go.RowKit
set_option maxRecDepth 100000
set_option maxHeartbeats 4000000
theorem resV_shape (k : Nat) (R : TkR) : ∃ (a b c : Int) (d : ByteArray) (e x : Int), resV k R = .tuple #[.agg #[.int .i64 a, .int .i64 b, .int .i64 c, .string d, .int .i64 e], .int .i64 x] := by
 cases R with
 | inl e => exact ⟨_, _, _, _, _, _, rfl⟩
 | inr x => exact ⟨_, _, _, _, _, _, rfl⟩
theorem tokAt_any (t : ByteArray) (k : Nat) (w : World) (ht : t.size ≤ 140737488355328) (hk : k < t.size) (hT : Tabs w) :
 Calls Tryz.prog 139 #[.string t, .int .i64 (k : Int)] w fun e w' => e = .returned (resV k (tokS (t.data.toList.drop k))) ∧ Below w.heap.size w w' := by
 have H5 := five_new w (.int .i64 0) (.int .i64 0) (.int .i64 0) (.string ⟨#[]⟩) (.int .i64 0) 102
 have H5' : Hid (Five (w.alloc (.cells #[.int .i64 0, .int .i64 0, .int .i64 0, .string ⟨#[]⟩, .int .i64 0] 102)) w.heap.size (.int .i64 0) (.int .i64 0) (.int .i64 0) (.string ⟨#[]⟩) (.int .i64 0)) := H5
 clear H5
 have HB0 : Hid (Below w.heap.size w (w.alloc (.cells #[.int .i64 0, .int .i64 0, .int .i64 0, .string ⟨#[]⟩, .int .i64 0] 102))) := (Below.refl _ w).alloc (Nat.le_refl _) _
 have hb1 : w.heap.size < (w.alloc (.cells #[.int .i64 0, .int .i64 0, .int .i64 0, .string ⟨#[]⟩, .int .i64 0] 102)).heap.size := World.block_lt_of_cell? _ _ H5'.out.c0
 have HT : Hid (Tabs (w.alloc (.cells #[.int .i64 0, .int .i64 0, .int .i64 0, .string ⟨#[]⟩, .int .i64 0] 102))) := hT.next HB0.out
 clear hT
 obtain ⟨c, hc⟩ : ∃ c, t[k]'hk = c := ⟨_, rfl⟩
 have hdr := drop_at t k hk
 rw [hc] at hdr
 have h4 : (letterB c = true ∧ tokS (t.data.toList.drop k) = wordS (t.data.toList.drop k)) ∨ (letterB c = false ∧ digitB c = true ∧ tokS (t.data.toList.drop k) = numS (t.data.toList.drop k)) ∨
  (letterB c = false ∧ digitB c = false ∧ c = 34 ∧ tokS (t.data.toList.drop k) = txtS ((t.data.toList.drop (k + 1)).length + 1) 1 [] (t.data.toList.drop (k + 1))) ∨ (letterB c = false ∧ digitB c = false ∧ c ≠ 34 ∧ tokS (t.data.toList.drop k) = signS (t.data.toList.drop k)) := by
  rw [hdr]
  simp only [tokS]
  by_cases h1 : letterB c = true
  ·left; exact ⟨h1, by rw [if_pos h1]⟩
  ·right
   have h1' : letterB c = false := by simpa using h1
   by_cases h2 : digitB c = true
   ·left; exact ⟨h1', h2, by rw [if_neg h1, if_pos h2]⟩
   ·right
    have h2' : digitB c = false := by simpa using h2
    by_cases h3 : c = 34
    ·left; exact ⟨h1', h2', h3, by rw [if_neg h1, if_neg h2, if_pos h3]⟩
    ·right; exact ⟨h1', h2', h3, by rw [if_neg h1, if_neg h2, if_neg h3]⟩
 have HL : Hid (∀ (w : World), Calls Tryz.prog 151 #[.int .u8 (c.toNat : Int)] w fun e w' => e = .returned (.bool (letterB c)) ∧ w = w') := fun w => isLetter_any c w
 have HD : Hid (∀ (w : World), Calls Tryz.prog 153 #[.int .u8 (c.toNat : Int)] w fun e w' => e = .returned (.bool (digitB c)) ∧ w = w') := fun w => isDigit_any c w
 clear hdr
 have k0 : (0 : Int) ≤ (k : Int) := by omega
 have k1 : (k : Int) < (t.size : Int) := by omega
 rcases h4 with ⟨h1, he⟩ | ⟨h1, h2, he⟩ | ⟨h1, h2, h3, he⟩ | ⟨h1, h2, h3, he⟩
 ·obtain ⟨a0, a1, a2, a3, a4, x, hv⟩ := resV_shape k (wordS (t.data.toList.drop k))
  have HC := wordAt_any t k _ ht hk HT.out
  rw [he]
  rw [hv] at HC ⊢
  have HC' : Hid (Calls Tryz.prog 152 #[.string t, .int .i64 (k : Int)] (w.alloc (.cells #[.int .i64 0, .int .i64 0, .int .i64 0, .string ⟨#[]⟩, .int .i64 0] 102)) fun e w' => e = .returned (.tuple #[.agg #[.int .i64 a0, .int .i64 a1, .int .i64 a2, .string a3, .int .i64 a4], .int .i64 x]) ∧ Below (w.alloc (.cells #[.int .i64 0, .int .i64 0, .int .i64 0, .string ⟨#[]⟩, .int .i64 0] 102)).heap.size (w.alloc (.cells #[.int .i64 0, .int .i64 0, .int .i64 0, .string ⟨#[]⟩, .int .i64 0] 102)) w') := HC
  rw [h1] at HL
  clear HC he hv h1
  go_enter Tryz.func139, Tryz.ntmps139
  go_wp2_with (first
   | (go_at_call 151; refine (HL.out _).mono ?_; rintro e w2 ⟨rfl, hw2⟩; subst hw2)
   | (go_at_call 152; refine HC'.out.mono ?_; rintro e w3 ⟨rfl, hb3⟩; have F3 : Hid (Five w3 w.heap.size _ _ _ _ _) := H5'.out.below hb3 hb1; obtain ⟨c0, c1, c2, c3, c4, f⟩ := F3.out; have f0 := f 0 (by omega); have f1 := f 1 (by omega); have f2 := f 2 (by omega); have f3 := f 3 (by omega); have f4 := f 4 (by omega); clear f)
   | go_in)
  exact bodyPost_ret (ret5 (five_set F3.out _ _ _ _ _) rfl rfl) rfl ⟨rfl, below_set5 (HB0.out.trans (hb3.mono (by omega))) (Nat.le_refl _) _ _ _ _ _⟩
 ·obtain ⟨a0, a1, a2, a3, a4, x, hv⟩ := resV_shape k (numS (t.data.toList.drop k))
  have HC := numAt_any t k _ ht hk HT.out
  rw [he]
  rw [hv] at HC ⊢
  have HC' : Hid (Calls Tryz.prog 154 #[.string t, .int .i64 (k : Int)] (w.alloc (.cells #[.int .i64 0, .int .i64 0, .int .i64 0, .string ⟨#[]⟩, .int .i64 0] 102)) fun e w' => e = .returned (.tuple #[.agg #[.int .i64 a0, .int .i64 a1, .int .i64 a2, .string a3, .int .i64 a4], .int .i64 x]) ∧ Below (w.alloc (.cells #[.int .i64 0, .int .i64 0, .int .i64 0, .string ⟨#[]⟩, .int .i64 0] 102)).heap.size (w.alloc (.cells #[.int .i64 0, .int .i64 0, .int .i64 0, .string ⟨#[]⟩, .int .i64 0] 102)) w') := HC
  rw [h1] at HL
  rw [h2] at HD
  clear HC he hv h1 h2
  go_enter Tryz.func139, Tryz.ntmps139
  go_wp2_with (first
   | (go_at_call 151; refine (HL.out _).mono ?_; rintro e w2 ⟨rfl, hw2⟩; subst hw2)
   | (go_at_call 153; refine (HD.out _).mono ?_; rintro e w2 ⟨rfl, hw2⟩; subst hw2)
   | (go_at_call 154; refine HC'.out.mono ?_; rintro e w3 ⟨rfl, hb3⟩; have F3 : Hid (Five w3 w.heap.size _ _ _ _ _) := H5'.out.below hb3 hb1; obtain ⟨c0, c1, c2, c3, c4, f⟩ := F3.out; have f0 := f 0 (by omega); have f1 := f 1 (by omega); have f2 := f 2 (by omega); have f3 := f 3 (by omega); have f4 := f 4 (by omega); clear f)
   | go_in)
  exact bodyPost_ret (ret5 (five_set F3.out _ _ _ _ _) rfl rfl) rfl ⟨rfl, below_set5 (HB0.out.trans (hb3.mono (by omega))) (Nat.le_refl _) _ _ _ _ _⟩
 ·obtain ⟨a0, a1, a2, a3, a4, x, hv⟩ := resV_shape k (txtS ((t.data.toList.drop (k + 1)).length + 1) 1 [] (t.data.toList.drop (k + 1)))
  have HC := textAt_any t k (w.alloc (.cells #[.int .i64 0, .int .i64 0, .int .i64 0, .string ⟨#[]⟩, .int .i64 0] 102)) ht hk
  rw [he]
  rw [hv] at HC ⊢
  have HC' : Hid (Calls Tryz.prog 155 #[.string t, .int .i64 (k : Int)] (w.alloc (.cells #[.int .i64 0, .int .i64 0, .int .i64 0, .string ⟨#[]⟩, .int .i64 0] 102)) fun e w' => e = .returned (.tuple #[.agg #[.int .i64 a0, .int .i64 a1, .int .i64 a2, .string a3, .int .i64 a4], .int .i64 x]) ∧ Below (w.alloc (.cells #[.int .i64 0, .int .i64 0, .int .i64 0, .string ⟨#[]⟩, .int .i64 0] 102)).heap.size (w.alloc (.cells #[.int .i64 0, .int .i64 0, .int .i64 0, .string ⟨#[]⟩, .int .i64 0] 102)) w') := HC
  rw [h1] at HL
  rw [h2] at HD
  clear HC he hv h1 h2
  subst h3
  go_enter Tryz.func139, Tryz.ntmps139
  go_wp2_with (first
   | (go_at_call 151; refine (HL.out _).mono ?_; rintro e w2 ⟨rfl, hw2⟩; subst hw2)
   | (go_at_call 153; refine (HD.out _).mono ?_; rintro e w2 ⟨rfl, hw2⟩; subst hw2)
   | (go_at_call 155; refine HC'.out.mono ?_; rintro e w3 ⟨rfl, hb3⟩; have F3 : Hid (Five w3 w.heap.size _ _ _ _ _) := H5'.out.below hb3 hb1; obtain ⟨c0, c1, c2, c3, c4, f⟩ := F3.out; have f0 := f 0 (by omega); have f1 := f 1 (by omega); have f2 := f 2 (by omega); have f3 := f 3 (by omega); have f4 := f 4 (by omega); clear f)
   | go_in)
  exact bodyPost_ret (ret5 (five_set F3.out _ _ _ _ _) rfl rfl) rfl ⟨rfl, below_set5 (HB0.out.trans (hb3.mono (by omega))) (Nat.le_refl _) _ _ _ _ _⟩
 ·obtain ⟨a0, a1, a2, a3, a4, x, hv⟩ := resV_shape k (signS (t.data.toList.drop k))
  have HC := signAt_any t k _ ht hk HT.out
  rw [he]
  rw [hv] at HC ⊢
  have HC' : Hid (Calls Tryz.prog 156 #[.string t, .int .i64 (k : Int)] (w.alloc (.cells #[.int .i64 0, .int .i64 0, .int .i64 0, .string ⟨#[]⟩, .int .i64 0] 102)) fun e w' => e = .returned (.tuple #[.agg #[.int .i64 a0, .int .i64 a1, .int .i64 a2, .string a3, .int .i64 a4], .int .i64 x]) ∧ Below (w.alloc (.cells #[.int .i64 0, .int .i64 0, .int .i64 0, .string ⟨#[]⟩, .int .i64 0] 102)).heap.size (w.alloc (.cells #[.int .i64 0, .int .i64 0, .int .i64 0, .string ⟨#[]⟩, .int .i64 0] 102)) w') := HC
  rw [h1] at HL
  rw [h2] at HD
  have b34 := u8ne (n := 34) (by omega) h3
  clear HC he hv h1 h2 h3
  go_enter Tryz.func139, Tryz.ntmps139
  go_wp2_with (first
   | (go_at_call 151; refine (HL.out _).mono ?_; rintro e w2 ⟨rfl, hw2⟩; subst hw2)
   | (go_at_call 153; refine (HD.out _).mono ?_; rintro e w2 ⟨rfl, hw2⟩; subst hw2)
   | (go_at_call 156; refine HC'.out.mono ?_; rintro e w3 ⟨rfl, hb3⟩; have F3 : Hid (Five w3 w.heap.size _ _ _ _ _) := H5'.out.below hb3 hb1; obtain ⟨c0, c1, c2, c3, c4, f⟩ := F3.out; have f0 := f 0 (by omega); have f1 := f 1 (by omega); have f2 := f 2 (by omega); have f3 := f 3 (by omega); have f4 := f 4 (by omega); clear f)
   | go_in)
  exact bodyPost_ret (ret5 (five_set F3.out _ _ _ _ _) rfl rfl) rfl ⟨rfl, below_set5 (HB0.out.trans (hb3.mono (by omega))) (Nat.le_refl _) _ _ _ _ _⟩
end Go.Proofs.YtekgnogjfggnmaaGreatDoor.Lx

namespace Go.Proofs.YtekgnogjfggnmaaGreatDoor.Lx
open Go.RowKit
theorem letter_inner {c : UInt8} (h : letterB c = true) : innerB c = true := by unfold innerB; rw [h]; rfl
theorem tw_pos {p : UInt8 → Bool} {c : UInt8} {r : List UInt8} (h : p c = true) : 1 ≤ ((c :: r).takeWhile p).length := by rw [List.takeWhile_cons, if_pos h]; simp
theorem tw_le {p : UInt8 → Bool} (l : List UInt8) : (l.takeWhile p).length ≤ l.length := (List.takeWhile_sublist _).length_le
theorem word_len {c : UInt8} {r : List UInt8} {x : Tk} (hc : innerB c = true) (h : wordS (c :: r) = .inr x) : 1 ≤ x.len ∧ x.len ≤ (c :: r).length := by
 have h1 := tw_pos (r := r) hc
 have h2 := tw_le (p := innerB) (c :: r)
 unfold wordS at h
 simp only at h
 split at h
 ·cases h; exact ⟨h1, h2⟩
 ·split at h
  ·cases h
  ·cases h; exact ⟨h1, h2⟩
theorem num_len {c : UInt8} {r : List UInt8} {x : Tk} (hc : digitB c = true) (h : numS (c :: r) = .inr x) : 1 ≤ x.len ∧ x.len ≤ (c :: r).length := by
 have h1 := tw_pos (r := r) hc
 have h2 := tw_le (p := digitB) (c :: r)
 unfold numS at h
 simp only at h
 split at h
 ·cases h
 ·split at h
  ·cases h
  ·split at h
   ·cases h; exact ⟨h1, h2⟩
   ·cases h
theorem txt_len (f : Nat) : ∀ (n : Nat) (V l : List UInt8) (x : Tk), txtS f n V l = .inr x → n + 1 ≤ x.len ∧ x.len ≤ n + l.length := by
 induction f with
 | zero => intro n V l x h; simp [txtS] at h
 | succ f ih =>
  intro n V l x h
  match l with
  | [] => simp [txtS] at h
  | c :: r =>
   unfold txtS at h
   split at h
   ·cases h
    simp
   ·split at h
    ·cases h
    ·obtain ⟨h1, h2⟩ := ih _ _ _ _ h
     have hle := pcS_le (c :: r)
     rw [List.length_drop] at h2
     omega
theorem sgs_pos : ∀ s ∈ sgs, 1 ≤ s.size := by decide
theorem sign_len {l : List UInt8} {x : Tk} (h : signS l = .inr x) : 1 ≤ x.len ∧ x.len ≤ l.length := by
 unfold signS at h
 split at h
 ·rename_i s hf
  cases h
  have hm := List.mem_of_find?_eq_some hf
  have hp := List.find?_some hf
  refine ⟨sgs_pos s hm, ?_⟩
  show s.size ≤ l.length
  rw [Lib.size_eq]
  exact (List.isPrefixOf_iff_prefix.1 hp).length_le
 ·cases h
theorem tok_len {l : List UInt8} {x : Tk} (h : tokS l = .inr x) : 1 ≤ x.len ∧ x.len ≤ l.length := by
 match l with
 | [] => simp [tokS] at h
 | c :: r =>
  simp only [tokS] at h
  split at h
  ·rename_i hc; exact word_len (letter_inner hc) h
  ·split at h
   ·rename_i hc; exact num_len hc h
   ·split at h
    ·have := txt_len _ _ _ _ _ h
     rw [List.length_cons]
     omega
    ·exact sign_len h
theorem word_err {l : List UInt8} {e : Nat} (h : wordS l = .inl e) : 20 ≤ e ∧ e ≤ 23 := by
 unfold wordS at h
 simp only at h
 split at h
 ·cases h
 ·split at h
  ·cases h; omega
  ·cases h
theorem num_err {l : List UInt8} {e : Nat} (h : numS l = .inl e) : 20 ≤ e ∧ e ≤ 23 := by
 unfold numS at h
 simp only at h
 split at h
 ·cases h; omega
 ·split at h
  ·cases h; omega
  ·split at h
   ·cases h
   ·cases h; omega
theorem txt_err (f : Nat) : ∀ (n : Nat) (V l : List UInt8) (e : Nat), txtS f n V l = .inl e → 20 ≤ e ∧ e ≤ 23 := by
 induction f with
 | zero => intro n V l x h; simp [txtS] at h; omega
 | succ f ih =>
  intro n V l x h
  match l with
  | [] => simp [txtS] at h; omega
  | c :: r =>
   unfold txtS at h
   split at h
   ·cases h
   ·split at h
    ·cases h; omega
    ·exact ih _ _ _ _ h
theorem sign_err {l : List UInt8} {e : Nat} (h : signS l = .inl e) : 20 ≤ e ∧ e ≤ 23 := by
 unfold signS at h
 split at h
 ·cases h
 ·cases h; omega
theorem tok_err {l : List UInt8} {e : Nat} (h : tokS l = .inl e) : 20 ≤ e ∧ e ≤ 23 := by
 match l with
 | [] => simp [tokS] at h; omega
 | c :: r =>
  simp only [tokS] at h
  split at h
  ·exact word_err h
  ·split at h
   ·exact num_err h
   ·split at h
    ·exact txt_err _ _ _ _ _ h
    ·exact sign_err h
def comb (acc : List (Nat × Tk)) : Scanned → Scanned
 | .inl p => .inl p
 | .inr l => .inr (acc ++ l)
theorem scan_end (f k : Nat) : scanS (f + 1) k [] = .inr [(k, ⟨0, 0, [], 0⟩)] := rfl
theorem scan_blank (f k : Nat) (c : UInt8) (r : List UInt8) (h : blankB c = true) : scanS (f + 1) k (c :: r) = scanS f (k + 1) r := by
 simp only [scanS]; rw [if_pos h]
theorem scan_cmt (f k : Nat) (r : List UInt8) : scanS (f + 1) k (35 :: r) = scanS f (k + cmtS (35 :: r)) ((35 :: r).drop (cmtS (35 :: r))) := by
 simp only [scanS]; rw [if_neg (by decide), if_pos trivial]
theorem scan_bad (f k : Nat) (c : UInt8) (r : List UInt8) (e : Nat) (h : blankB c = false) (h2 : c ≠ 35) (ht : tokS (c :: r) = .inl e) : scanS (f + 1) k (c :: r) = .inl (e, k) := by
 simp only [scanS]; rw [if_neg (by rw [h]; simp), if_neg h2, ht]
theorem scan_tok (f k : Nat) (c : UInt8) (r : List UInt8) (x : Tk) (acc : List (Nat × Tk)) (h : blankB c = false) (h2 : c ≠ 35) (ht : tokS (c :: r) = .inr x) : comb acc (scanS (f + 1) k (c :: r)) = comb (acc ++ [(k, x)]) (scanS f (k + x.len) ((c :: r).drop x.len)) := by
 simp only [scanS]; rw [if_neg (by rw [h]; simp), if_neg h2, ht]
 simp only
 cases scanS f (k + x.len) ((c :: r).drop x.len) with
 | inl p => rfl
 | inr l => simp [comb]
theorem cmt_pos (r : List UInt8) : 1 ≤ cmtS (35 :: r) := by unfold cmtS; exact tw_pos (by decide)
def toksV (l : List (Nat × Tk)) : List Value := l.flatMap fun p => tkCells p.1 p.2
theorem toksV_app (a b : List (Nat × Tk)) : toksV (a ++ b) = toksV a ++ toksV b := List.flatMap_append
end Go.Proofs.YtekgnogjfggnmaaGreatDoor.Lx
