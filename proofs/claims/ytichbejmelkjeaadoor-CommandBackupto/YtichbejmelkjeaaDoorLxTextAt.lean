import Derived.Test.YtichbejmelkjeaaDoorLxFirstAny
import Derived.Test.YtichbejmelkjeaaDoorLxApp1
namespace Go.Proofs.YtichbejmelkjeaaDoor.Lx
open Go.RowKit

theorem own_slice {w : World} {base : Nat} {e : TypeId} {size : Nat} {v : Value} {n : Nat} {xs : List Value} (h : w.ownsRow base e size v n xs) : ∃ a cap, v = .slice a n cap := by
  rcases h.2 with ⟨rfl, rfl⟩ | ⟨g, cap, cur, rfl, _⟩
  · exact ⟨_, _, rfl⟩
  · exact ⟨_, _, rfl⟩

theorem txt_quote (f n : Nat) (V r : List UInt8) : txtS (f + 1) n V (34 :: r) = .inr ⟨3, n + 1, V, 0⟩ := by
  unfold txtS
  rw [if_pos rfl]
theorem txt_bad (f n : Nat) (V r : List UInt8) (c : UInt8) (hc : c ≠ 34) (h : (pcS (c :: r)).2 = 0 ∨ V.length = 200) : txtS (f + 1) n V (c :: r) = .inl 22 := by
  unfold txtS
  rw [if_neg hc, if_pos h]
theorem txt_step (f n : Nat) (V r : List UInt8) (c : UInt8) (hc : c ≠ 34) (h : ¬ ((pcS (c :: r)).2 = 0 ∨ V.length = 200)) :
    txtS (f + 1) n V (c :: r) = txtS f (n + (pcS (c :: r)).2) (V ++ [(pcS (c :: r)).1]) ((c :: r).drop (pcS (c :: r)).2) := by
  conv => lhs; unfold txtS
  rw [if_neg hc, if_neg h]
theorem txt_end (f n : Nat) (V : List UInt8) : txtS f n V [] = .inl 22 := by cases f <;> rfl

set_option maxRecDepth 100000 in
set_option maxHeartbeats 4000000 in
theorem textAt_any (t : ByteArray) (k : Nat) (w : World) (ht : t.size ≤ 140737488355328) (hk : k < t.size) :
    Calls Tryd.prog 62 #[.string t, .int .i64 (k : Int)] w fun e w' => e = .returned (resV k (txtS ((t.data.toList.drop (k + 1)).length + 1) 1 [] (t.data.toList.drop (k + 1)))) ∧ Below w.heap.size w w' := by
  obtain ⟨R, hR⟩ : ∃ R, txtS ((t.data.toList.drop (k + 1)).length + 1) 1 [] (t.data.toList.drop (k + 1)) = R := ⟨_, rfl⟩
  rw [hR]
  have HR0 : Hid (txtS ((t.data.toList.drop (k + 1)).length + 1) 1 [] (t.data.toList.drop (k + 1)) = R) := hR
  clear hR
  have H5 := five_new w (.int .i64 0) (.int .i64 0) (.int .i64 0) (.string ⟨#[]⟩) (.int .i64 0) 89
  have H5' : Hid (Five (w.alloc (.cells #[.int .i64 0, .int .i64 0, .int .i64 0, .string ⟨#[]⟩, .int .i64 0] 89)) w.heap.size (.int .i64 0) (.int .i64 0) (.int .i64 0) (.string ⟨#[]⟩) (.int .i64 0)) := H5
  clear H5
  have HB0 : Hid (Below w.heap.size w (w.alloc (.cells #[.int .i64 0, .int .i64 0, .int .i64 0, .string ⟨#[]⟩, .int .i64 0] 89))) := (Below.refl _ w).alloc (Nat.le_refl _) _
  go_enter Tryd.func62, Tryd.ntmps62
  go_wp2
  generalize hw1 : w.alloc (.cells #[.int .i64 0, .int .i64 0, .int .i64 0, .string ⟨#[]⟩, .int .i64 0] 89) = w1 at *
  clear hw1
  have hb1 : w.heap.size < w1.heap.size := World.block_lt_of_cell? w1 _ H5'.out.c0
  go_loopw [6, 7] (fun v i wr => ∃ (f j : Nat) (V : List UInt8), k + 1 ≤ j ∧ j ≤ t.size ∧ i = .int .i64 (j : Int) ∧ t.size - j < f ∧ V.length ≤ 200 ∧ Hid (txtS f (j - k) V (t.data.toList.drop j) = R) ∧ Hid (wr.ownsRow w1.heap.size 5 1 v V.length (bv V)) ∧ Hid (Below w1.heap.size w1 wr)) (fun _ i _ => t.size - (intOf i).toNat)
  case atStart =>
    refine ⟨(t.data.toList.drop (k + 1)).length + 1, k + 1, [], Nat.le_refl _, by omega, by go_num, ?_, by simp, ?_, World.ownsRow_nil _ _ _ _, Below.refl _ _⟩
    · rw [List.length_drop, ← Lib.size_eq]; omega
    · rw [show k + 1 - k = 1 from by omega]; exact HR0.out
  case round =>
    clear HR0
    obtain ⟨f, j, V, hkj, hj, rfl, hf, hV, hx, ho, hB⟩ := hrel
    obtain ⟨sa, cap, rfl⟩ := own_slice ho.out
    have HF : Hid (Five wr w.heap.size (.int .i64 0) (.int .i64 0) (.int .i64 0) (.string ⟨#[]⟩) (.int .i64 0)) := H5'.out.below hB.out hb1
    have j0 : (0 : Int) ≤ (j : Int) := by omega
    have j1 : (j : Int) ≤ (t.size : Int) := by omega
    have errR : ∀ W : World, Five W w.heap.size (.int .i64 0) (.int .i64 0) (.int .i64 0) (.string ⟨#[]⟩) (.int .i64 0) → True := fun _ _ => trivial
    clear errR
    by_cases hlt : j < t.size
    · obtain ⟨f, rfl⟩ : ∃ g, f = g + 1 := ⟨f - 1, by omega⟩
      obtain ⟨c, hc⟩ : ∃ c, t[j]'hlt = c := ⟨_, rfl⟩
      have hdr := drop_at t j hlt
      rw [hc] at hdr
      by_cases hq : c = 34
      · subst hq
        have HRv : Hid (resV k R = .tuple #[.agg #[.int .i64 3, .int .i64 (k : Int), .int .i64 ((j : Int) + 1), .string ⟨V.toArray⟩, .int .i64 0], .int .i64 0]) := by
          show resV k R = _
          rw [← hx.out, hdr, txt_quote]
          simp only [resV, tkCells]
          rw [show ((k : Int) + ((j - k + 1 : Nat) : Int)) = (j : Int) + 1 from by omega]
          rfl
        have hcv := conv_own ho.out
        obtain ⟨c0, c1, c2, c3, c4, f'⟩ := HF.out
        have f0 := f' 0 (by omega)
        have f1 := f' 1 (by omega)
        have f2 := f' 2 (by omega)
        have f3 := f' 3 (by omega)
        have f4 := f' 4 (by omega)
        clear f' hdr hx ho
        go_wp2
        exact bodyPost_ret (ret5 (five_set HF.out _ _ _ _ _) rfl rfl) rfl ⟨congrArg Ending.returned HRv.out.symm, below_set5 (HB0.out.trans (hB.out.mono (by omega))) (Nat.le_refl _) _ _ _ _ _⟩
      · have b34 := u8ne (n := 34) (by omega) hq
        have hxd : (t.extract j t.size).data.toList = t.data.toList.drop j := by rw [Lib.extract_data, List.take_of_length_le (by rw [List.length_drop, ← Lib.size_eq]; omega)]
        have HP := first_any (t.extract j t.size) (by rw [Lib.size_eq, hxd, List.length_drop, ← Lib.size_eq]; omega) wr
        rw [hxd] at HP
        have hle := pcS_le (t.data.toList.drop j)
        rw [List.length_drop, ← Lib.size_eq] at hle
        have hbad : ((pcS (t.data.toList.drop j)).2 = 0 ∨ V.length = 200) → R = .inl 22 := by
          intro h
          rw [← hx.out, hdr]
          exact txt_bad _ _ _ _ _ hq (by rw [← hdr]; exact h)
        have hgood : ¬ ((pcS (t.data.toList.drop j)).2 = 0 ∨ V.length = 200) → txtS f (j - k + (pcS (t.data.toList.drop j)).2) (V ++ [(pcS (t.data.toList.drop j)).1]) (t.data.toList.drop (j + (pcS (t.data.toList.drop j)).2)) = R := by
          intro h
          rw [← hx.out]
          have := txt_step f (j - k) V (t.data.toList.drop (j + 1)) c hq (by rw [← hdr]; exact h)
          rw [← hdr, List.drop_drop] at this
          exact this.symm
        clear hxd hdr hx hq
        generalize pcS (t.data.toList.drop j) = P at HP hle hbad hgood
        obtain ⟨b, m⟩ := P
        simp only at hle hbad hgood
        have HP' : Hid (Calls Tryd.prog 68 #[.string (t.extract j t.size)] wr fun e w' => e = .returned (.tuple #[.int .u8 (b.toNat : Int), .int .i64 (m : Int)]) ∧ wr = w') := HP
        have HG : Hid (¬ (m = 0 ∨ V.length = 200) → txtS f (j - k + m) (V ++ [b]) (t.data.toList.drop (j + m)) = R) := hgood
        have HBd : Hid ((m = 0 ∨ V.length = 200) → R = .inl 22) := hbad
        clear HP hgood hbad
        by_cases hm : m = 0 ∨ V.length = 200
        · have HRv : Hid (resV k R = .tuple #[.agg #[.int .i64 0, .int .i64 0, .int .i64 0, .string ⟨#[]⟩, .int .i64 0], .int .i64 22]) := by
            show resV k R = _
            rw [HBd.out hm]
            rfl
          obtain ⟨c0, c1, c2, c3, c4, f'⟩ := HF.out
          have f0 := f' 0 (by omega)
          have f1 := f' 1 (by omega)
          have f2 := f' 2 (by omega)
          have f3 := f' 3 (by omega)
          have f4 := f' 4 (by omega)
          clear f' HG HBd
          have hm2 : ((m : Int) == 0) = true ∨ (((m : Int) == 0) = false ∧ ((V.length : Int) == 200) = true) := by
            by_cases h : m = 0
            · left; subst h; rfl
            · right
              refine ⟨by rw [beq_eq_false_iff_ne]; omega, ?_⟩
              rcases hm with h' | h'
              · exact absurd h' h
              · rw [h']; rfl
          clear hm
          rcases hm2 with q1 | ⟨q1, q2⟩
          all_goals
            go_wp2_with (first
              | (go_at_call 68; refine HP'.out.mono ?_; rintro e w2 ⟨rfl, hw2⟩; subst hw2)
              | go_in)
            exact bodyPost_ret (ret5 (five_set HF.out _ _ _ _ _) rfl rfl) rfl ⟨congrArg Ending.returned HRv.out.symm, below_set5 (HB0.out.trans (hB.out.mono (by omega))) (Nat.le_refl _) _ _ _ _ _⟩
        · have HG2 : Hid (txtS f (j + m - k) (V ++ [b]) (t.data.toList.drop (j + m)) = R) := by
            show txtS f (j + m - k) (V ++ [b]) (t.data.toList.drop (j + m)) = R
            rw [show j + m - k = j - k + m from by omega]
            exact HG.out hm
          have q1 : ((m : Int) == 0) = false := by rw [beq_eq_false_iff_ne]; omega
          have q2 : ((V.length : Int) == 200) = false := by rw [beq_eq_false_iff_ne]; omega
          have hm0 : 0 < m := by omega
          have hV2 : V.length < 200 := by omega
          clear hm HG HBd
          go_wp2_with (first
            | (go_at_call 68; refine HP'.out.mono ?_; rintro e w2 ⟨rfl, hw2⟩; subst hw2)
            | (at_builtin; refine wpList_app1 (w0 := w1) (by rfl) _ _ (by rfl) _ V.length V (by rfl) ho hB b (by rfl) (by omega) ?_; intro v2 w2 ho2 hb2)
            | go_in)
          exact ⟨⟨f, j + m, V ++ [b], by omega, by omega, by go_num, by omega, by simp; omega, HG2, by rw [List.length_append]; exact ho2, hb2⟩, by simp [intOf]; omega⟩
    · obtain rfl : j = t.size := by omega
      have HRv : Hid (resV k R = .tuple #[.agg #[.int .i64 0, .int .i64 0, .int .i64 0, .string ⟨#[]⟩, .int .i64 0], .int .i64 22]) := by
        show resV k R = _
        rw [← hx.out, List.drop_eq_nil_of_le (by rw [← Lib.size_eq]; omega), txt_end]
        rfl
      obtain ⟨c0, c1, c2, c3, c4, f'⟩ := HF.out
      have f0 := f' 0 (by omega)
      have f1 := f' 1 (by omega)
      have f2 := f' 2 (by omega)
      have f3 := f' 3 (by omega)
      have f4 := f' 4 (by omega)
      clear f' hx
      go_wp2
      exact bodyPost_ret (ret5 (five_set HF.out _ _ _ _ _) rfl rfl) rfl ⟨congrArg Ending.returned HRv.out.symm, below_set5 (HB0.out.trans (hB.out.mono (by omega))) (Nat.le_refl _) _ _ _ _ _⟩
end Go.Proofs.YtichbejmelkjeaaDoor.Lx
