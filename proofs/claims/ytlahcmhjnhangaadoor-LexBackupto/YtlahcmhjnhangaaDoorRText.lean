import Derived.Test.YtlahcmhjnhangaaDoorRPieceHex
import Derived.Test.YtlahcmhjnhangaaDoorRWord
import Derived.Test.YtlahcmhjnhangaaDoorTextAt
import Derived.Test.YtlahcmhjnhangaaDoorScan
namespace Go.Proofs.YtlahcmhjnhangaaDoor
open Go.RowKit

/-- Pieces up to the closing quote, however many. -/
def txtR : Nat → Nat → List UInt8 → List UInt8 → Option (Nat × List UInt8)
  | 0, _, _, _ => none
  | _ + 1, _, _, [] => none
  | f + 1, n, v, c :: r =>
    if c = 34 then some (n + 1, v)
    else if (pcS (c :: r)).2 = 0 then none
    else txtR f (n + (pcS (c :: r)).2) (v ++ [(pcS (c :: r)).1]) ((c :: r).drop (pcS (c :: r)).2)
def finR : Option (Nat × List UInt8) → TkR
  | none => .inl 22
  | some (m, W) => if 200 < W.length then .inl 22 else .inr ⟨3, m, W, 0⟩

theorem lenR (f : Nat) : ∀ (n : Nat) (V l : List UInt8) (m : Nat) (W : List UInt8), txtR f n V l = some (m, W) → V.length ≤ W.length := by
  induction f with
  | zero => intro n V l m W h; cases h
  | succ f ih =>
    intro n V l m W h
    match l with
    | [] => cases h
    | c :: r =>
      unfold txtR at h
      split at h
      · cases h; exact Nat.le_refl _
      · split at h
        · cases h
        · have := ih _ _ _ _ _ h
          rw [List.length_append] at this
          omega
theorem txt_R (f : Nat) : ∀ (n : Nat) (V l : List UInt8), V.length ≤ 200 → txtS f n V l = finR (txtR f n V l) := by
  induction f with
  | zero => intro n V l _; rfl
  | succ f ih =>
    intro n V l hV
    match l with
    | [] => rfl
    | c :: r =>
      unfold txtS txtR
      by_cases hc : c = 34
      · rw [if_pos hc, if_pos hc]
        simp only [finR]
        rw [if_neg (by omega)]
      · rw [if_neg hc, if_neg hc]
        by_cases h0 : (pcS (c :: r)).2 = 0
        · rw [if_pos (Or.inl h0), if_pos h0]; rfl
        · rw [if_neg h0]
          by_cases h2 : V.length = 200
          · rw [if_pos (Or.inr h2)]
            cases hz : txtR f (n + (pcS (c :: r)).2) (V ++ [(pcS (c :: r)).1]) ((c :: r).drop (pcS (c :: r)).2) with
            | none => rfl
            | some p =>
              obtain ⟨m, W⟩ := p
              have := lenR _ _ _ _ _ _ hz
              rw [List.length_append] at this
              simp only [finR]
              rw [if_pos (by simp at this; omega)]
          · rw [if_neg (fun h => h.elim h0 h2)]
            exact ih _ _ _ (by rw [List.length_append]; simp; omega)

theorem build0 (w : World) : (w.alloc (.cells #[] 5)).ownsRow (w.alloc (.cells #[] 5)).heap.size.pred 5 1 (.slice (some ⟨w.heap.size, 0, none⟩) 0 0) 0 (bv []) := by
  refine ⟨rfl, Or.inr ⟨w.heap.size, 0, #[], rfl, ?_, heap_alloc_new w _, Nat.le_refl _, by unfold maxLen; omega, rfl, rfl⟩⟩
  simp

set_option maxRecDepth 100000 in
set_option maxHeartbeats 4000000 in
theorem refQuoted_any (t : ByteArray) (k : Nat) (w : World) (ht : t.size ≤ 4194304) (hk : k < t.size) :
    Calls Tryd.prog 44 #[.string t, .int .i64 (k : Int)] w fun e w' => e = .returned (resV k (txtS ((t.data.toList.drop (k + 1)).length + 1) 1 [] (t.data.toList.drop (k + 1)))) ∧ Below w.heap.size w w' := by
  rw [txt_R _ _ _ _ (by simp)]
  obtain ⟨R, hR⟩ : ∃ R, txtR ((t.data.toList.drop (k + 1)).length + 1) 1 [] (t.data.toList.drop (k + 1)) = R := ⟨_, rfl⟩
  rw [hR]
  have HR0 : Hid (txtR ((t.data.toList.drop (k + 1)).length + 1) 1 [] (t.data.toList.drop (k + 1)) = R) := hR
  clear hR
  have H5 := five_new w (.int .i64 0) (.int .i64 0) (.int .i64 0) (.string ⟨#[]⟩) (.int .i64 0) 35
  have H5' : Hid (Five (w.alloc (.cells #[.int .i64 0, .int .i64 0, .int .i64 0, .string ⟨#[]⟩, .int .i64 0] 35)) w.heap.size (.int .i64 0) (.int .i64 0) (.int .i64 0) (.string ⟨#[]⟩) (.int .i64 0)) := H5
  clear H5
  have HB0 : Hid (Below w.heap.size w (w.alloc (.cells #[.int .i64 0, .int .i64 0, .int .i64 0, .string ⟨#[]⟩, .int .i64 0] 35))) := (Below.refl _ w).alloc (Nat.le_refl _) _
  go_enter Tryd.func44, Tryd.ntmps44
  go_wp2
  generalize hw1 : w.alloc (.cells #[.int .i64 0, .int .i64 0, .int .i64 0, .string ⟨#[]⟩, .int .i64 0] 35) = w1 at *
  have hws : Hid (w.heap.size + 1 = w1.heap.size) := by
    show w.heap.size + 1 = w1.heap.size
    rw [← hw1]
    simp
  clear hw1
  have hb1 : w.heap.size < w1.heap.size := World.block_lt_of_cell? w1 _ H5'.out.c0
  go_loopw [6, 7] (fun i v wr => ∃ (f j : Nat) (V : List UInt8), k + 1 ≤ j ∧ j ≤ t.size ∧ i = .int .i64 (j : Int) ∧ t.size - j < f ∧ V.length ≤ j ∧ Hid (txtR f (j - k) V (t.data.toList.drop j) = R) ∧ Hid (wr.ownsRow w1.heap.size 5 1 v V.length (bv V)) ∧ Hid (Below w1.heap.size w1 wr)) (fun i _ _ => t.size - (intOf i).toNat)
  case atStart =>
    refine ⟨(t.data.toList.drop (k + 1)).length + 1, k + 1, [], Nat.le_refl _, by omega, by go_num, ?_, by simp, ?_, ?_, (Below.refl _ _).alloc (Nat.le_refl _) _⟩
    · rw [List.length_drop, ← Lib.size_eq]; omega
    · rw [show k + 1 - k = 1 from by omega]; exact HR0.out
    · have := build0 w1
      simp only [World.size_alloc, Nat.pred_succ] at this
      rw [hws.out]
      exact this
  case round =>
    clear HR0
    obtain ⟨f, j, V, hkj, hj, rfl, hf, hV, hx, ho, hB⟩ := hrel
    obtain ⟨sa, cap, rfl⟩ := own_slice ho.out
    have HF : Hid (Five wr w.heap.size (.int .i64 0) (.int .i64 0) (.int .i64 0) (.string ⟨#[]⟩) (.int .i64 0)) := H5'.out.below hB.out hb1
    have j0 : (0 : Int) ≤ (j : Int) := by omega
    have j1 : (j : Int) ≤ (t.size : Int) := by omega
    by_cases hlt : j < t.size
    · obtain ⟨f, rfl⟩ : ∃ g, f = g + 1 := ⟨f - 1, by omega⟩
      obtain ⟨c, hc⟩ : ∃ c, t[j]'hlt = c := ⟨_, rfl⟩
      have hdr := drop_at t j hlt
      rw [hc] at hdr
      have hjn : ¬ (t.size : Int) ≤ (j : Int) := by omega
      by_cases hq : c = 34
      · subst hq
        have hRe : R = some (j - k + 1, V) := by
          rw [← hx.out, hdr]
          unfold txtR
          rw [if_pos rfl]
        have hcv := conv_own ho.out
        obtain ⟨c0, c1, c2, c3, c4, f'⟩ := HF.out
        have f0 := f' 0 (by omega)
        have f1 := f' 1 (by omega)
        have f2 := f' 2 (by omega)
        have f3 := f' 3 (by omega)
        have f4 := f' 4 (by omega)
        by_cases h200 : 200 < V.length
        · have HRv : Hid (resV k (finR R) = .tuple #[.agg #[.int .i64 0, .int .i64 0, .int .i64 0, .string ⟨#[]⟩, .int .i64 0], .int .i64 22]) := by
            show resV k (finR R) = _
            rw [hRe]
            simp only [finR]
            rw [if_pos h200]
            rfl
          have h200' : (200 : Int) < (V.length : Int) := by omega
          clear f' hdr hx ho hRe hcv h200
          go_wp2
          exact bodyPost_ret (ret5 (five_set HF.out _ _ _ _ _) rfl rfl) rfl ⟨congrArg Ending.returned HRv.out.symm, below_set5 (HB0.out.trans (hB.out.mono (by omega))) (Nat.le_refl _) _ _ _ _ _⟩
        · have HRv : Hid (resV k (finR R) = .tuple #[.agg #[.int .i64 3, .int .i64 (k : Int), .int .i64 ((j : Int) + 1), .string ⟨V.toArray⟩, .int .i64 0], .int .i64 0]) := by
            show resV k (finR R) = _
            rw [hRe]
            simp only [finR]
            rw [if_neg h200]
            simp only [resV, tkCells]
            rw [show ((k : Int) + ((j - k + 1 : Nat) : Int)) = (j : Int) + 1 from by omega]
            rfl
          have h200' : ¬ (200 : Int) < (V.length : Int) := by omega
          clear f' hdr hx ho hRe h200
          go_wp2
          exact bodyPost_ret (ret5 (five_set HF.out _ _ _ _ _) rfl rfl) rfl ⟨congrArg Ending.returned HRv.out.symm, below_set5 (HB0.out.trans (hB.out.mono (by omega))) (Nat.le_refl _) _ _ _ _ _⟩
      · have b34 := u8ne (n := 34) (by omega) hq
        have HP := refPiece_any t j wr (by omega) hlt (by rw [hc]; exact hq)
        have hle := pcS_le (t.data.toList.drop j)
        rw [List.length_drop, ← Lib.size_eq] at hle
        have hbad : (pcS (t.data.toList.drop j)).2 = 0 → R = none := by
          intro h
          rw [← hx.out, hdr]
          unfold txtR
          rw [if_neg hq, if_pos (by rw [← hdr]; exact h)]
        have hgood : (pcS (t.data.toList.drop j)).2 ≠ 0 → txtR f (j - k + (pcS (t.data.toList.drop j)).2) (V ++ [(pcS (t.data.toList.drop j)).1]) (t.data.toList.drop (j + (pcS (t.data.toList.drop j)).2)) = R := by
          intro h
          rw [← hx.out, ← List.drop_drop]
          conv => rhs; rw [hdr]; unfold txtR
          rw [if_neg hq, if_neg (by rw [← hdr]; exact h), ← hdr]
        clear hdr hx hq
        generalize pcS (t.data.toList.drop j) = P at HP hle hbad hgood
        obtain ⟨b, m⟩ := P
        simp only at hle hbad hgood
        have HP' : Hid (Calls Tryd.prog 53 #[.string t, .int .i64 (j : Int)] wr fun e w' => e = .returned (.tuple #[.int .i64 (m : Int), .int .u8 (b.toNat : Int)]) ∧ Below wr.heap.size wr w') := HP
        have HG : Hid (m ≠ 0 → txtR f (j - k + m) (V ++ [b]) (t.data.toList.drop (j + m)) = R) := hgood
        have HBd : Hid (m = 0 → R = none) := hbad
        clear HP hgood hbad
        by_cases hm : m = 0
        · have HRv : Hid (resV k (finR R) = .tuple #[.agg #[.int .i64 0, .int .i64 0, .int .i64 0, .string ⟨#[]⟩, .int .i64 0], .int .i64 22]) := by
            show resV k (finR R) = _
            rw [HBd.out hm]
            rfl
          subst hm
          clear HG HBd
          go_wp2_with (first
            | (go_at_call 53; refine HP'.out.mono ?_; rintro e w2 ⟨rfl, hb2⟩; have F3 : Hid (Five w2 w.heap.size _ _ _ _ _) := HF.out.below hb2 (Nat.lt_of_lt_of_le hb1 hB.out.size); obtain ⟨c0, c1, c2, c3, c4, f'⟩ := F3.out; have f0 := f' 0 (by omega); have f1 := f' 1 (by omega); have f2 := f' 2 (by omega); have f3 := f' 3 (by omega); have f4 := f' 4 (by omega); clear f')
            | go_in)
          exact bodyPost_ret (ret5 (five_set F3.out _ _ _ _ _) rfl rfl) rfl ⟨congrArg Ending.returned HRv.out.symm, below_set5 ((HB0.out.trans (hB.out.mono (by omega))).trans (hb2.mono (by have := hB.out.size; omega))) (Nat.le_refl _) _ _ _ _ _⟩
        · have HG2 : Hid (txtR f (j + m - k) (V ++ [b]) (t.data.toList.drop (j + m)) = R) := by
            show txtR f (j + m - k) (V ++ [b]) (t.data.toList.drop (j + m)) = R
            rw [show j + m - k = j - k + m from by omega]
            exact HG.out hm
          have q1 : ((m : Int) == 0) = false := by rw [beq_eq_false_iff_ne]; omega
          clear HG HBd
          go_wp2_with (first
            | (go_at_call 53; refine HP'.out.mono ?_; rintro e w2 ⟨rfl, hb2⟩; have ho2 : Hid (w2.ownsRow w1.heap.size 5 1 (.slice sa V.length cap) V.length (bv V)) := own_stays ho.out hb2; have hB2 : Hid (Below w1.heap.size w1 w2) := hB.out.trans (hb2.mono hB.out.size))
            | (at_builtin; refine wpList_app1 (w0 := w1) (by rfl) _ _ (by rfl) _ V.length V (by rfl) ho2 hB2 b (by rfl) (by omega) ?_; intro v3 w3 ho3 hb3)
            | go_in)
          exact ⟨⟨f, j + m, V ++ [b], by omega, by omega, by go_num, by omega, by simp; omega, HG2, by rw [List.length_append]; exact ho3, hb3⟩, by simp [intOf]; omega⟩
    · obtain rfl : j = t.size := by omega
      have HRv : Hid (resV k (finR R) = .tuple #[.agg #[.int .i64 0, .int .i64 0, .int .i64 0, .string ⟨#[]⟩, .int .i64 0], .int .i64 22]) := by
        show resV k (finR R) = _
        rw [← hx.out, List.drop_eq_nil_of_le (by rw [← Lib.size_eq]; omega)]
        cases f <;> rfl
      obtain ⟨c0, c1, c2, c3, c4, f'⟩ := HF.out
      have f0 := f' 0 (by omega)
      have f1 := f' 1 (by omega)
      have f2 := f' 2 (by omega)
      have f3 := f' 3 (by omega)
      have f4 := f' 4 (by omega)
      clear f' hx
      go_wp2
      exact bodyPost_ret (ret5 (five_set HF.out _ _ _ _ _) rfl rfl) rfl ⟨congrArg Ending.returned HRv.out.symm, below_set5 (HB0.out.trans (hB.out.mono (by omega))) (Nat.le_refl _) _ _ _ _ _⟩
end Go.Proofs.YtlahcmhjnhangaaDoor
