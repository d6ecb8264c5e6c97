import Derived.Test.YtdcioemjmmhbhaaDoorJf
namespace Go.Proofs.YtdcioemjmmhbhaaDoor
open Go.RowKit

theorem getH_no {A : Hp} {v : V} (i : Int) (h : mayS v 4 A.length = false) : getH A v i = (zv, 7) := by
  have hf : findH A v = ((0, []), 7) := by unfold findH; rw [if_pos h]
  unfold getH placeH
  rw [hf]
  simp
theorem findH_zero {A : Hp} {v : V} (h : mayS v 4 A.length = true) (h0 : v.2.1 = 0) : findH A v = ((0, []), 0) := by
  unfold findH
  rw [if_neg (by rw [h]; decide), if_pos h0]
theorem findH_at {A : Hp} {v : V} (h : mayS v 4 A.length = true) (j : Nat) (hj : v.2.1 = (j : Int) + 1) (a : Int × List V) (ha : A[j]? = some a) : findH A v = (a, 0) := by
  unfold findH
  rw [if_neg (by rw [h]; decide), if_neg (by omega), hj, show ((j : Int) + 1).toNat - 1 = j by omega, List.getD_eq_getElem?_getD, ha]
  rfl
theorem getH_of {A : Hp} {v : V} {i : Int} {a : Int × List V} (hf : findH A v = (a, 0)) : getH A v i = if i < 0 ∨ (a.2.length : Int) ≤ i then (zv, 2) else (a.2.getD i.toNat zv, 0) := by
  have hp : placeH A v i = if i < 0 ∨ (a.2.length : Int) ≤ i then ((0, []), 2) else (a, 0) := by
    unfold placeH
    rw [hf]
    simp
  unfold getH
  rw [hp]
  split <;> simp
theorem may4_range {A : Hp} {k n : Int} {s : ByteArray} (h : mayS (k, n, s) 4 A.length = true) : 0 ≤ n ∧ n ≤ (A.length : Int) := by
  rw [may4] at h
  simp only [Bool.and_eq_true, decide_eq_true_eq] at h
  exact ⟨h.1.2, h.2⟩


set_option maxRecDepth 100000 in
set_option maxHeartbeats 4000000 in
theorem rget_any {w : World} {p lim : Nat} {Md : List Mr} {Ps : List Dn} {mv pv : Value} {F : Nat → Prop} {A : Hp} (h : RHeap w p lim Md Ps mv pv F) (hr : RelA Md Ps A) (k n : Int) (s : ByteArray) (i : Int) (hPl : Ps.length ≤ 4611686018427387904) :
    Calls Tryd.prog 50 #[.pointer (some ⟨p, 0, none⟩), .agg #[.int .i64 k, .int .i64 n, .string s], .int .i64 i] w fun e w' => e = .returned (.tuple #[.agg (vc (getH A (k, n, s) i).1).toArray, .int .i64 (getH A (k, n, s) i).2]) ∧ Below w.heap.size w w' := by
  have b0 := Box3.new w k n s 37
  have b1 := Box3.new (w.alloc (.cells #[.int .i64 k, .int .i64 n, .string s] 37)) 0 0 e0 37
  rw [World.size_alloc] at b1
  replace b0 := b0.alloc (.cells #[.int .i64 0, .int .i64 0, .string e0] 37)
  have B0 : Below w.heap.size w ((w.alloc (.cells #[.int .i64 k, .int .i64 n, .string s] 37)).alloc (.cells #[.int .i64 0, .int .i64 0, .string e0] 37)) := ((Below.refl _ w).alloc (Nat.le_refl _) _).alloc (by simp) _
  have z0 : ((w.alloc (.cells #[.int .i64 k, .int .i64 n, .string s] 37)).alloc (.cells #[.int .i64 0, .int .i64 0, .string e0] 37)).heap.size = w.heap.size + 2 := by simp
  obtain ⟨R0, hR0⟩ : ∃ R0, getH A (k, n, s) i = R0 := ⟨_, rfl⟩
  have HR0 : Hid (getH A (k, n, s) i = R0) := hR0
  rw [hR0]
  clear hR0
  go_enter Tryd.func50, Tryd.ntmps50
  go_wp2_with fail
  generalize (w.alloc (.cells #[.int .i64 k, .int .i64 n, .string s] 37)).alloc (.cells #[.int .i64 0, .int .i64 0, .string e0] 37) = X at b0 b1 B0 z0 ⊢
  have hzX : w.heap.size + 2 ≤ X.heap.size := by omega
  clear z0
  replace h := h.next B0
  obtain ⟨⟨⟨x0, -⟩, ⟨x1, -⟩⟩, x2, -⟩ := id b0
  have hc := refers_any h k n s
  rw [← hr.len] at hc
  go_wp2_with fail
  refine hc.mono ?_
  rintro e w1 ⟨rfl, hb⟩
  replace h := h.next hb
  replace b0 := b0.below hb (by omega)
  replace b1 := b1.below hb (by omega)
  replace B0 := below2 B0 hb
  have hz1 : w.heap.size + 2 ≤ w1.heap.size := by have := hb.size; omega
  clear hc x0 x1 x2 hb hzX
  obtain ⟨⟨⟨y0, g0⟩, ⟨y1, g1⟩⟩, y2, g2⟩ := id b1
  cases hq : mayS (k, n, s) 4 A.length with
  | false =>
    have HR : Hid (R0 = (zv, 7)) := HR0.out.symm.trans (getH_no i hq)
    go_wp2
    have mm := b1.put 0 0 e0
    have B1 := below_put3 B0 (Nat.le_succ _) 0 0 e0
    change bodyPost Tryd.prog _ _ _ _ (put3 w1 (w.heap.size + 1) _ _ _)
    generalize put3 w1 (w.heap.size + 1) 0 0 e0 = Z at mm B1 ⊢
    obtain ⟨⟨⟨p0, -⟩, ⟨p1, -⟩⟩, p2, -⟩ := mm
    exact bodyPost_ret (v := .tuple #[.agg #[.int .i64 0, .int .i64 0, .string e0], .int .i64 7]) (by simp [results, Tryd.results50, go_sem, p0, p1, p2]) rfl ⟨by rw [HR.out]; rfl, B1⟩
  | true =>
    obtain ⟨n0, n1⟩ := may4_range hq
    obtain ⟨a, haf⟩ : ∃ a, findH A (k, n, s) = (a, 0) := by
      by_cases hn0 : n = 0
      · exact ⟨_, findH_zero hq hn0⟩
      · obtain ⟨j, rfl⟩ : ∃ j : Nat, n = (j : Int) + 1 := ⟨(n - 1).toNat, by omega⟩
        exact ⟨_, findH_at hq j rfl A[j] (List.getElem?_eq_getElem (by omega))⟩
    have hR0 := HR0.out.symm.trans (getH_of haf)
    clear HR0
    obtain ⟨⟨⟨x0, -⟩, ⟨x1, -⟩⟩, x2, -⟩ := id b0
    by_cases hi : i < 0
    · rw [if_pos (.inl hi)] at hR0
      have HR : Hid (R0 = (zv, 2)) := hR0
      clear hR0
      go_wp2
      have mm := b1.put 0 0 e0
      have B1 := below_put3 B0 (Nat.le_succ _) 0 0 e0
      change bodyPost Tryd.prog _ _ _ _ (put3 w1 (w.heap.size + 1) _ _ _)
      generalize put3 w1 (w.heap.size + 1) 0 0 e0 = Z at mm B1 ⊢
      obtain ⟨⟨⟨p0, -⟩, ⟨p1, -⟩⟩, p2, -⟩ := mm
      exact bodyPost_ret (v := .tuple #[.agg #[.int .i64 0, .int .i64 0, .string e0], .int .i64 2]) (by simp [results, Tryd.results50, go_sem, p0, p1, p2]) rfl ⟨by rw [HR.out]; rfl, B1⟩
    · have hLa : ∃ (nn : Nat), n = (nn : Int) ∧ nn ≤ Md.length ∧ (if nn = 0 then 0 else (Md.getD (nn - 1) (0, 0)).2) = a.2.length := by
        refine ⟨n.toNat, by omega, by rw [← hr.len]; omega, ?_⟩
        by_cases hn0 : n = 0
        · rw [findH_zero hq hn0] at haf
          cases haf
          rw [if_pos (by omega)]
          rfl
        · obtain ⟨j, rfl⟩ : ∃ j : Nat, n = (j : Int) + 1 := ⟨(n - 1).toNat, by omega⟩
          have hj : j < A.length := by omega
          rw [findH_at hq j rfl A[j] (List.getElem?_eq_getElem hj)] at haf
          cases haf
          have hjm : j < Md.length := by rw [← hr.len]; exact hj
          have := (hr.at' j A[j] Md[j] (List.getElem?_eq_getElem hj) (List.getElem?_eq_getElem hjm)).2.1
          rw [if_neg (by omega), show ((j : Int) + 1).toNat - 1 = j by omega, List.getD_eq_getElem?_getD, List.getElem?_eq_getElem hjm]
          exact this
      obtain ⟨nn, rfl, hnn, hL⟩ := hLa
      have hlg := length_any h nn hnn
      rw [hL] at hlg
      have hi' : (i < 0) = False := by simp [hi]
      by_cases hout : (a.2.length : Int) ≤ i
      · rw [if_pos (.inr hout)] at hR0
        have HR : Hid (R0 = (zv, 2)) := hR0
        clear hR0
        clear hL
        go_wp2_with (first | (go_at_call 59; refine hlg.mono ?_; rintro e w2 ⟨rfl, rfl⟩) | go_in)
        have mm := b1.put 0 0 e0
        have B1 := below_put3 B0 (Nat.le_succ _) 0 0 e0
        change bodyPost Tryd.prog _ _ _ _ (put3 w2 (w.heap.size + 1) _ _ _)
        generalize put3 w2 (w.heap.size + 1) 0 0 e0 = Z at mm B1 ⊢
        obtain ⟨⟨⟨p0, -⟩, ⟨p1, -⟩⟩, p2, -⟩ := mm
        exact bodyPost_ret (v := .tuple #[.agg #[.int .i64 0, .int .i64 0, .string e0], .int .i64 2]) (by simp [results, Tryd.results50, go_sem, p0, p1, p2]) rfl ⟨by rw [HR.out]; rfl, B1⟩
      · rw [if_neg (fun q => q.elim hi hout)] at hR0
        obtain ⟨ii, rfl⟩ : ∃ ii : Nat, i = (ii : Int) := ⟨i.toNat, by omega⟩
        have hii : ii < a.2.length := by omega
        obtain ⟨j, rfl⟩ : ∃ j, nn = j + 1 := by
          cases nn with
          | zero => rw [if_pos rfl] at hL; omega
          | succ j => exact ⟨j, rfl⟩
        have hj : j < A.length := by rw [hr.len]; omega
        have hjm : j < Md.length := by omega
        have haf2 := findH_at hq j (by simp) A[j] (List.getElem?_eq_getElem hj)
        rw [haf] at haf2
        have haE : a = A[j] := by injection haf2
        have hel := (hr.at' j A[j] Md[j] (List.getElem?_eq_getElem hj) (List.getElem?_eq_getElem hjm)).2.2
        rw [← haE] at hel
        have helv := hel ii hii
        have hE := relem_any h j ii Md[j] (List.getElem?_eq_getElem hjm) hPl
        rw [← helv] at hE
        rw [Int.toNat_natCast, List.getD_eq_getElem?_getD, List.getElem?_eq_getElem hii, Option.getD_some] at hR0
        rw [show ((j + 1 : Nat) : Int) = (j : Int) + 1 by simp] at *
        generalize a.2[ii] = R at hE hR0
        obtain ⟨rk, rn, rs⟩ := R
        rw [show (vc (rk, rn, rs)).toArray = #[.int .i64 rk, .int .i64 rn, .string rs] from rfl] at hE
        have HR : Hid (R0 = ((rk, rn, rs), 0)) := hR0
        clear hL hel helv haf haf2 haE hq hR0
        go_wp2_with (first
          | (go_at_call 59; refine hlg.mono ?_; rintro e w2 ⟨rfl, rfl⟩)
          | (go_at_call 49; refine hE.mono ?_; rintro e w3 ⟨rfl, hb3⟩; obtain ⟨⟨⟨y0, g0⟩, ⟨y1, g1⟩⟩, y2, g2⟩ := id (b1.below hb3 (by omega)))
          | go_in)
        have mm := (b1.below hb3 (by omega)).put rk rn rs
        have B1 := below_put3 (below2 B0 hb3) (Nat.le_succ _) rk rn rs
        change bodyPost Tryd.prog _ _ _ _ (put3 w3 (w.heap.size + 1) _ _ _)
        generalize put3 w3 (w.heap.size + 1) rk rn rs = Z at mm B1 ⊢
        obtain ⟨⟨⟨p0, -⟩, ⟨p1, -⟩⟩, p2, -⟩ := mm
        exact bodyPost_ret (v := .tuple #[.agg #[.int .i64 rk, .int .i64 rn, .string rs], .int .i64 0]) (by simp [results, Tryd.results50, go_sem, p0, p1, p2]) rfl ⟨by rw [HR.out]; rfl, B1⟩
end Go.Proofs.YtdcioemjmmhbhaaDoor
