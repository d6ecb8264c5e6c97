import Derived.Test.YtahdkffijlfmnaaGreatDoorF12
namespace Go.Proofs.YtahdkffijlfmnaaGreatDoor.Hp
open Go.RowKit

set_option maxRecDepth 100000 in
set_option maxHeartbeats 1000000 in
theorem at_any (k n : Int) (s : ByteArray) (k' n' : Int) (s' : ByteArray) (w : World) (hs : s.size ≤ 9223372036854775807) (hs' : s'.size ≤ 9223372036854775807) :
    Calls Tryz.prog 116 #[.agg #[.int .i64 k, .int .i64 n, .string s], .agg #[.int .i64 k', .int .i64 n', .string s']] w fun e w' => e = .returned (.tuple #[.agg #[.int .i64 (atS k n s k' n' s').1, .int .i64 (atS k n s k' n' s').2.1, .string (atS k n s k' n' s').2.2.1], .int .i64 (atS k n s k' n' s').2.2.2]) ∧ Below w.heap.size w w' := by
  have i0 := Inv.new w k n s k' n' s'
  have ca := fun W : World => is_any k n s 3 W hs
  have cb := fun W : World => is_any k' n' s' 1 W hs'
  have ea : isS k n s 3 = true ↔ (k = 3 ∧ okV k n s = true) := by unfold isS; simp
  have eb : isS k' n' s' 1 = true ↔ (k' = 1 ∧ okV k' n' s' = true) := by unfold isS; simp
  cases hi : isS k n s 3 with
  | false =>
    rw [hi] at ca
    rw [show atS k n s k' n' s' = stuckS by unfold atS; rw [if_neg (fun h => by have := ea.2 ⟨h.1, h.2.1⟩; rw [hi] at this; cases this)]]
    clear ea eb cb
    go_enter Tryz.func116, Tryz.ntmps116
    go_wp2_with fail
    refine (ca _).mono ?_
    rintro e w1 ⟨rfl, hb⟩
    have i1 := i0.next hb
    obtain ⟨⟨⟨a0, g0⟩, ⟨a1, g1⟩⟩, a2, g2⟩ := id i1.a
    obtain ⟨⟨⟨c0, k0⟩, ⟨c1, k1⟩⟩, c2, k2⟩ := id i1.b
    obtain ⟨⟨⟨q0, f0⟩, ⟨q1, f1⟩⟩, q2, f2⟩ := id i1.r
    have B2 : Below w.heap.size w (put3 w1 (w.heap.size + 1 + 1) (0) (0) (e0)) := below_put3 i1.below (by omega) _ _ _
    have m2 := i1.r.put (0) (0) (e0)
    go_wp2
    change bodyPost Tryz.prog _ _ _ _ (put3 w1 (w.heap.size + 1 + 1) _ _ _)
    generalize put3 w1 (w.heap.size + 1 + 1) (0) (0) (e0) = X at B2 m2 ⊢
    obtain ⟨⟨⟨p0, -⟩, ⟨p1, -⟩⟩, p2, -⟩ := m2
    exact bodyPost_ret (v := .tuple #[.agg #[.int .i64 (0), .int .i64 (0), .string (e0)], .int .i64 (7)]) (by simp [results, Tryz.results116, go_sem, p0, p1, p2]) rfl ⟨rfl, B2⟩
  | true =>
  rw [hi] at ca
  have ha := ea.1 hi
  clear ea hi
  cases hj : isS k' n' s' 1 with
  | false =>
    rw [hj] at cb
    rw [show atS k n s k' n' s' = stuckS by unfold atS; rw [if_neg (fun h => by have := eb.2 ⟨h.2.2.1, h.2.2.2⟩; rw [hj] at this; cases this)]]
    clear eb ha
    go_enter Tryz.func116, Tryz.ntmps116
    go_wp2_with fail
    refine (ca _).mono ?_
    rintro e w1 ⟨rfl, hb⟩
    have i1 := i0.next hb
    obtain ⟨⟨⟨a0, g0⟩, ⟨a1, g1⟩⟩, a2, g2⟩ := id i1.a
    obtain ⟨⟨⟨c0, k0⟩, ⟨c1, k1⟩⟩, c2, k2⟩ := id i1.b
    obtain ⟨⟨⟨q0, f0⟩, ⟨q1, f1⟩⟩, q2, f2⟩ := id i1.r
    go_wp2_with fail
    refine (cb _).mono ?_
    rintro e w2 ⟨rfl, hb2⟩
    have i2 := i1.next hb2
    clear a0 a1 a2 g0 g1 g2 c0 c1 c2 k0 k1 k2 q0 q1 q2 f0 f1 f2
    obtain ⟨⟨⟨a0, g0⟩, ⟨a1, g1⟩⟩, a2, g2⟩ := id i2.a
    obtain ⟨⟨⟨c0, k0⟩, ⟨c1, k1⟩⟩, c2, k2⟩ := id i2.b
    obtain ⟨⟨⟨q0, f0⟩, ⟨q1, f1⟩⟩, q2, f2⟩ := id i2.r
    have B2 : Below w.heap.size w (put3 w2 (w.heap.size + 1 + 1) (0) (0) (e0)) := below_put3 i2.below (by omega) _ _ _
    have m2 := i2.r.put (0) (0) (e0)
    go_wp2
    change bodyPost Tryz.prog _ _ _ _ (put3 w2 (w.heap.size + 1 + 1) _ _ _)
    generalize put3 w2 (w.heap.size + 1 + 1) (0) (0) (e0) = X at B2 m2 ⊢
    obtain ⟨⟨⟨p0, -⟩, ⟨p1, -⟩⟩, p2, -⟩ := m2
    exact bodyPost_ret (v := .tuple #[.agg #[.int .i64 (0), .int .i64 (0), .string (e0)], .int .i64 (7)]) (by simp [results, Tryz.results116, go_sem, p0, p1, p2]) rfl ⟨rfl, B2⟩
  | true =>
  rw [hj] at cb
  have hb0 := eb.1 hj
  clear eb hj
  have hz : s.size ≤ 256 := by
    obtain ⟨rfl, hv⟩ := ha
    rw [show okV 3 n s = (n == 0 && decide (s.size ≤ 256)) from rfl] at hv; simp at hv; exact hv.2
  by_cases l0 : n' < 0
  · rw [show atS k n s k' n' s' = (0, 0, e0, 2) by unfold atS; rw [if_pos ⟨ha.1, ha.2, hb0.1, hb0.2⟩, if_pos (Or.inl l0)]]
    clear ha hb0
    go_enter Tryz.func116, Tryz.ntmps116
    go_wp2_with fail
    refine (ca _).mono ?_
    rintro e w1 ⟨rfl, hb⟩
    have i1 := i0.next hb
    obtain ⟨⟨⟨a0, g0⟩, ⟨a1, g1⟩⟩, a2, g2⟩ := id i1.a
    obtain ⟨⟨⟨c0, k0⟩, ⟨c1, k1⟩⟩, c2, k2⟩ := id i1.b
    obtain ⟨⟨⟨q0, f0⟩, ⟨q1, f1⟩⟩, q2, f2⟩ := id i1.r
    go_wp2_with fail
    refine (cb _).mono ?_
    rintro e w2 ⟨rfl, hb2⟩
    have i2 := i1.next hb2
    clear a0 a1 a2 g0 g1 g2 c0 c1 c2 k0 k1 k2 q0 q1 q2 f0 f1 f2
    obtain ⟨⟨⟨a0, g0⟩, ⟨a1, g1⟩⟩, a2, g2⟩ := id i2.a
    obtain ⟨⟨⟨c0, k0⟩, ⟨c1, k1⟩⟩, c2, k2⟩ := id i2.b
    obtain ⟨⟨⟨q0, f0⟩, ⟨q1, f1⟩⟩, q2, f2⟩ := id i2.r
    have B2 : Below w.heap.size w (put3 w2 (w.heap.size + 1 + 1) (0) (0) (e0)) := below_put3 i2.below (by omega) _ _ _
    have m2 := i2.r.put (0) (0) (e0)
    go_wp2
    change bodyPost Tryz.prog _ _ _ _ (put3 w2 (w.heap.size + 1 + 1) _ _ _)
    generalize put3 w2 (w.heap.size + 1 + 1) (0) (0) (e0) = X at B2 m2 ⊢
    obtain ⟨⟨⟨p0, -⟩, ⟨p1, -⟩⟩, p2, -⟩ := m2
    exact bodyPost_ret (v := .tuple #[.agg #[.int .i64 (0), .int .i64 (0), .string (e0)], .int .i64 (2)]) (by simp [results, Tryz.results116, go_sem, p0, p1, p2]) rfl ⟨rfl, B2⟩
  by_cases l1 : (s.size : Int) ≤ n'
  · rw [show atS k n s k' n' s' = (0, 0, e0, 2) by unfold atS; rw [if_pos ⟨ha.1, ha.2, hb0.1, hb0.2⟩, if_pos (Or.inr l1)]]
    clear ha hb0
    go_enter Tryz.func116, Tryz.ntmps116
    go_wp2_with fail
    refine (ca _).mono ?_
    rintro e w1 ⟨rfl, hb⟩
    have i1 := i0.next hb
    obtain ⟨⟨⟨a0, g0⟩, ⟨a1, g1⟩⟩, a2, g2⟩ := id i1.a
    obtain ⟨⟨⟨c0, k0⟩, ⟨c1, k1⟩⟩, c2, k2⟩ := id i1.b
    obtain ⟨⟨⟨q0, f0⟩, ⟨q1, f1⟩⟩, q2, f2⟩ := id i1.r
    go_wp2_with fail
    refine (cb _).mono ?_
    rintro e w2 ⟨rfl, hb2⟩
    have i2 := i1.next hb2
    clear a0 a1 a2 g0 g1 g2 c0 c1 c2 k0 k1 k2 q0 q1 q2 f0 f1 f2
    obtain ⟨⟨⟨a0, g0⟩, ⟨a1, g1⟩⟩, a2, g2⟩ := id i2.a
    obtain ⟨⟨⟨c0, k0⟩, ⟨c1, k1⟩⟩, c2, k2⟩ := id i2.b
    obtain ⟨⟨⟨q0, f0⟩, ⟨q1, f1⟩⟩, q2, f2⟩ := id i2.r
    have B2 : Below w.heap.size w (put3 w2 (w.heap.size + 1 + 1) (0) (0) (e0)) := below_put3 i2.below (by omega) _ _ _
    have m2 := i2.r.put (0) (0) (e0)
    go_wp2
    change bodyPost Tryz.prog _ _ _ _ (put3 w2 (w.heap.size + 1 + 1) _ _ _)
    generalize put3 w2 (w.heap.size + 1 + 1) (0) (0) (e0) = X at B2 m2 ⊢
    obtain ⟨⟨⟨p0, -⟩, ⟨p1, -⟩⟩, p2, -⟩ := m2
    exact bodyPost_ret (v := .tuple #[.agg #[.int .i64 (0), .int .i64 (0), .string (e0)], .int .i64 (2)]) (by simp [results, Tryz.results116, go_sem, p0, p1, p2]) rfl ⟨rfl, B2⟩
  rw [show atS k n s k' n' s' = (1, ((s.data.toList.getD n'.toNat 0).toNat : Int), e0, 0) by unfold atS; rw [if_pos ⟨ha.1, ha.2, hb0.1, hb0.2⟩, if_neg (by omega)]; rfl]
  clear ha hb0
  obtain ⟨j, rfl⟩ := Int.eq_ofNat_of_zero_le (show 0 ≤ n' from by omega)
  have hj : j < s.size := by omega
  have hget : s.data.toList.getD (Int.toNat j) 0 = s[j] := by
    rw [Int.toNat_natCast, List.getD_eq_getElem?_getD, List.getElem?_eq_getElem (by rw [Array.length_toList]; exact hj)]
    rfl
  rw [hget, ← wrap_in (x := ((s[j]).toNat : Int)) (by have := (s[j]).toNat_lt; omega)]
  clear hget
  go_enter Tryz.func116, Tryz.ntmps116
  go_wp2_with fail
  refine (ca _).mono ?_
  rintro e w1 ⟨rfl, hb⟩
  have i1 := i0.next hb
  obtain ⟨⟨⟨a0, g0⟩, ⟨a1, g1⟩⟩, a2, g2⟩ := id i1.a
  obtain ⟨⟨⟨c0, k0⟩, ⟨c1, k1⟩⟩, c2, k2⟩ := id i1.b
  obtain ⟨⟨⟨q0, f0⟩, ⟨q1, f1⟩⟩, q2, f2⟩ := id i1.r
  go_wp2_with fail
  refine (cb _).mono ?_
  rintro e w2 ⟨rfl, hb2⟩
  have i2 := i1.next hb2
  clear a0 a1 a2 g0 g1 g2 c0 c1 c2 k0 k1 k2 q0 q1 q2 f0 f1 f2
  obtain ⟨⟨⟨a0, g0⟩, ⟨a1, g1⟩⟩, a2, g2⟩ := id i2.a
  obtain ⟨⟨⟨c0, k0⟩, ⟨c1, k1⟩⟩, c2, k2⟩ := id i2.b
  obtain ⟨⟨⟨q0, f0⟩, ⟨q1, f1⟩⟩, q2, f2⟩ := id i2.r
  go_wp2_with fail
  refine (number_any _ _).mono ?_
  rintro e w3 ⟨rfl, hb3⟩
  have i3 := i2.next hb3
  clear a0 a1 a2 g0 g1 g2 c0 c1 c2 k0 k1 k2 q0 q1 q2 f0 f1 f2
  obtain ⟨⟨⟨a0, g0⟩, ⟨a1, g1⟩⟩, a2, g2⟩ := id i3.a
  obtain ⟨⟨⟨c0, k0⟩, ⟨c1, k1⟩⟩, c2, k2⟩ := id i3.b
  obtain ⟨⟨⟨q0, f0⟩, ⟨q1, f1⟩⟩, q2, f2⟩ := id i3.r
  have B2 : Below w.heap.size w (put3 w3 (w.heap.size + 1 + 1) (1) (wrap64 ((s[j]).toNat : Int)) (e0)) := below_put3 i3.below (by omega) _ _ _
  have m2 := i3.r.put (1) (wrap64 ((s[j]).toNat : Int)) (e0)
  go_wp2
  change bodyPost Tryz.prog _ _ _ _ (put3 w3 (w.heap.size + 1 + 1) _ _ _)
  generalize put3 w3 (w.heap.size + 1 + 1) (1) (wrap64 ((s[j]).toNat : Int)) (e0) = X at B2 m2 ⊢
  obtain ⟨⟨⟨p0, -⟩, ⟨p1, -⟩⟩, p2, -⟩ := m2
  exact bodyPost_ret (v := .tuple #[.agg #[.int .i64 (1), .int .i64 (wrap64 ((s[j]).toNat : Int)), .string (e0)], .int .i64 (0)]) (by simp [results, Tryz.results116, go_sem, p0, p1, p2]) rfl ⟨rfl, B2⟩
end Go.Proofs.YtahdkffijlfmnaaGreatDoor.Hp
