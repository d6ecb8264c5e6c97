import Derived.Test.YtfghajokmmlijaaDoorBin
import Derived.Test.YtfghajokmmlijaaDoorEInts
import Derived.Test.YtfghajokmmlijaaDoorEBelow
import Derived.Deep.RegionHeld3
namespace Go.Proofs.YtfghajokmmlijaaDoor
open Go.RowKit

set_option maxRecDepth 100000 in
set_option maxHeartbeats 2000000 in
theorem rbinary_any (op k n : Int) (s : ByteArray) (k' n' : Int) (s' : ByteArray) (w : World) (hs : s.size ≤ 9223372036854775807) (hs' : s'.size ≤ 9223372036854775807) (hn : -9223372036854775808 ≤ n ∧ n ≤ 9223372036854775807) (hn' : -9223372036854775808 ≤ n' ∧ n' ≤ 9223372036854775807) :
    Calls Tryd.prog 10 #[.int .i64 op, .agg #[.int .i64 k, .int .i64 n, .string s], .agg #[.int .i64 k', .int .i64 n', .string s']] w fun e w' => e = .returned (.tuple #[.agg #[.int .i64 (binS op k n s k' n' s').1, .int .i64 (binS op k n s k' n' s').2.1, .string (binS op k n s k' n' s').2.2.1], .int .i64 (binS op k n s k' n' s').2.2.2]) ∧ Below w.heap.size w w' := by
  have i0 := Inv.new w k n s k' n' s'
  have ca := fun W : World => rvalid_any k n s W hs
  have cb := fun W : World => rvalid_any k' n' s' W hs'
  by_cases hk : k = k'
  · subst hk
    by_cases h0 : k = 0
    · subst h0
      rw [show binS op 0 n s 0 n' s' = stuckS by unfold binS; split <;> simp]
      go_enter Tryd.func10, Tryd.ntmps10
      go_wp2
      refine bodyPost_ret (v := .tuple #[.agg #[.int .i64 0, .int .i64 0, .string e0], .int .i64 7]) (by simp [results, Tryd.results10, go_sem]) rfl ⟨rfl, ?_⟩
      exact i0.below
    have h0b : (k == 0) = false := by simp [h0]
    cases va : okV k n s with
    | false =>
      rw [va] at ca
      rw [show binS op k n s k n' s' = stuckS by unfold binS; rw [if_neg (by simp [va])]]
      go_enter Tryd.func10, Tryd.ntmps10
      go_wp2_with fail
      refine (ca _).mono ?_
      rintro e w1 ⟨rfl, hbw1⟩
      have i1 := i0.next hbw1
      obtain ⟨⟨⟨a0, g0⟩, ⟨a1, g1⟩⟩, a2, g2⟩ := id i1.a
      obtain ⟨⟨⟨c0, k0⟩, ⟨c1, k1⟩⟩, c2, k2⟩ := id i1.b
      obtain ⟨⟨⟨q0, f0⟩, ⟨q1, f1⟩⟩, q2, f2⟩ := id i1.r
      have B2 : Below w.heap.size w (put3 w1 (w.heap.size + 1 + 1) (0) (0) (e0)) := below_put3 i1.below (by omega) _ _ _
      have m2 := i1.r.put (0) (0) (e0)
      go_wp2
      change bodyPost Tryd.prog _ _ _ _ (put3 w1 (w.heap.size + 1 + 1) _ _ _)
      generalize put3 w1 (w.heap.size + 1 + 1) (0) (0) (e0) = X at B2 m2 ⊢
      obtain ⟨⟨⟨p0, -⟩, ⟨p1, -⟩⟩, p2, -⟩ := m2
      exact bodyPost_ret (v := .tuple #[.agg #[.int .i64 (0), .int .i64 (0), .string (e0)], .int .i64 (7)]) (by simp [results, Tryd.results10, go_sem, p0, p1, p2]) rfl ⟨rfl, B2⟩
    | true =>
    rw [va] at ca
    cases vb : okV k n' s' with
    | false =>
      rw [vb] at cb
      rw [show binS op k n s k n' s' = stuckS by unfold binS; rw [if_neg (by simp [vb])]]
      go_enter Tryd.func10, Tryd.ntmps10
      go_wp2_with fail
      refine (ca _).mono ?_
      rintro e w1 ⟨rfl, hbw1⟩
      have i1 := i0.next hbw1
      obtain ⟨⟨⟨a0, g0⟩, ⟨a1, g1⟩⟩, a2, g2⟩ := id i1.a
      obtain ⟨⟨⟨c0, k0⟩, ⟨c1, k1⟩⟩, c2, k2⟩ := id i1.b
      obtain ⟨⟨⟨q0, f0⟩, ⟨q1, f1⟩⟩, q2, f2⟩ := id i1.r
      go_wp2_with fail
      refine (cb _).mono ?_
      rintro e w2 ⟨rfl, hbw2⟩
      have i2 := i1.next hbw2
      clear a0 a1 a2 g0 g1 g2 c0 c1 c2 k0 k1 k2 q0 q1 q2 f0 f1 f2
      obtain ⟨⟨⟨a0, g0⟩, ⟨a1, g1⟩⟩, a2, g2⟩ := id i2.a
      obtain ⟨⟨⟨c0, k0⟩, ⟨c1, k1⟩⟩, c2, k2⟩ := id i2.b
      obtain ⟨⟨⟨q0, f0⟩, ⟨q1, f1⟩⟩, q2, f2⟩ := id i2.r
      have B2 : Below w.heap.size w (put3 w2 (w.heap.size + 1 + 1) (0) (0) (e0)) := below_put3 i2.below (by omega) _ _ _
      have m2 := i2.r.put (0) (0) (e0)
      go_wp2
      change bodyPost Tryd.prog _ _ _ _ (put3 w2 (w.heap.size + 1 + 1) _ _ _)
      generalize put3 w2 (w.heap.size + 1 + 1) (0) (0) (e0) = X at B2 m2 ⊢
      obtain ⟨⟨⟨p0, -⟩, ⟨p1, -⟩⟩, p2, -⟩ := m2
      exact bodyPost_ret (v := .tuple #[.agg #[.int .i64 (0), .int .i64 (0), .string (e0)], .int .i64 (7)]) (by simp [results, Tryd.results10, go_sem, p0, p1, p2]) rfl ⟨rfl, B2⟩
    | true =>
    rw [vb] at cb
    rw [show binS op k n s k n' s' = (if k = 1 then intsS op n n' else if k = 3 then textsS op s s' else if k = 2 ∨ k = 4 then namesS op n n' else stuckS) by unfold binS; rw [if_pos ⟨va, rfl, vb⟩]]
    by_cases h1 : k = 1
    · subst h1
      rw [if_pos rfl]
      have c := fun W : World => ints_any op n n' W hn hn'
      generalize intsS op n n' = r at c ⊢
      obtain ⟨K, N, S, T⟩ := r
      go_enter Tryd.func10, Tryd.ntmps10
      go_wp2_with fail
      refine (ca _).mono ?_
      rintro e w1 ⟨rfl, hbw1⟩
      have i1 := i0.next hbw1
      obtain ⟨⟨⟨a0, g0⟩, ⟨a1, g1⟩⟩, a2, g2⟩ := id i1.a
      obtain ⟨⟨⟨c0, k0⟩, ⟨c1, k1⟩⟩, c2, k2⟩ := id i1.b
      obtain ⟨⟨⟨q0, f0⟩, ⟨q1, f1⟩⟩, q2, f2⟩ := id i1.r
      go_wp2_with fail
      refine (cb _).mono ?_
      rintro e w2 ⟨rfl, hbw2⟩
      have i2 := i1.next hbw2
      clear a0 a1 a2 g0 g1 g2 c0 c1 c2 k0 k1 k2 q0 q1 q2 f0 f1 f2
      obtain ⟨⟨⟨a0, g0⟩, ⟨a1, g1⟩⟩, a2, g2⟩ := id i2.a
      obtain ⟨⟨⟨c0, k0⟩, ⟨c1, k1⟩⟩, c2, k2⟩ := id i2.b
      obtain ⟨⟨⟨q0, f0⟩, ⟨q1, f1⟩⟩, q2, f2⟩ := id i2.r
      go_wp2_with fail
      refine (c _).mono ?_
      rintro e w3 ⟨rfl, hbw3⟩
      have i3 := i2.next hbw3
      clear a0 a1 a2 g0 g1 g2 c0 c1 c2 k0 k1 k2 q0 q1 q2 f0 f1 f2
      obtain ⟨⟨⟨a0, g0⟩, ⟨a1, g1⟩⟩, a2, g2⟩ := id i3.a
      obtain ⟨⟨⟨c0, k0⟩, ⟨c1, k1⟩⟩, c2, k2⟩ := id i3.b
      obtain ⟨⟨⟨q0, f0⟩, ⟨q1, f1⟩⟩, q2, f2⟩ := id i3.r
      have B2 : Below w.heap.size w (put3 w3 (w.heap.size + 1 + 1) (K) (N) (S)) := below_put3 i3.below (by omega) _ _ _
      have m2 := i3.r.put (K) (N) (S)
      go_wp2
      change bodyPost Tryd.prog _ _ _ _ (put3 w3 (w.heap.size + 1 + 1) _ _ _)
      generalize put3 w3 (w.heap.size + 1 + 1) (K) (N) (S) = X at B2 m2 ⊢
      obtain ⟨⟨⟨p0, -⟩, ⟨p1, -⟩⟩, p2, -⟩ := m2
      exact bodyPost_ret (v := .tuple #[.agg #[.int .i64 (K), .int .i64 (N), .string (S)], .int .i64 (T)]) (by simp [results, Tryd.results10, go_sem, p0, p1, p2]) rfl ⟨rfl, B2⟩
    rw [if_neg h1]
    by_cases h3 : k = 3
    · subst h3
      rw [if_pos rfl]
      have z1 : s.size ≤ 256 := by rw [show okV 3 n s = (n == 0 && decide (s.size ≤ 256)) from rfl] at va; simp at va; exact va.2
      have z2 : s'.size ≤ 256 := by rw [show okV 3 n' s' = (n' == 0 && decide (s'.size ≤ 256)) from rfl] at vb; simp at vb; exact vb.2
      by_cases ho : op = 3
      · subst ho
        by_cases hl : 256 < s.size + s'.size
        · rw [show textsS 3 s s' = (0, 0, e0, 6) by unfold textsS; rw [if_pos rfl, if_pos hl]]
          have hi : (256 : Int) < (s.size : Int) + s'.size := by omega
          go_enter Tryd.func10, Tryd.ntmps10
          go_wp2_with fail
          refine (ca _).mono ?_
          rintro e w1 ⟨rfl, hbw1⟩
          have i1 := i0.next hbw1
          obtain ⟨⟨⟨a0, g0⟩, ⟨a1, g1⟩⟩, a2, g2⟩ := id i1.a
          obtain ⟨⟨⟨c0, k0⟩, ⟨c1, k1⟩⟩, c2, k2⟩ := id i1.b
          obtain ⟨⟨⟨q0, f0⟩, ⟨q1, f1⟩⟩, q2, f2⟩ := id i1.r
          go_wp2_with fail
          refine (cb _).mono ?_
          rintro e w2 ⟨rfl, hbw2⟩
          have i2 := i1.next hbw2
          clear a0 a1 a2 g0 g1 g2 c0 c1 c2 k0 k1 k2 q0 q1 q2 f0 f1 f2
          obtain ⟨⟨⟨a0, g0⟩, ⟨a1, g1⟩⟩, a2, g2⟩ := id i2.a
          obtain ⟨⟨⟨c0, k0⟩, ⟨c1, k1⟩⟩, c2, k2⟩ := id i2.b
          obtain ⟨⟨⟨q0, f0⟩, ⟨q1, f1⟩⟩, q2, f2⟩ := id i2.r
          have B2 : Below w.heap.size w (put3 w2 (w.heap.size + 1 + 1) (0) (0) (e0)) := below_put3 i2.below (by omega) _ _ _
          have m2 := i2.r.put (0) (0) (e0)
          go_wp2
          change bodyPost Tryd.prog _ _ _ _ (put3 w2 (w.heap.size + 1 + 1) _ _ _)
          generalize put3 w2 (w.heap.size + 1 + 1) (0) (0) (e0) = X at B2 m2 ⊢
          obtain ⟨⟨⟨p0, -⟩, ⟨p1, -⟩⟩, p2, -⟩ := m2
          exact bodyPost_ret (v := .tuple #[.agg #[.int .i64 (0), .int .i64 (0), .string (e0)], .int .i64 (6)]) (by simp [results, Tryd.results10, go_sem, p0, p1, p2]) rfl ⟨rfl, B2⟩
        · rw [show textsS 3 s s' = (3, 0, s ++ s', 0) by unfold textsS; rw [if_pos rfl, if_neg hl]]
          have hi : ¬ (256 : Int) < (s.size : Int) + s'.size := by omega
          go_enter Tryd.func10, Tryd.ntmps10
          go_wp2_with fail
          refine (ca _).mono ?_
          rintro e w1 ⟨rfl, hbw1⟩
          have i1 := i0.next hbw1
          obtain ⟨⟨⟨a0, g0⟩, ⟨a1, g1⟩⟩, a2, g2⟩ := id i1.a
          obtain ⟨⟨⟨c0, k0⟩, ⟨c1, k1⟩⟩, c2, k2⟩ := id i1.b
          obtain ⟨⟨⟨q0, f0⟩, ⟨q1, f1⟩⟩, q2, f2⟩ := id i1.r
          go_wp2_with fail
          refine (cb _).mono ?_
          rintro e w2 ⟨rfl, hbw2⟩
          have i2 := i1.next hbw2
          clear a0 a1 a2 g0 g1 g2 c0 c1 c2 k0 k1 k2 q0 q1 q2 f0 f1 f2
          obtain ⟨⟨⟨a0, g0⟩, ⟨a1, g1⟩⟩, a2, g2⟩ := id i2.a
          obtain ⟨⟨⟨c0, k0⟩, ⟨c1, k1⟩⟩, c2, k2⟩ := id i2.b
          obtain ⟨⟨⟨q0, f0⟩, ⟨q1, f1⟩⟩, q2, f2⟩ := id i2.r
          have B2 : Below w.heap.size w (put3 w2 (w.heap.size + 1 + 1) (3) (0) (s ++ s')) := below_put3 i2.below (by omega) _ _ _
          have m2 := i2.r.put (3) (0) (s ++ s')
          go_wp2
          change bodyPost Tryd.prog _ _ _ _ (put3 w2 (w.heap.size + 1 + 1) _ _ _)
          generalize put3 w2 (w.heap.size + 1 + 1) (3) (0) (s ++ s') = X at B2 m2 ⊢
          obtain ⟨⟨⟨p0, -⟩, ⟨p1, -⟩⟩, p2, -⟩ := m2
          exact bodyPost_ret (v := .tuple #[.agg #[.int .i64 (3), .int .i64 (0), .string (s ++ s')], .int .i64 (0)]) (by simp [results, Tryd.results10, go_sem, p0, p1, p2]) rfl ⟨rfl, B2⟩
      have hob : (op == 3) = false := by simp [ho]
      rw [show textsS op s s' = cmpS op (cmpT s s') by unfold textsS; rw [if_neg ho]]
      rw [show cmpT s s' = ordOf (Op.bytesLess s.toList s'.toList) (s.toList == s'.toList) by unfold cmpT ordOf; cases Op.bytesLess s.toList s'.toList <;> simp]
      have cl := fun W : World => below_any s s' W z1 z2
      have c := fun W : World => rcompared_any op (Op.bytesLess s.toList s'.toList) (s.toList == s'.toList) W (fun h => by rw [beq_eq_false_iff_ne]; intro e; rw [e, less_irrefl] at h; cases h)
      generalize cmpS op (ordOf (Op.bytesLess s.toList s'.toList) (s.toList == s'.toList)) = r at c ⊢
      obtain ⟨K, N, S, T⟩ := r
      generalize Op.bytesLess s.toList s'.toList = bl at c cl
      have CL : Hid (∀ W : World, Calls Tryd.prog 32 #[.string s, .string s'] W fun e w' => e = .returned (.bool bl) ∧ Below W.heap.size W w') := cl
      have CC : Hid (∀ W : World, Calls Tryd.prog 31 #[.int .i64 op, .bool bl, .bool (s.toList == s'.toList)] W fun e w' => e = .returned (.tuple #[.agg #[.int .i64 K, .int .i64 N, .string S], .int .i64 T]) ∧ Below W.heap.size W w') := c
      clear c cl
      go_enter Tryd.func10, Tryd.ntmps10
      go_wp2_with fail
      refine (ca _).mono ?_
      rintro e w1 ⟨rfl, hbw1⟩
      have i1 := i0.next hbw1
      obtain ⟨⟨⟨a0, g0⟩, ⟨a1, g1⟩⟩, a2, g2⟩ := id i1.a
      obtain ⟨⟨⟨c0, k0⟩, ⟨c1, k1⟩⟩, c2, k2⟩ := id i1.b
      obtain ⟨⟨⟨q0, f0⟩, ⟨q1, f1⟩⟩, q2, f2⟩ := id i1.r
      go_wp2_with fail
      refine (cb _).mono ?_
      rintro e w2 ⟨rfl, hbw2⟩
      have i2 := i1.next hbw2
      clear a0 a1 a2 g0 g1 g2 c0 c1 c2 k0 k1 k2 q0 q1 q2 f0 f1 f2
      obtain ⟨⟨⟨a0, g0⟩, ⟨a1, g1⟩⟩, a2, g2⟩ := id i2.a
      obtain ⟨⟨⟨c0, k0⟩, ⟨c1, k1⟩⟩, c2, k2⟩ := id i2.b
      obtain ⟨⟨⟨q0, f0⟩, ⟨q1, f1⟩⟩, q2, f2⟩ := id i2.r
      go_wp2_with fail
      have I2 : Hid (Inv w w2 3 n s 3 n' s') := i2
      have SV : Hid (∀ w' : World, Below (w.heap.size + 1 + 1) w2 w' → w'.cell? ⟨w.heap.size, 2, none⟩ = some (.string s) ∧ w'.cell? ⟨w.heap.size + 1, 2, none⟩ = some (.string s') ∧ Below (w.heap.size + 1 + 1) w2 w') := fun w' hb => ⟨(hb.cell (p := ⟨w.heap.size, 2, none⟩) (by show w.heap.size < _; omega)).trans I2.out.a.2.1, (hb.cell (p := ⟨w.heap.size + 1, 2, none⟩) (by show w.heap.size + 1 < _; omega)).trans I2.out.b.2.1, hb⟩
      have hsz : w.heap.size + 1 + 1 ≤ w2.heap.size := Nat.le_of_lt i2.size
      have hcd : Below (w.heap.size + 1 + 1) w2 w2.drew := (Below.refl _ w2).drew
      have J0 : Inv w w2.drew 3 n s 3 n' s' := i2.next (Below.refl _ w2).drew
      clear i0 i1 hbw1 hbw2 ca cb q0 q1 q2 f0 f1 f2
      go_region_held3 (fun w' => w'.cell? ⟨w.heap.size, 2, none⟩ = some (.string s) ∧ w'.cell? ⟨w.heap.size + 1, 2, none⟩ = some (.string s') ∧ Below (w.heap.size + 1 + 1) w2 w') (exact SV.out _ (by first | assumption | exact below_put3 (by assumption) (by with_reducible exact Nat.le_refl _) _ _ _))
        (first
        | (go_at_call 32; refine (CL.out _).mono ?_; rintro e w3 ⟨rfl, hb3⟩; have J1 := J0.next hb3; have hcd1 : Below (w.heap.size + 1 + 1) w2 w3 := hcd.trans (hb3.mono hsz))
        | (go_at_call 31; refine (CC.out _).mono ?_; rintro e w4 ⟨rfl, hb4⟩; have J2 := J1.next hb4; have hcd2 : Below (w.heap.size + 1 + 1) w2 w4 := hcd1.trans (hb4.mono (Nat.le_trans hsz hcd1.size)); obtain ⟨⟨⟨q0, f0⟩, ⟨q1, f1⟩⟩, q2, f2⟩ := id J2.r))
      rename_i hH
      have hB2 := J2.below
      have B2 : Below w.heap.size w (put3 w4 (w.heap.size + 1 + 1) K N S) := below_put3 hB2 (by omega) _ _ _
      have m2 := J2.r.put K N S
      clear hH SV I2 J0 J1 J2 hcd hcd1 hcd2 hb3 hb4 q0 q1 q2 f0 f1 f2 i2
      change Exit.then _ _ Exit.normal _ (put3 w4 (w.heap.size + 1 + 1) K N S)
      generalize put3 w4 (w.heap.size + 1 + 1) K N S = X at B2 m2 ⊢
      obtain ⟨⟨⟨p0, -⟩, ⟨p1, -⟩⟩, p2, -⟩ := m2
      go_wp2
      exact bodyPost_ret (v := .tuple #[.agg #[.int .i64 K, .int .i64 N, .string S], .int .i64 T]) (by simp [results, Tryd.results10, go_sem, p0, p1, p2]) rfl ⟨rfl, B2⟩
    rw [if_neg h3]
    have hk24 : k = 2 ∨ k = 4 := by
      by_cases h2 : k = 2
      · exact .inl h2
      by_cases h4 : k = 4
      · exact .inr h4
      exfalso
      unfold okV at va
      rw [if_neg h0, if_neg h1, if_neg h2, if_neg h3, if_neg h4] at va
      cases va
    rw [if_pos hk24]
    have k1b : (k == 1) = false := by simp [h1]
    have k3b : (k == 3) = false := by simp [h3]
    by_cases h8 : op = 8
    · subst h8
      rw [show namesS 8 n n' = cmpS 8 (cmpI n n') from rfl, show cmpS 8 (cmpI n n') = cmpS 8 (ordOf false (n == n')) by unfold cmpI ordOf; by_cases e1 : n < n' <;> by_cases e2 : n = n' <;> simp [e1, e2, cmpS] <;> first | omega | rfl | skip]
      have c := fun W : World => rcompared_any 8 false (n == n') W (fun h => by cases h)
      generalize cmpS 8 (ordOf false (n == n')) = r at c ⊢
      obtain ⟨K, N, S, T⟩ := r
      go_enter Tryd.func10, Tryd.ntmps10
      go_wp2_with fail
      refine (ca _).mono ?_
      rintro e w1 ⟨rfl, hbw1⟩
      have i1 := i0.next hbw1
      obtain ⟨⟨⟨a0, g0⟩, ⟨a1, g1⟩⟩, a2, g2⟩ := id i1.a
      obtain ⟨⟨⟨c0, k0⟩, ⟨c1, k1⟩⟩, c2, k2⟩ := id i1.b
      obtain ⟨⟨⟨q0, f0⟩, ⟨q1, f1⟩⟩, q2, f2⟩ := id i1.r
      go_wp2_with fail
      refine (cb _).mono ?_
      rintro e w2 ⟨rfl, hbw2⟩
      have i2 := i1.next hbw2
      clear a0 a1 a2 g0 g1 g2 c0 c1 c2 k0 k1 k2 q0 q1 q2 f0 f1 f2
      obtain ⟨⟨⟨a0, g0⟩, ⟨a1, g1⟩⟩, a2, g2⟩ := id i2.a
      obtain ⟨⟨⟨c0, k0⟩, ⟨c1, k1⟩⟩, c2, k2⟩ := id i2.b
      obtain ⟨⟨⟨q0, f0⟩, ⟨q1, f1⟩⟩, q2, f2⟩ := id i2.r
      go_wp2_with fail
      refine (c _).mono ?_
      rintro e w3 ⟨rfl, hbw3⟩
      have i3 := i2.next hbw3
      clear a0 a1 a2 g0 g1 g2 c0 c1 c2 k0 k1 k2 q0 q1 q2 f0 f1 f2
      obtain ⟨⟨⟨a0, g0⟩, ⟨a1, g1⟩⟩, a2, g2⟩ := id i3.a
      obtain ⟨⟨⟨c0, k0⟩, ⟨c1, k1⟩⟩, c2, k2⟩ := id i3.b
      obtain ⟨⟨⟨q0, f0⟩, ⟨q1, f1⟩⟩, q2, f2⟩ := id i3.r
      have B2 : Below w.heap.size w (put3 w3 (w.heap.size + 1 + 1) (K) (N) (S)) := below_put3 i3.below (by omega) _ _ _
      have m2 := i3.r.put (K) (N) (S)
      go_wp2
      change bodyPost Tryd.prog _ _ _ _ (put3 w3 (w.heap.size + 1 + 1) _ _ _)
      generalize put3 w3 (w.heap.size + 1 + 1) (K) (N) (S) = X at B2 m2 ⊢
      obtain ⟨⟨⟨p0, -⟩, ⟨p1, -⟩⟩, p2, -⟩ := m2
      exact bodyPost_ret (v := .tuple #[.agg #[.int .i64 (K), .int .i64 (N), .string (S)], .int .i64 (T)]) (by simp [results, Tryd.results10, go_sem, p0, p1, p2]) rfl ⟨rfl, B2⟩
    by_cases h9 : op = 9
    · subst h9
      rw [show namesS 9 n n' = cmpS 9 (cmpI n n') from rfl, show cmpS 9 (cmpI n n') = cmpS 9 (ordOf false (n == n')) by unfold cmpI ordOf; by_cases e1 : n < n' <;> by_cases e2 : n = n' <;> simp [e1, e2, cmpS] <;> first | omega | rfl | skip]
      have c := fun W : World => rcompared_any 9 false (n == n') W (fun h => by cases h)
      generalize cmpS 9 (ordOf false (n == n')) = r at c ⊢
      obtain ⟨K, N, S, T⟩ := r
      go_enter Tryd.func10, Tryd.ntmps10
      go_wp2_with fail
      refine (ca _).mono ?_
      rintro e w1 ⟨rfl, hbw1⟩
      have i1 := i0.next hbw1
      obtain ⟨⟨⟨a0, g0⟩, ⟨a1, g1⟩⟩, a2, g2⟩ := id i1.a
      obtain ⟨⟨⟨c0, k0⟩, ⟨c1, k1⟩⟩, c2, k2⟩ := id i1.b
      obtain ⟨⟨⟨q0, f0⟩, ⟨q1, f1⟩⟩, q2, f2⟩ := id i1.r
      go_wp2_with fail
      refine (cb _).mono ?_
      rintro e w2 ⟨rfl, hbw2⟩
      have i2 := i1.next hbw2
      clear a0 a1 a2 g0 g1 g2 c0 c1 c2 k0 k1 k2 q0 q1 q2 f0 f1 f2
      obtain ⟨⟨⟨a0, g0⟩, ⟨a1, g1⟩⟩, a2, g2⟩ := id i2.a
      obtain ⟨⟨⟨c0, k0⟩, ⟨c1, k1⟩⟩, c2, k2⟩ := id i2.b
      obtain ⟨⟨⟨q0, f0⟩, ⟨q1, f1⟩⟩, q2, f2⟩ := id i2.r
      go_wp2_with fail
      refine (c _).mono ?_
      rintro e w3 ⟨rfl, hbw3⟩
      have i3 := i2.next hbw3
      clear a0 a1 a2 g0 g1 g2 c0 c1 c2 k0 k1 k2 q0 q1 q2 f0 f1 f2
      obtain ⟨⟨⟨a0, g0⟩, ⟨a1, g1⟩⟩, a2, g2⟩ := id i3.a
      obtain ⟨⟨⟨c0, k0⟩, ⟨c1, k1⟩⟩, c2, k2⟩ := id i3.b
      obtain ⟨⟨⟨q0, f0⟩, ⟨q1, f1⟩⟩, q2, f2⟩ := id i3.r
      have B2 : Below w.heap.size w (put3 w3 (w.heap.size + 1 + 1) (K) (N) (S)) := below_put3 i3.below (by omega) _ _ _
      have m2 := i3.r.put (K) (N) (S)
      go_wp2
      change bodyPost Tryd.prog _ _ _ _ (put3 w3 (w.heap.size + 1 + 1) _ _ _)
      generalize put3 w3 (w.heap.size + 1 + 1) (K) (N) (S) = X at B2 m2 ⊢
      obtain ⟨⟨⟨p0, -⟩, ⟨p1, -⟩⟩, p2, -⟩ := m2
      exact bodyPost_ret (v := .tuple #[.agg #[.int .i64 (K), .int .i64 (N), .string (S)], .int .i64 (T)]) (by simp [results, Tryd.results10, go_sem, p0, p1, p2]) rfl ⟨rfl, B2⟩
    rw [show namesS op n n' = stuckS by unfold namesS; rw [if_neg (by simp [h8, h9])]]
    have e8 : (op == 8) = false := by simp [h8]
    have e9 : (op == 9) = false := by simp [h9]
    go_enter Tryd.func10, Tryd.ntmps10
    go_wp2_with fail
    refine (ca _).mono ?_
    rintro e w1 ⟨rfl, hbw1⟩
    have i1 := i0.next hbw1
    obtain ⟨⟨⟨a0, g0⟩, ⟨a1, g1⟩⟩, a2, g2⟩ := id i1.a
    obtain ⟨⟨⟨c0, k0⟩, ⟨c1, k1⟩⟩, c2, k2⟩ := id i1.b
    obtain ⟨⟨⟨q0, f0⟩, ⟨q1, f1⟩⟩, q2, f2⟩ := id i1.r
    go_wp2_with fail
    refine (cb _).mono ?_
    rintro e w2 ⟨rfl, hbw2⟩
    have i2 := i1.next hbw2
    clear a0 a1 a2 g0 g1 g2 c0 c1 c2 k0 k1 k2 q0 q1 q2 f0 f1 f2
    obtain ⟨⟨⟨a0, g0⟩, ⟨a1, g1⟩⟩, a2, g2⟩ := id i2.a
    obtain ⟨⟨⟨c0, k0⟩, ⟨c1, k1⟩⟩, c2, k2⟩ := id i2.b
    obtain ⟨⟨⟨q0, f0⟩, ⟨q1, f1⟩⟩, q2, f2⟩ := id i2.r
    have B2 : Below w.heap.size w (put3 w2 (w.heap.size + 1 + 1) (0) (0) (e0)) := below_put3 i2.below (by omega) _ _ _
    have m2 := i2.r.put (0) (0) (e0)
    go_wp2
    change bodyPost Tryd.prog _ _ _ _ (put3 w2 (w.heap.size + 1 + 1) _ _ _)
    generalize put3 w2 (w.heap.size + 1 + 1) (0) (0) (e0) = X at B2 m2 ⊢
    obtain ⟨⟨⟨p0, -⟩, ⟨p1, -⟩⟩, p2, -⟩ := m2
    exact bodyPost_ret (v := .tuple #[.agg #[.int .i64 (0), .int .i64 (0), .string (e0)], .int .i64 (7)]) (by simp [results, Tryd.results10, go_sem, p0, p1, p2]) rfl ⟨rfl, B2⟩
  · rw [show binS op k n s k' n' s' = stuckS by unfold binS; rw [if_neg (fun h => hk h.2.1.symm)]]
    have hkb : (k == k') = false := by simp [hk]
    go_enter Tryd.func10, Tryd.ntmps10
    go_wp2
    refine bodyPost_ret (v := .tuple #[.agg #[.int .i64 0, .int .i64 0, .string e0], .int .i64 7]) (by simp [results, Tryd.results10, go_sem]) rfl ⟨rfl, ?_⟩
    exact i0.below
end Go.Proofs.YtfghajokmmlijaaDoor
