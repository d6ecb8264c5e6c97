import Derived.Test.YtfghajokmmlijaaDoorUn
import Derived.Test.YtfghajokmmlijaaDoorEInts
namespace Go.Proofs.YtfghajokmmlijaaDoor
open Go.RowKit

set_option maxRecDepth 100000 in
set_option maxHeartbeats 2000000 in
theorem runary_any (op k n : Int) (s : ByteArray) (w : World) (hs : s.size ≤ 9223372036854775807) :
    Calls Tryd.prog 12 #[.int .i64 op, .agg #[.int .i64 k, .int .i64 n, .string s]] w fun e w' => e = .returned (.tuple #[.agg #[.int .i64 (unS op k n s).1, .int .i64 (unS op k n s).2.1, .string (unS op k n s).2.2.1], .int .i64 (unS op k n s).2.2.2]) ∧ Below w.heap.size w w' := by
  have i0 := Inv2.new w k n s
  by_cases h1 : op = 1
  · subst h1
    have ci := fun W : World => operand_any k n s 1 W hs
    cases hi : isS k n s 1 with
    | false =>
      rw [hi] at ci
      rw [show unS 1 k n s = stuckS by unfold isS at hi; simp at hi; unfold unS; rw [if_neg (by intro h; rw [hi h.2.1] at h; exact absurd h.2.2 (by simp)), if_neg (by simp)]]
      go_enter Tryd.func12, Tryd.ntmps12
      go_wp2_with fail
      refine (ci _).mono ?_
      rintro e w1 ⟨rfl, hb⟩
      have i1 := i0.next hb
      obtain ⟨⟨⟨a0, g0⟩, ⟨a1, g1⟩⟩, a2, g2⟩ := id i1.a
      obtain ⟨⟨⟨q0, f0⟩, ⟨q1, f1⟩⟩, q2, f2⟩ := id i1.r
      have B2 : Below w.heap.size w (put3 w1 (w.heap.size + 1) (0) (0) (e0)) := below_put3 i1.below (by omega) _ _ _
      have m2 := i1.r.put (0) (0) (e0)
      go_wp2
      change bodyPost Tryd.prog _ _ _ _ (put3 w1 (w.heap.size + 1) _ _ _)
      generalize put3 w1 (w.heap.size + 1) (0) (0) (e0) = X at B2 m2 ⊢
      obtain ⟨⟨⟨p0, -⟩, ⟨p1, -⟩⟩, p2, -⟩ := m2
      exact bodyPost_ret (v := .tuple #[.agg #[.int .i64 (0), .int .i64 (0), .string (e0)], .int .i64 (7)]) (by simp [results, Tryd.results12, go_sem, p0, p1, p2]) rfl ⟨rfl, B2⟩
    | true =>
      rw [hi] at ci
      rw [show unS 1 k n s = (1, wrap64 (-n), e0, 0) by unfold isS at hi; simp at hi; unfold unS; rw [if_pos ⟨rfl, hi.1, hi.2⟩]; rfl]
      obtain ⟨un, hun, rn, vn⟩ := u_of n
      obtain ⟨mb, hmb⟩ : ∃ x, (-un) % 18446744073709551616 = x := ⟨_, rfl⟩
      have cm := fun W : World => minus_any un W rn
      rw [hmb] at cm
      obtain ⟨N, hN, hN2⟩ : ∃ N, wrap64 (-n) = N ∧ wrap64 mb = N := ⟨_, rfl, by rw [← hmb, vn]; exact wrap_eq (by omega)⟩
      rw [hN]
      clear hN hmb vn
      go_enter Tryd.func12, Tryd.ntmps12
      go_wp2_with fail
      refine (ci _).mono ?_
      rintro e w1 ⟨rfl, hb⟩
      have i1 := i0.next hb
      obtain ⟨⟨⟨a0, g0⟩, ⟨a1, g1⟩⟩, a2, g2⟩ := id i1.a
      obtain ⟨⟨⟨q0, f0⟩, ⟨q1, f1⟩⟩, q2, f2⟩ := id i1.r
      go_wp2_with fail
      refine (cm _).mono ?_
      rintro e _ ⟨rfl, rfl⟩
      go_wp2_with fail
      refine (of_any N _).mono ?_
      rintro e w2 ⟨rfl, hb2⟩
      have i2 := i1.next hb2
      clear a0 a1 a2 g0 g1 g2 q0 q1 q2 f0 f1 f2
      obtain ⟨⟨⟨a0, g0⟩, ⟨a1, g1⟩⟩, a2, g2⟩ := id i2.a
      obtain ⟨⟨⟨q0, f0⟩, ⟨q1, f1⟩⟩, q2, f2⟩ := id i2.r
      have B2 : Below w.heap.size w (put3 w2 (w.heap.size + 1) (1) (N) (e0)) := below_put3 i2.below (by omega) _ _ _
      have m2 := i2.r.put (1) (N) (e0)
      go_wp2
      change bodyPost Tryd.prog _ _ _ _ (put3 w2 (w.heap.size + 1) _ _ _)
      generalize put3 w2 (w.heap.size + 1) (1) (N) (e0) = X at B2 m2 ⊢
      obtain ⟨⟨⟨p0, -⟩, ⟨p1, -⟩⟩, p2, -⟩ := m2
      exact bodyPost_ret (v := .tuple #[.agg #[.int .i64 (1), .int .i64 (N), .string (e0)], .int .i64 (0)]) (by simp [results, Tryd.results12, go_sem, p0, p1, p2]) rfl ⟨rfl, B2⟩
  by_cases h2 : op = 2
  · subst h2
    have ci := fun W : World => operand_any k n s 2 W hs
    cases hi : isS k n s 2 with
    | false =>
      rw [hi] at ci
      rw [show unS 2 k n s = stuckS by unfold isS at hi; simp at hi; unfold unS; rw [if_neg (by simp), if_neg (by intro h; rw [hi h.2.1] at h; exact absurd h.2.2 (by simp))]]
      go_enter Tryd.func12, Tryd.ntmps12
      go_wp2_with fail
      refine (ci _).mono ?_
      rintro e w1 ⟨rfl, hb⟩
      have i1 := i0.next hb
      obtain ⟨⟨⟨a0, g0⟩, ⟨a1, g1⟩⟩, a2, g2⟩ := id i1.a
      obtain ⟨⟨⟨q0, f0⟩, ⟨q1, f1⟩⟩, q2, f2⟩ := id i1.r
      have B2 : Below w.heap.size w (put3 w1 (w.heap.size + 1) (0) (0) (e0)) := below_put3 i1.below (by omega) _ _ _
      have m2 := i1.r.put (0) (0) (e0)
      go_wp2
      change bodyPost Tryd.prog _ _ _ _ (put3 w1 (w.heap.size + 1) _ _ _)
      generalize put3 w1 (w.heap.size + 1) (0) (0) (e0) = X at B2 m2 ⊢
      obtain ⟨⟨⟨p0, -⟩, ⟨p1, -⟩⟩, p2, -⟩ := m2
      exact bodyPost_ret (v := .tuple #[.agg #[.int .i64 (0), .int .i64 (0), .string (e0)], .int .i64 (7)]) (by simp [results, Tryd.results12, go_sem, p0, p1, p2]) rfl ⟨rfl, B2⟩
    | true =>
      rw [hi] at ci
      rw [show unS 2 k n s = (2, bit (n == 0), e0, 0) by unfold isS at hi; simp at hi; unfold unS; rw [if_neg (by simp)]; rw [if_pos ⟨rfl, hi.1, hi.2⟩]; rfl]
      go_enter Tryd.func12, Tryd.ntmps12
      go_wp2_with fail
      refine (ci _).mono ?_
      rintro e w1 ⟨rfl, hb⟩
      have i1 := i0.next hb
      obtain ⟨⟨⟨a0, g0⟩, ⟨a1, g1⟩⟩, a2, g2⟩ := id i1.a
      obtain ⟨⟨⟨q0, f0⟩, ⟨q1, f1⟩⟩, q2, f2⟩ := id i1.r
      go_wp2_with fail
      refine (rtruth_any (n == 0) _).mono ?_
      rintro e w2 ⟨rfl, hb2⟩
      have i2 := i1.next hb2
      clear a0 a1 a2 g0 g1 g2 q0 q1 q2 f0 f1 f2
      obtain ⟨⟨⟨a0, g0⟩, ⟨a1, g1⟩⟩, a2, g2⟩ := id i2.a
      obtain ⟨⟨⟨q0, f0⟩, ⟨q1, f1⟩⟩, q2, f2⟩ := id i2.r
      have B2 : Below w.heap.size w (put3 w2 (w.heap.size + 1) (2) (bit (n == 0)) (e0)) := below_put3 i2.below (by omega) _ _ _
      have m2 := i2.r.put (2) (bit (n == 0)) (e0)
      go_wp2
      change bodyPost Tryd.prog _ _ _ _ (put3 w2 (w.heap.size + 1) _ _ _)
      generalize put3 w2 (w.heap.size + 1) (2) (bit (n == 0)) (e0) = X at B2 m2 ⊢
      obtain ⟨⟨⟨p0, -⟩, ⟨p1, -⟩⟩, p2, -⟩ := m2
      exact bodyPost_ret (v := .tuple #[.agg #[.int .i64 (2), .int .i64 (bit (n == 0)), .string (e0)], .int .i64 (0)]) (by simp [results, Tryd.results12, go_sem, p0, p1, p2]) rfl ⟨rfl, B2⟩
  rw [show unS op k n s = stuckS by unfold unS; rw [if_neg (by simp [h1]), if_neg (by simp [h2])]]
  go_enter Tryd.func12, Tryd.ntmps12
  go_wp2
  refine bodyPost_ret (v := .tuple #[.agg #[.int .i64 0, .int .i64 0, .string e0], .int .i64 7]) (by simp [results, Tryd.results12, go_sem]) rfl ⟨rfl, ?_⟩
  exact i0.below
end Go.Proofs.YtfghajokmmlijaaDoor
