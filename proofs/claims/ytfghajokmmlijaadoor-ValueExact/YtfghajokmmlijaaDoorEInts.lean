import Derived.Test.YtfghajokmmlijaaDoorEArith
import Derived.Test.YtfghajokmmlijaaDoorEBase
namespace Go.Proofs.YtfghajokmmlijaaDoor
open Go.RowKit

theorem u_of (a : Int) : ∃ x, IntKind.u64.wrap a = x ∧ (0 ≤ x ∧ x < 18446744073709551616) ∧ x = a % 18446744073709551616 := ⟨_, rfl, by rw [IntKind.wrap_u64]; omega, IntKind.wrap_u64 a⟩
theorem w_add (a b : Int) : wrap64 ((a % 18446744073709551616 + b % 18446744073709551616) % 18446744073709551616) = wrap64 (a + b) := wrap_eq (by omega)
theorem w_sub (a b : Int) : wrap64 ((a % 18446744073709551616 + (-(b % 18446744073709551616)) % 18446744073709551616) % 18446744073709551616) = wrap64 (a - b) := wrap_eq (by omega)
theorem w_mul (a b : Int) : wrap64 ((a % 18446744073709551616 * (b % 18446744073709551616)) % 18446744073709551616) = wrap64 (a * b) := wrap_eq (by rw [← Int.mul_emod]; omega)
theorem w_mod {a b q : Int} (hq : q = wrap64 (a.tdiv b)) (hr : -9223372036854775808 ≤ a.tmod b ∧ a.tmod b ≤ 9223372036854775807) :
    wrap64 ((a % 18446744073709551616 + (-((b % 18446744073709551616 * (q % 18446744073709551616)) % 18446744073709551616)) % 18446744073709551616) % 18446744073709551616) = a.tmod b := by
  have h1 : (b % 18446744073709551616 * (q % 18446744073709551616)) % 18446744073709551616 = (b * q) % 18446744073709551616 := by rw [← Int.mul_emod]
  have h2 : (b * q) % 18446744073709551616 = (b * a.tdiv b) % 18446744073709551616 := by rw [hq, Int.mul_emod, wrap_mod, ← Int.mul_emod]
  rw [h1, h2]
  have h3 := Int.mul_tdiv_add_tmod a b
  rw [← wrap_in hr]
  refine wrap_eq ?_
  generalize b * a.tdiv b = z at h3
  generalize a.tmod b = r at h3
  omega

set_option maxRecDepth 100000 in
set_option maxHeartbeats 2000000 in
theorem ints_any (op a b : Int) (w : World) (ha : -9223372036854775808 ≤ a ∧ a ≤ 9223372036854775807) (hb : -9223372036854775808 ≤ b ∧ b ≤ 9223372036854775807) : Calls Tryd.prog 30 #[.int .i64 op, .int .i64 a, .int .i64 b] w fun e w' => e = .returned (.tuple #[.agg #[.int .i64 (intsS op a b).1, .int .i64 (intsS op a b).2.1, .string (intsS op a b).2.2.1], .int .i64 (intsS op a b).2.2.2]) ∧ Below w.heap.size w w' := by
  have B1 : Below w.heap.size w (w.alloc (.cells #[.int .i64 0, .int .i64 0, .string e0] 25)) := (Below.refl _ w).alloc (Nat.le_refl _) _
  obtain ⟨ua, hua, ra, va⟩ := u_of a
  obtain ⟨ub, hub, rb, vb⟩ := u_of b
  have HA : Hid (ua = a % 18446744073709551616) := va
  have HB : Hid (ub = b % 18446744073709551616) := vb
  clear va vb
  by_cases h3 : op = 3
  · subst h3
    obtain ⟨N, hN, hN2⟩ : ∃ N, wrap64 (a + b) = N ∧ wrap64 ((ua + ub) % 18446744073709551616) = N := ⟨_, rfl, by rw [HA.out, HB.out]; exact w_add a b⟩
    rw [show intsS 3 a b = (1, wrap64 (a + b), e0, 0) from rfl, hN]
    clear hN
    go_enter Tryd.func30, Tryd.ntmps30
    go_wp2_with fail
    refine (plus_any ua ub _ ra rb).mono ?_
    rintro e _ ⟨rfl, rfl⟩
    go_wp2_with fail
    refine (of_any (N) _).mono ?_
    rintro e w1 ⟨rfl, hb1⟩
    have m1 := (Box3.new w 0 0 e0 25).below hb1 (by simp)
    obtain ⟨⟨⟨q0, f0⟩, ⟨q1, f1⟩⟩, q2, f2⟩ := id m1
    have hB : Below w.heap.size w w1 := B1.trans (hb1.mono B1.size)
    have B2 : Below w.heap.size w (put3 w1 w.heap.size 1 (N) e0) := below_put3 hB (by omega) _ _ _
    have m2 := m1.put 1 (N) e0
    go_wp2
    change bodyPost Tryd.prog _ _ _ _ (put3 w1 (w.heap.size) _ _ _)
    generalize put3 w1 (w.heap.size) 1 (N) e0 = X at B2 m2 ⊢
    obtain ⟨⟨⟨p0, -⟩, ⟨p1, -⟩⟩, p2, -⟩ := m2
    exact bodyPost_ret (v := .tuple #[.agg #[.int .i64 1, .int .i64 (N), .string e0], .int .i64 0]) (by simp [results, Tryd.results30, go_sem, p0, p1, p2]) rfl ⟨rfl, B2⟩
  by_cases h4 : op = 4
  · subst h4
    obtain ⟨mb, hmb⟩ : ∃ x, (-ub) % 18446744073709551616 = x := ⟨_, rfl⟩
    have cm := fun W : World => minus_any ub W rb
    rw [hmb] at cm
    have rm : 0 ≤ mb ∧ mb < 18446744073709551616 := by omega
    obtain ⟨N, hN, hN2⟩ : ∃ N, wrap64 (a - b) = N ∧ wrap64 ((ua + mb) % 18446744073709551616) = N := ⟨_, rfl, by rw [← hmb, HA.out, HB.out]; exact w_sub a b⟩
    clear hmb
    rw [show intsS 4 a b = (1, wrap64 (a - b), e0, 0) from rfl, hN]
    clear hN
    go_enter Tryd.func30, Tryd.ntmps30
    go_wp2_with fail
    refine (cm _).mono ?_
    rintro e _ ⟨rfl, rfl⟩
    go_wp2_with fail
    refine (plus_any ua mb _ ra rm).mono ?_
    rintro e _ ⟨rfl, rfl⟩
    go_wp2_with fail
    refine (of_any (N) _).mono ?_
    rintro e w1 ⟨rfl, hb1⟩
    have m1 := (Box3.new w 0 0 e0 25).below hb1 (by simp)
    obtain ⟨⟨⟨q0, f0⟩, ⟨q1, f1⟩⟩, q2, f2⟩ := id m1
    have hB : Below w.heap.size w w1 := B1.trans (hb1.mono B1.size)
    have B2 : Below w.heap.size w (put3 w1 w.heap.size 1 (N) e0) := below_put3 hB (by omega) _ _ _
    have m2 := m1.put 1 (N) e0
    go_wp2
    change bodyPost Tryd.prog _ _ _ _ (put3 w1 (w.heap.size) _ _ _)
    generalize put3 w1 (w.heap.size) 1 (N) e0 = X at B2 m2 ⊢
    obtain ⟨⟨⟨p0, -⟩, ⟨p1, -⟩⟩, p2, -⟩ := m2
    exact bodyPost_ret (v := .tuple #[.agg #[.int .i64 1, .int .i64 (N), .string e0], .int .i64 0]) (by simp [results, Tryd.results30, go_sem, p0, p1, p2]) rfl ⟨rfl, B2⟩
  by_cases h5 : op = 5
  · subst h5
    obtain ⟨N, hN, hN2⟩ : ∃ N, wrap64 (a * b) = N ∧ wrap64 ((ua * ub) % 18446744073709551616) = N := ⟨_, rfl, by rw [HA.out, HB.out]; exact w_mul a b⟩
    rw [show intsS 5 a b = (1, wrap64 (a * b), e0, 0) from rfl, hN]
    clear hN
    go_enter Tryd.func30, Tryd.ntmps30
    go_wp2_with fail
    refine (times_any ua ub _ ra rb).mono ?_
    rintro e _ ⟨rfl, rfl⟩
    go_wp2_with fail
    refine (of_any (N) _).mono ?_
    rintro e w1 ⟨rfl, hb1⟩
    have m1 := (Box3.new w 0 0 e0 25).below hb1 (by simp)
    obtain ⟨⟨⟨q0, f0⟩, ⟨q1, f1⟩⟩, q2, f2⟩ := id m1
    have hB : Below w.heap.size w w1 := B1.trans (hb1.mono B1.size)
    have B2 : Below w.heap.size w (put3 w1 w.heap.size 1 (N) e0) := below_put3 hB (by omega) _ _ _
    have m2 := m1.put 1 (N) e0
    go_wp2
    change bodyPost Tryd.prog _ _ _ _ (put3 w1 (w.heap.size) _ _ _)
    generalize put3 w1 (w.heap.size) 1 (N) e0 = X at B2 m2 ⊢
    obtain ⟨⟨⟨p0, -⟩, ⟨p1, -⟩⟩, p2, -⟩ := m2
    exact bodyPost_ret (v := .tuple #[.agg #[.int .i64 1, .int .i64 (N), .string e0], .int .i64 0]) (by simp [results, Tryd.results30, go_sem, p0, p1, p2]) rfl ⟨rfl, B2⟩
  by_cases h67 : op = 6 ∨ op = 7
  · by_cases z : b = 0
    · subst z
      rcases h67 with rfl | rfl
      · rw [show intsS 6 a 0 = (0, 0, e0, 1) from rfl]
        go_enter Tryd.func30, Tryd.ntmps30
        go_wp2
        exact bodyPost_ret (v := .tuple #[.agg #[.int .i64 0, .int .i64 0, .string e0], .int .i64 1]) (by simp [results, Tryd.results30, go_sem]) rfl ⟨rfl, B1⟩
      · rw [show intsS 7 a 0 = (0, 0, e0, 1) from rfl]
        go_enter Tryd.func30, Tryd.ntmps30
        go_wp2
        exact bodyPost_ret (v := .tuple #[.agg #[.int .i64 0, .int .i64 0, .string e0], .int .i64 1]) (by simp [results, Tryd.results30, go_sem]) rfl ⟨rfl, B1⟩
    have zb : (b == 0) = false := by simp [z]
    have cq := fun W : World => quotient_any a b W ha hb z
    obtain ⟨q, hq⟩ : ∃ q, wrap64 (a.tdiv b) = q := ⟨_, rfl⟩
    rw [hq] at cq
    rcases h67 with rfl | rfl
    · rw [show intsS 6 a b = (1, q, e0, 0) by unfold intsS; simp [z, numS, hq]]
      clear hq
      go_enter Tryd.func30, Tryd.ntmps30
      go_wp2_with fail
      refine (cq _).mono ?_
      rintro e _ ⟨rfl, rfl⟩
      go_wp2_with fail
      refine (of_any (q) _).mono ?_
      rintro e w1 ⟨rfl, hb1⟩
      have m1 := (Box3.new w 0 0 e0 25).below hb1 (by simp)
      obtain ⟨⟨⟨q0, f0⟩, ⟨q1, f1⟩⟩, q2, f2⟩ := id m1
      have hB : Below w.heap.size w w1 := B1.trans (hb1.mono B1.size)
      have B2 : Below w.heap.size w (put3 w1 w.heap.size 1 (q) e0) := below_put3 hB (by omega) _ _ _
      have m2 := m1.put 1 (q) e0
      go_wp2
      change bodyPost Tryd.prog _ _ _ _ (put3 w1 (w.heap.size) _ _ _)
      generalize put3 w1 (w.heap.size) 1 (q) e0 = X at B2 m2 ⊢
      obtain ⟨⟨⟨p0, -⟩, ⟨p1, -⟩⟩, p2, -⟩ := m2
      exact bodyPost_ret (v := .tuple #[.agg #[.int .i64 1, .int .i64 (q), .string e0], .int .i64 0]) (by simp [results, Tryd.results30, go_sem, p0, p1, p2]) rfl ⟨rfl, B2⟩
    · obtain ⟨uq, huq, rq, vq⟩ := u_of q
      have hr : -9223372036854775808 ≤ a.tmod b ∧ a.tmod b ≤ 9223372036854775807 := by
        have h1 : (a.tmod b).natAbs ≤ a.natAbs := by rw [Int.natAbs_tmod]; exact Nat.mod_le _ _
        have h2 : (a.tmod b).natAbs < b.natAbs := by rw [Int.natAbs_tmod]; exact Nat.mod_lt _ (by omega)
        omega
      obtain ⟨pq, hpq⟩ : ∃ x, (ub * uq) % 18446744073709551616 = x := ⟨_, rfl⟩
      have ct := fun W : World => times_any ub uq W rb rq
      rw [hpq] at ct
      have rp : 0 ≤ pq ∧ pq < 18446744073709551616 := by rw [← hpq]; exact ⟨Int.emod_nonneg _ (by decide), Int.emod_lt_of_pos _ (by decide)⟩
      obtain ⟨mb, hmb⟩ : ∃ x, (-pq) % 18446744073709551616 = x := ⟨_, rfl⟩
      have cm := fun W : World => minus_any pq W rp
      rw [hmb] at cm
      have rm : 0 ≤ mb ∧ mb < 18446744073709551616 := by omega
      obtain ⟨N, hN, hN2⟩ : ∃ N, a.tmod b = N ∧ wrap64 ((ua + mb) % 18446744073709551616) = N := ⟨_, rfl, by rw [← hmb, ← hpq, HA.out, HB.out, vq]; exact w_mod hq.symm hr⟩
      rw [show intsS 7 a b = (1, a.tmod b, e0, 0) by unfold intsS; simp [z, numS], hN]
      clear hN hr hq vq hmb hpq
      go_enter Tryd.func30, Tryd.ntmps30
      go_wp2_with fail
      refine (cq _).mono ?_
      rintro e _ ⟨rfl, rfl⟩
      go_wp2_with fail
      refine (ct _).mono ?_
      rintro e _ ⟨rfl, rfl⟩
      go_wp2_with fail
      refine (cm _).mono ?_
      rintro e _ ⟨rfl, rfl⟩
      go_wp2_with fail
      refine (plus_any ua mb _ ra rm).mono ?_
      rintro e _ ⟨rfl, rfl⟩
      go_wp2_with fail
      refine (of_any (N) _).mono ?_
      rintro e w1 ⟨rfl, hb1⟩
      have m1 := (Box3.new w 0 0 e0 25).below hb1 (by simp)
      obtain ⟨⟨⟨q0, f0⟩, ⟨q1, f1⟩⟩, q2, f2⟩ := id m1
      have hB : Below w.heap.size w w1 := B1.trans (hb1.mono B1.size)
      have B2 : Below w.heap.size w (put3 w1 w.heap.size 1 (N) e0) := below_put3 hB (by omega) _ _ _
      have m2 := m1.put 1 (N) e0
      go_wp2
      change bodyPost Tryd.prog _ _ _ _ (put3 w1 (w.heap.size) _ _ _)
      generalize put3 w1 (w.heap.size) 1 (N) e0 = X at B2 m2 ⊢
      obtain ⟨⟨⟨p0, -⟩, ⟨p1, -⟩⟩, p2, -⟩ := m2
      exact bodyPost_ret (v := .tuple #[.agg #[.int .i64 1, .int .i64 (N), .string e0], .int .i64 0]) (by simp [results, Tryd.results30, go_sem, p0, p1, p2]) rfl ⟨rfl, B2⟩
  have h6 : ¬ op = 6 := fun e => h67 (Or.inl e)
  have h7 : ¬ op = 7 := fun e => h67 (Or.inr e)
  clear h67
  rw [show intsS op a b = cmpS op (cmpI a b) by unfold intsS; rw [if_neg h3, if_neg h4, if_neg h5, if_neg h6, if_neg h7]]
  rw [show cmpI a b = ordOf (decide (a < b)) (a == b) by unfold cmpI ordOf; by_cases h1 : a < b <;> by_cases h2 : a = b <;> simp [h1, h2]]
  have c := fun W : World => rcompared_any op (decide (a < b)) (a == b) W (fun h => by simp at h; simp; omega)
  generalize cmpS op (ordOf (decide (a < b)) (a == b)) = r at c ⊢
  obtain ⟨K, N, S, T⟩ := r
  go_enter Tryd.func30, Tryd.ntmps30
  go_wp2_with fail
  refine (c _).mono ?_
  rintro e w1 ⟨rfl, hb1⟩
  have m1 := (Box3.new w 0 0 e0 25).below hb1 (by simp)
  obtain ⟨⟨⟨q0, f0⟩, ⟨q1, f1⟩⟩, q2, f2⟩ := id m1
  have hB : Below w.heap.size w w1 := B1.trans (hb1.mono B1.size)
  have B2 : Below w.heap.size w (put3 w1 w.heap.size K N S) := below_put3 hB (by omega) _ _ _
  have m2 := m1.put K N S
  go_wp2
  change bodyPost Tryd.prog _ _ _ _ (put3 w1 (w.heap.size) _ _ _)
  generalize put3 w1 (w.heap.size) K N S = X at B2 m2 ⊢
  obtain ⟨⟨⟨p0, -⟩, ⟨p1, -⟩⟩, p2, -⟩ := m2
  exact bodyPost_ret (v := .tuple #[.agg #[.int .i64 K, .int .i64 N, .string S], .int .i64 T]) (by simp [results, Tryd.results30, go_sem, p0, p1, p2]) rfl ⟨rfl, B2⟩
end Go.Proofs.YtfghajokmmlijaaDoor
