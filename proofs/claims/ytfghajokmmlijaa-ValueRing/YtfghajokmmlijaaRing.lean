import Derived.Test.YtfghajokmmlijaaWith
import Derived.Test.YtfghajokmmlijaaUn
namespace Go.Proofs.Ytfghajokmmlijaa
open Go.RowKit

set_option maxHeartbeats 400000 in
theorem near_yes (r b : Int) (w : World) (hr : -9223372036854775808 < r ∧ r ≤ 9223372036854775807) (hb : -9223372036854775808 ≤ b ∧ b ≤ 9223372036854775807) (h : r.natAbs < b.natAbs) :
    Calls Try.prog 19 #[.int .i64 r, .int .i64 b] w fun e w' => e = .returned (.bool true) ∧ w' = w := by
  by_cases r0 : 0 < r
  · by_cases b0 : 0 < b
    · have h1 : -b < -r := by omega
      go_enter Try.func19, Try.ntmps19
      go_wp2
      go_ret
      exact ⟨by simp, rfl⟩
    · have h1 : b < -r := by omega
      go_enter Try.func19, Try.ntmps19
      go_wp2
      go_ret
      exact ⟨by simp, rfl⟩
  · by_cases b0 : 0 < b
    · have h1 : -b < r := by omega
      go_enter Try.func19, Try.ntmps19
      go_wp2
      go_ret
      exact ⟨by simp, rfl⟩
    · have h1 : b < r := by omega
      go_enter Try.func19, Try.ntmps19
      go_wp2
      go_ret
      exact ⟨by simp, rfl⟩

/-- Three ints in memory. -/
def TriAt (W : World) (B : Nat) (x y z : Int) : Prop := W.cell? ⟨B, 0, none⟩ = some (.int .i64 x) ∧ W.cell? ⟨B, 1, none⟩ = some (.int .i64 y) ∧ W.cell? ⟨B, 2, none⟩ = some (.int .i64 z)
theorem TriAt.new (W : World) (x y z : Int) (t : TypeId) : TriAt (W.alloc (.cells #[.int .i64 x, .int .i64 y, .int .i64 z] t)) W.heap.size x y z := by
  have h := World.alloc_heap_new W (.cells #[.int .i64 x, .int .i64 y, .int .i64 z] t)
  refine ⟨?_, ?_, ?_⟩
  all_goals (unfold World.cell?; rw [h]; rfl)
theorem TriAt.below {W W' : World} {B D : Nat} {x y z : Int} (h : TriAt W B x y z) (hb : Below D W W') (hB : B < D) : TriAt W' B x y z :=
  ⟨(hb.cell (p := ⟨B, 0, none⟩) hB).trans h.1, (hb.cell (p := ⟨B, 1, none⟩) hB).trans h.2.1, (hb.cell (p := ⟨B, 2, none⟩) hB).trans h.2.2⟩
theorem TriAt.alloc {W : World} {B : Nat} {x y z : Int} (h : TriAt W B x y z) (o : Obj) : TriAt (W.alloc o) B x y z := ⟨cell_alloc_l o h.1, cell_alloc_l o h.2.1, cell_alloc_l o h.2.2⟩

theorem lt_put3 {W : World} {a B : Nat} {k n : Int} {s : ByteArray} (h : a < W.heap.size) : a < (put3 W B k n s).heap.size := by unfold put3; simpa using h
theorem ring_add (a b : Int) : intsS 3 a b = (1, wrap64 (a + b), e0, 0) := rfl
theorem ring_sub (a b : Int) : intsS 4 a b = (1, wrap64 (a - b), e0, 0) := rfl
theorem ring_mul (a b : Int) : intsS 5 a b = (1, wrap64 (a * b), e0, 0) := rfl
theorem ring_div {a b : Int} (h : b ≠ 0) : intsS 6 a b = (1, wrap64 (a.tdiv b), e0, 0) := by unfold intsS; simp [h, numS]
theorem ring_mod {a b : Int} (h : b ≠ 0) : intsS 7 a b = (1, a.tmod b, e0, 0) := by unfold intsS; simp [h, numS]
theorem doN (op a b n : Int) (h : intsS op a b = (1, n, e0, 0)) (w : World) : Calls Try.prog 16 #[.int .i64 op, .int .i64 a, .int .i64 b] w fun e w' => e = .returned (.agg #[.int .i64 1, .int .i64 n, .string e0]) ∧ Below w.heap.size w w' := by
  have := do_any op a b w
  rw [h] at this
  exact this
theorem withN (op a b n : Int) (h : intsS op a b = (1, n, e0, 0)) (w : World) : Calls Try.prog 17 #[.int .i64 op, .agg #[.int .i64 1, .int .i64 a, .string e0], .int .i64 b] w fun e w' => e = .returned (.agg #[.int .i64 1, .int .i64 n, .string e0]) ∧ Below w.heap.size w w' := by
  have := with_any op a b w
  rw [h] at this
  exact this
theorem bothN (op a b n : Int) (h : intsS op a b = (1, n, e0, 0)) (w : World) : Calls Try.prog 18 #[.int .i64 op, .agg #[.int .i64 1, .int .i64 a, .string e0], .agg #[.int .i64 1, .int .i64 b, .string e0]] w fun e w' => e = .returned (.agg #[.int .i64 1, .int .i64 n, .string e0]) ∧ Below w.heap.size w w' := by
  have := both_any op 1 a e0 1 b e0 w (by decide) (by decide)
  rw [binInt, h] at this
  exact this
theorem binN (op a b : Int) (w : World) : Calls Try.prog 9 #[.int .i64 op, .agg #[.int .i64 1, .int .i64 a, .string e0], .agg #[.int .i64 1, .int .i64 b, .string e0]] w fun e w' => e = .returned (.tuple #[.agg #[.int .i64 (intsS op a b).1, .int .i64 (intsS op a b).2.1, .string (intsS op a b).2.2.1], .int .i64 (intsS op a b).2.2.2]) ∧ Below w.heap.size w w' := by
  have := binary_any op 1 a e0 1 b e0 w (by decide) (by decide)
  rw [binInt] at this
  exact this
theorem num1 {n m : Int} (h : n = m) : ((1, n, e0, 0) : VT) = (1, m, e0, 0) := by rw [h]

set_option maxRecDepth 100000 in
set_option maxHeartbeats 4000000 in
theorem ring_any (a b c : Int) (w : World) (ha : -9223372036854775808 ≤ a ∧ a ≤ 9223372036854775807) (hb0 : -9223372036854775808 ≤ b ∧ b ≤ 9223372036854775807) :
    Calls Try.prog 5 #[.agg #[.int .i64 a, .int .i64 b, .int .i64 c]] w fun e w' => e = .returned (.bool true) ∧ Below w.heap.size w w' := by
  obtain ⟨ab, hab⟩ : ∃ x, wrap64 (a + b) = x := ⟨_, rfl⟩
  obtain ⟨bc, hbc⟩ : ∃ x, wrap64 (b + c) = x := ⟨_, rfl⟩
  obtain ⟨pab, hpab⟩ : ∃ x, wrap64 (a * b) = x := ⟨_, rfl⟩
  obtain ⟨pbc, hpbc⟩ : ∃ x, wrap64 (b * c) = x := ⟨_, rfl⟩
  obtain ⟨pac, hpac⟩ : ∃ x, wrap64 (a * c) = x := ⟨_, rfl⟩
  obtain ⟨vs, hs3⟩ : ∃ x, wrap64 (a + b + c) = x := ⟨_, rfl⟩
  obtain ⟨vp, hp3⟩ : ∃ x, wrap64 (a * b * c) = x := ⟨_, rfl⟩
  obtain ⟨vd, hd3⟩ : ∃ x, wrap64 (a * b + a * c) = x := ⟨_, rfl⟩
  obtain ⟨ng, hng⟩ : ∃ x, wrap64 (-b) = x := ⟨_, rfl⟩
  obtain ⟨sb, hsb⟩ : ∃ x, wrap64 (a - b) = x := ⟨_, rfl⟩
  have e1 : intsS 3 a b = (1, ab, e0, 0) := (ring_add a b).trans (num1 hab)
  have He1 : Hid (intsS 3 a b = (1, ab, e0, 0)) := e1
  clear e1
  have e2 : intsS 3 b a = (1, ab, e0, 0) := (ring_add b a).trans (num1 (by rw [Int.add_comm]; exact hab))
  have He2 : Hid (intsS 3 b a = (1, ab, e0, 0)) := e2
  clear e2
  have e3 : intsS 5 a b = (1, pab, e0, 0) := (ring_mul a b).trans (num1 hpab)
  have He3 : Hid (intsS 5 a b = (1, pab, e0, 0)) := e3
  clear e3
  have e4 : intsS 5 b a = (1, pab, e0, 0) := (ring_mul b a).trans (num1 (by rw [Int.mul_comm]; exact hpab))
  have He4 : Hid (intsS 5 b a = (1, pab, e0, 0)) := e4
  clear e4
  have e5 : intsS 3 a 0 = (1, a, e0, 0) := (ring_add a 0).trans (num1 (by rw [Int.add_zero]; exact wrap_in ha))
  have He5 : Hid (intsS 3 a 0 = (1, a, e0, 0)) := e5
  clear e5
  have e6 : intsS 5 a 1 = (1, a, e0, 0) := (ring_mul a 1).trans (num1 (by rw [Int.mul_one]; exact wrap_in ha))
  have He6 : Hid (intsS 5 a 1 = (1, a, e0, 0)) := e6
  clear e6
  have e7 : intsS 3 ab c = (1, vs, e0, 0) := (ring_add ab c).trans (num1 (by rw [← hab, wrap_add_l]; exact hs3))
  have He7 : Hid (intsS 3 ab c = (1, vs, e0, 0)) := e7
  clear e7
  have e8 : intsS 3 b c = (1, bc, e0, 0) := (ring_add b c).trans (num1 hbc)
  have He8 : Hid (intsS 3 b c = (1, bc, e0, 0)) := e8
  clear e8
  have e9 : intsS 3 a bc = (1, vs, e0, 0) := (ring_add a bc).trans (num1 (by rw [← hbc, wrap_add_r, ← Int.add_assoc]; exact hs3))
  have He9 : Hid (intsS 3 a bc = (1, vs, e0, 0)) := e9
  clear e9
  have e10 : intsS 5 pab c = (1, vp, e0, 0) := (ring_mul pab c).trans (num1 (by rw [← hpab, wrap_mul_l]; exact hp3))
  have He10 : Hid (intsS 5 pab c = (1, vp, e0, 0)) := e10
  clear e10
  have e11 : intsS 5 b c = (1, pbc, e0, 0) := (ring_mul b c).trans (num1 hpbc)
  have He11 : Hid (intsS 5 b c = (1, pbc, e0, 0)) := e11
  clear e11
  have e12 : intsS 5 a pbc = (1, vp, e0, 0) := (ring_mul a pbc).trans (num1 (by rw [← hpbc, wrap_mul_r, ← Int.mul_assoc]; exact hp3))
  have He12 : Hid (intsS 5 a pbc = (1, vp, e0, 0)) := e12
  clear e12
  have e13 : intsS 5 a bc = (1, vd, e0, 0) := (ring_mul a bc).trans (num1 (by rw [← hbc, wrap_mul_r, Int.mul_add]; exact hd3))
  have He13 : Hid (intsS 5 a bc = (1, vd, e0, 0)) := e13
  clear e13
  have e14 : intsS 5 a c = (1, pac, e0, 0) := (ring_mul a c).trans (num1 hpac)
  have He14 : Hid (intsS 5 a c = (1, pac, e0, 0)) := e14
  clear e14
  have e15 : intsS 3 pab pac = (1, vd, e0, 0) := (ring_add pab pac).trans (num1 (by rw [← hpab, ← hpac, wrap_add_l, wrap_add_r]; exact hd3))
  have He15 : Hid (intsS 3 pab pac = (1, vd, e0, 0)) := e15
  clear e15
  have e16 : intsS 3 a ng = (1, sb, e0, 0) := (ring_add a ng).trans (num1 (by rw [← hng, wrap_add_r, ← Int.sub_eq_add_neg]; exact hsb))
  have He16 : Hid (intsS 3 a ng = (1, sb, e0, 0)) := e16
  clear e16
  have e17 : intsS 4 a b = (1, sb, e0, 0) := (ring_sub a b).trans (num1 hsb)
  have He17 : Hid (intsS 4 a b = (1, sb, e0, 0)) := e17
  clear e17
  have e18 : intsS 3 b ng = (1, 0, e0, 0) := (ring_add b ng).trans (num1 (by rw [← hng, wrap_add_r, Int.add_right_neg]; exact wrap_in (by omega)))
  have He18 : Hid (intsS 3 b ng = (1, 0, e0, 0)) := e18
  clear e18
  have cu : ∀ W : World, Calls Try.prog 13 #[.int .i64 1, .agg #[.int .i64 1, .int .i64 b, .string e0]] W fun e w' => e = .returned (.tuple #[.agg #[.int .i64 1, .int .i64 ng, .string e0], .int .i64 0]) ∧ Below W.heap.size W w' := fun W => by
    have h := unary_any 1 1 b e0 W (by decide)
    rw [show unS 1 1 b e0 = (1, ng, e0, 0) by unfold unS; rw [if_pos ⟨rfl, rfl, okInt b⟩]; exact num1 hng] at h
    exact h
  have HU : Hid (∀ W : World, Calls Try.prog 13 #[.int .i64 1, .agg #[.int .i64 1, .int .i64 b, .string e0]] W fun e w' => e = .returned (.tuple #[.agg #[.int .i64 1, .int .i64 ng, .string e0], .int .i64 0]) ∧ Below W.heap.size W w') := cu
  have HR : Hid (-9223372036854775808 ≤ a ∧ a ≤ 9223372036854775807) := ha
  have HR2 : Hid (-9223372036854775808 ≤ b ∧ b ≤ 9223372036854775807) := hb0
  clear cu hab hbc hpab hpbc hpac hs3 hp3 hd3 hng hsb ha hb0
  have m := TriAt.new w a b c 41
  have B : Below w.heap.size w (w.alloc (.cells #[.int .i64 a, .int .i64 b, .int .i64 c] 41)) := (Below.refl _ w).alloc (Nat.le_refl _) _
  have l : w.heap.size < (w.alloc (.cells #[.int .i64 a, .int .i64 b, .int .i64 c] 41)).heap.size := by simp
  have nab := neSame 1 ab e0
  have npab := neSame 1 pab e0
  have na := neSame 1 a e0
  have nvs := neSame 1 vs e0
  have nvp := neSame 1 vp e0
  have nvd := neSame 1 vd e0
  have nsb := neSame 1 sb e0
  have n0 := neSame 1 0 e0
  go_enter Try.func5, Try.ntmps5
  go_wp2_with fail
  refine (works_any _).mono ?_
  rintro e X1 ⟨rfl, hb⟩
  replace m := m.below hb l
  replace l := Nat.lt_of_lt_of_le l hb.size
  replace B := B.trans (hb.mono B.size)
  clear hb
  go_wp2_with fail
  have y0 := cell_regrown m.1
  have y1 := cell_regrown m.2.1
  have y2 := cell_regrown m.2.2
  have d1 : ∀ d os, Calls Try.prog 16 #[.int .i64 3, .int .i64 a, .int .i64 b] (Sort.grow (redrawn X1 d) os) fun e w'' => e = .returned (.agg #[.int .i64 1, .int .i64 ab, .string e0]) ∧ ∃ p : Regrown, w'' = Sort.grow (redrawn X1 p.d) p.os := fun d os => Calls.regrown_of (doN 3 a b ab He1.out _)
  have d2 : ∀ d os, Calls Try.prog 16 #[.int .i64 3, .int .i64 b, .int .i64 a] (Sort.grow (redrawn X1 d) os) fun e w'' => e = .returned (.agg #[.int .i64 1, .int .i64 ab, .string e0]) ∧ ∃ p : Regrown, w'' = Sort.grow (redrawn X1 p.d) p.os := fun d os => Calls.regrown_of (doN 3 b a ab He2.out _)
  have d3 : ∀ d os, Calls Try.prog 16 #[.int .i64 5, .int .i64 a, .int .i64 b] (Sort.grow (redrawn X1 d) os) fun e w'' => e = .returned (.agg #[.int .i64 1, .int .i64 pab, .string e0]) ∧ ∃ p : Regrown, w'' = Sort.grow (redrawn X1 p.d) p.os := fun d os => Calls.regrown_of (doN 5 a b pab He3.out _)
  have d4 : ∀ d os, Calls Try.prog 16 #[.int .i64 5, .int .i64 b, .int .i64 a] (Sort.grow (redrawn X1 d) os) fun e w'' => e = .returned (.agg #[.int .i64 1, .int .i64 pab, .string e0]) ∧ ∃ p : Regrown, w'' = Sort.grow (redrawn X1 p.d) p.os := fun d os => Calls.regrown_of (doN 5 b a pab He4.out _)
  have d5 : ∀ d os, Calls Try.prog 16 #[.int .i64 3, .int .i64 a, .int .i64 0] (Sort.grow (redrawn X1 d) os) fun e w'' => e = .returned (.agg #[.int .i64 1, .int .i64 a, .string e0]) ∧ ∃ p : Regrown, w'' = Sort.grow (redrawn X1 p.d) p.os := fun d os => Calls.regrown_of (doN 3 a 0 a He5.out _)
  have d6 : ∀ d os, Calls Try.prog 12 #[.int .i64 a] (Sort.grow (redrawn X1 d) os) fun e w'' => e = .returned (.agg #[.int .i64 1, .int .i64 a, .string e0]) ∧ ∃ p : Regrown, w'' = Sort.grow (redrawn X1 p.d) p.os := fun d os => Calls.regrown_of (num_any a _)
  have d7 : ∀ d os, Calls Try.prog 16 #[.int .i64 5, .int .i64 a, .int .i64 1] (Sort.grow (redrawn X1 d) os) fun e w'' => e = .returned (.agg #[.int .i64 1, .int .i64 a, .string e0]) ∧ ∃ p : Regrown, w'' = Sort.grow (redrawn X1 p.d) p.os := fun d os => Calls.regrown_of (doN 5 a 1 a He6.out _)
  refine wp_region_quiet_below (by kernel_rfl) (by kernel_rfl) ?_
  repeat (first | go_big_quiet_step (first | with_reducible exact d1 _ _ | with_reducible exact d2 _ _ | with_reducible exact d3 _ _ | with_reducible exact d4 _ _ | with_reducible exact d5 _ _ | with_reducible exact d6 _ _ | with_reducible exact d7 _ _) | quiet_step (first | with_reducible exact d1 _ _ | with_reducible exact d2 _ _ | with_reducible exact d3 _ _ | with_reducible exact d4 _ _ | with_reducible exact d5 _ _ | with_reducible exact d6 _ _ | with_reducible exact d7 _ _))
  refine wpQuiet_nil ?_
  intro _ hw'
  obtain ⟨⟨dq, osq⟩, hw''⟩ := hw'
  subst hw''
  have hY := below_regrown X1 dq osq
  change Exit.then _ _ Exit.normal _ (Sort.grow (redrawn X1 dq) osq)
  generalize Sort.grow (redrawn X1 dq) osq = X2 at hY ⊢
  clear y0 y1 y2 d1 d2 d3 d4 d5 d6 d7
  replace m := m.below hY l
  replace l := Nat.lt_of_lt_of_le l hY.size
  replace B := B.trans (hY.mono B.size)
  clear hY
  go_wp2_with fail
  have y0 := cell_regrown m.1
  have y1 := cell_regrown m.2.1
  have y2 := cell_regrown m.2.2
  have d1 : ∀ d os, Calls Try.prog 16 #[.int .i64 3, .int .i64 a, .int .i64 b] (Sort.grow (redrawn X2 d) os) fun e w'' => e = .returned (.agg #[.int .i64 1, .int .i64 ab, .string e0]) ∧ ∃ p : Regrown, w'' = Sort.grow (redrawn X2 p.d) p.os := fun d os => Calls.regrown_of (doN 3 a b ab He1.out _)
  have d2 : ∀ d os, Calls Try.prog 17 #[.int .i64 3, .agg #[.int .i64 1, .int .i64 ab, .string e0], .int .i64 c] (Sort.grow (redrawn X2 d) os) fun e w'' => e = .returned (.agg #[.int .i64 1, .int .i64 vs, .string e0]) ∧ ∃ p : Regrown, w'' = Sort.grow (redrawn X2 p.d) p.os := fun d os => Calls.regrown_of (withN 3 ab c vs He7.out _)
  have d3 : ∀ d os, Calls Try.prog 12 #[.int .i64 a] (Sort.grow (redrawn X2 d) os) fun e w'' => e = .returned (.agg #[.int .i64 1, .int .i64 a, .string e0]) ∧ ∃ p : Regrown, w'' = Sort.grow (redrawn X2 p.d) p.os := fun d os => Calls.regrown_of (num_any a _)
  have d4 : ∀ d os, Calls Try.prog 16 #[.int .i64 3, .int .i64 b, .int .i64 c] (Sort.grow (redrawn X2 d) os) fun e w'' => e = .returned (.agg #[.int .i64 1, .int .i64 bc, .string e0]) ∧ ∃ p : Regrown, w'' = Sort.grow (redrawn X2 p.d) p.os := fun d os => Calls.regrown_of (doN 3 b c bc He8.out _)
  have d5 : ∀ d os, Calls Try.prog 18 #[.int .i64 3, .agg #[.int .i64 1, .int .i64 a, .string e0], .agg #[.int .i64 1, .int .i64 bc, .string e0]] (Sort.grow (redrawn X2 d) os) fun e w'' => e = .returned (.agg #[.int .i64 1, .int .i64 vs, .string e0]) ∧ ∃ p : Regrown, w'' = Sort.grow (redrawn X2 p.d) p.os := fun d os => Calls.regrown_of (bothN 3 a bc vs He9.out _)
  have d6 : ∀ d os, Calls Try.prog 16 #[.int .i64 5, .int .i64 a, .int .i64 b] (Sort.grow (redrawn X2 d) os) fun e w'' => e = .returned (.agg #[.int .i64 1, .int .i64 pab, .string e0]) ∧ ∃ p : Regrown, w'' = Sort.grow (redrawn X2 p.d) p.os := fun d os => Calls.regrown_of (doN 5 a b pab He3.out _)
  have d7 : ∀ d os, Calls Try.prog 17 #[.int .i64 5, .agg #[.int .i64 1, .int .i64 pab, .string e0], .int .i64 c] (Sort.grow (redrawn X2 d) os) fun e w'' => e = .returned (.agg #[.int .i64 1, .int .i64 vp, .string e0]) ∧ ∃ p : Regrown, w'' = Sort.grow (redrawn X2 p.d) p.os := fun d os => Calls.regrown_of (withN 5 pab c vp He10.out _)
  have d8 : ∀ d os, Calls Try.prog 16 #[.int .i64 5, .int .i64 b, .int .i64 c] (Sort.grow (redrawn X2 d) os) fun e w'' => e = .returned (.agg #[.int .i64 1, .int .i64 pbc, .string e0]) ∧ ∃ p : Regrown, w'' = Sort.grow (redrawn X2 p.d) p.os := fun d os => Calls.regrown_of (doN 5 b c pbc He11.out _)
  have d9 : ∀ d os, Calls Try.prog 18 #[.int .i64 5, .agg #[.int .i64 1, .int .i64 a, .string e0], .agg #[.int .i64 1, .int .i64 pbc, .string e0]] (Sort.grow (redrawn X2 d) os) fun e w'' => e = .returned (.agg #[.int .i64 1, .int .i64 vp, .string e0]) ∧ ∃ p : Regrown, w'' = Sort.grow (redrawn X2 p.d) p.os := fun d os => Calls.regrown_of (bothN 5 a pbc vp He12.out _)
  refine wp_region_quiet_below (by kernel_rfl) (by kernel_rfl) ?_
  repeat (first | go_big_quiet_step (first | with_reducible exact d1 _ _ | with_reducible exact d2 _ _ | with_reducible exact d3 _ _ | with_reducible exact d4 _ _ | with_reducible exact d5 _ _ | with_reducible exact d6 _ _ | with_reducible exact d7 _ _ | with_reducible exact d8 _ _ | with_reducible exact d9 _ _) | quiet_step (first | with_reducible exact d1 _ _ | with_reducible exact d2 _ _ | with_reducible exact d3 _ _ | with_reducible exact d4 _ _ | with_reducible exact d5 _ _ | with_reducible exact d6 _ _ | with_reducible exact d7 _ _ | with_reducible exact d8 _ _ | with_reducible exact d9 _ _))
  refine wpQuiet_nil ?_
  intro _ hw'
  obtain ⟨⟨dq, osq⟩, hw''⟩ := hw'
  subst hw''
  have hY := below_regrown X2 dq osq
  change Exit.then _ _ Exit.normal _ (Sort.grow (redrawn X2 dq) osq)
  generalize Sort.grow (redrawn X2 dq) osq = X3 at hY ⊢
  clear y0 y1 y2 d1 d2 d3 d4 d5 d6 d7 d8 d9
  replace m := m.below hY l
  replace l := Nat.lt_of_lt_of_le l hY.size
  replace B := B.trans (hY.mono B.size)
  clear hY
  go_wp2_with fail
  have y0 := cell_regrown m.1
  have y1 := cell_regrown m.2.1
  have y2 := cell_regrown m.2.2
  have d1 : ∀ d os, Calls Try.prog 12 #[.int .i64 a] (Sort.grow (redrawn X3 d) os) fun e w'' => e = .returned (.agg #[.int .i64 1, .int .i64 a, .string e0]) ∧ ∃ p : Regrown, w'' = Sort.grow (redrawn X3 p.d) p.os := fun d os => Calls.regrown_of (num_any a _)
  have d2 : ∀ d os, Calls Try.prog 16 #[.int .i64 3, .int .i64 b, .int .i64 c] (Sort.grow (redrawn X3 d) os) fun e w'' => e = .returned (.agg #[.int .i64 1, .int .i64 bc, .string e0]) ∧ ∃ p : Regrown, w'' = Sort.grow (redrawn X3 p.d) p.os := fun d os => Calls.regrown_of (doN 3 b c bc He8.out _)
  have d3 : ∀ d os, Calls Try.prog 18 #[.int .i64 5, .agg #[.int .i64 1, .int .i64 a, .string e0], .agg #[.int .i64 1, .int .i64 bc, .string e0]] (Sort.grow (redrawn X3 d) os) fun e w'' => e = .returned (.agg #[.int .i64 1, .int .i64 vd, .string e0]) ∧ ∃ p : Regrown, w'' = Sort.grow (redrawn X3 p.d) p.os := fun d os => Calls.regrown_of (bothN 5 a bc vd He13.out _)
  have d4 : ∀ d os, Calls Try.prog 16 #[.int .i64 5, .int .i64 a, .int .i64 b] (Sort.grow (redrawn X3 d) os) fun e w'' => e = .returned (.agg #[.int .i64 1, .int .i64 pab, .string e0]) ∧ ∃ p : Regrown, w'' = Sort.grow (redrawn X3 p.d) p.os := fun d os => Calls.regrown_of (doN 5 a b pab He3.out _)
  have d5 : ∀ d os, Calls Try.prog 16 #[.int .i64 5, .int .i64 a, .int .i64 c] (Sort.grow (redrawn X3 d) os) fun e w'' => e = .returned (.agg #[.int .i64 1, .int .i64 pac, .string e0]) ∧ ∃ p : Regrown, w'' = Sort.grow (redrawn X3 p.d) p.os := fun d os => Calls.regrown_of (doN 5 a c pac He14.out _)
  have d6 : ∀ d os, Calls Try.prog 18 #[.int .i64 3, .agg #[.int .i64 1, .int .i64 pab, .string e0], .agg #[.int .i64 1, .int .i64 pac, .string e0]] (Sort.grow (redrawn X3 d) os) fun e w'' => e = .returned (.agg #[.int .i64 1, .int .i64 vd, .string e0]) ∧ ∃ p : Regrown, w'' = Sort.grow (redrawn X3 p.d) p.os := fun d os => Calls.regrown_of (bothN 3 pab pac vd He15.out _)
  refine wp_region_quiet_below (by kernel_rfl) (by kernel_rfl) ?_
  repeat (first | go_big_quiet_step (first | with_reducible exact d1 _ _ | with_reducible exact d2 _ _ | with_reducible exact d3 _ _ | with_reducible exact d4 _ _ | with_reducible exact d5 _ _ | with_reducible exact d6 _ _) | quiet_step (first | with_reducible exact d1 _ _ | with_reducible exact d2 _ _ | with_reducible exact d3 _ _ | with_reducible exact d4 _ _ | with_reducible exact d5 _ _ | with_reducible exact d6 _ _))
  refine wpQuiet_nil ?_
  intro _ hw'
  obtain ⟨⟨dq, osq⟩, hw''⟩ := hw'
  subst hw''
  have hY := below_regrown X3 dq osq
  change Exit.then _ _ Exit.normal _ (Sort.grow (redrawn X3 dq) osq)
  generalize Sort.grow (redrawn X3 dq) osq = X4 at hY ⊢
  clear y0 y1 y2 d1 d2 d3 d4 d5 d6
  replace m := m.below hY l
  replace l := Nat.lt_of_lt_of_le l hY.size
  replace B := B.trans (hY.mono B.size)
  clear hY
  obtain ⟨x0, x1, x2⟩ := id m
  go_wp2_with fail
  refine (num_any b _).mono ?_
  rintro e u1 ⟨rfl, hb⟩
  replace m := m.below hb l
  replace l := Nat.lt_of_lt_of_le l hb.size
  replace B := B.trans (hb.mono B.size)
  clear hb
  clear x0 x1 x2
  go_wp2_with fail
  refine (HU.out _).mono ?_
  rintro e u2 ⟨rfl, hb⟩
  replace m := m.below hb l
  replace l := Nat.lt_of_lt_of_le l hb.size
  replace B := B.trans (hb.mono B.size)
  clear hb
  replace m := m.alloc (.cells #[.int .i64 1, .int .i64 ng, .string e0] 25)
  have p := Box3.new u2 1 ng e0 25
  have lp : u2.heap.size < (u2.alloc (.cells #[.int .i64 1, .int .i64 ng, .string e0] 25)).heap.size := by simp
  replace l := Nat.lt_trans l lp
  replace B := B.alloc B.size (.cells #[.int .i64 1, .int .i64 ng, .string e0] 25)
  obtain ⟨x0, x1, x2⟩ := id m
  go_wp2_with fail
  generalize u2.alloc (.cells #[.int .i64 1, .int .i64 ng, .string e0] 25) = X5 at m p l lp B ⊢
  clear x0 x1 x2
  generalize u2.heap.size = xn at p lp ⊢
  have y0 := cell_regrown m.1
  have y1 := cell_regrown m.2.1
  have y2 := cell_regrown m.2.2
  have py0 := cell_regrown p.1.1.1
  have py1 := cell_regrown p.1.2.1
  have py2 := cell_regrown p.2.1
  have d1 : ∀ d os, Calls Try.prog 12 #[.int .i64 a] (Sort.grow (redrawn X5 d) os) fun e w'' => e = .returned (.agg #[.int .i64 1, .int .i64 a, .string e0]) ∧ ∃ p : Regrown, w'' = Sort.grow (redrawn X5 p.d) p.os := fun d os => Calls.regrown_of (num_any a _)
  have d2 : ∀ d os, Calls Try.prog 18 #[.int .i64 3, .agg #[.int .i64 1, .int .i64 a, .string e0], .agg #[.int .i64 1, .int .i64 ng, .string e0]] (Sort.grow (redrawn X5 d) os) fun e w'' => e = .returned (.agg #[.int .i64 1, .int .i64 sb, .string e0]) ∧ ∃ p : Regrown, w'' = Sort.grow (redrawn X5 p.d) p.os := fun d os => Calls.regrown_of (bothN 3 a ng sb He16.out _)
  have d3 : ∀ d os, Calls Try.prog 16 #[.int .i64 4, .int .i64 a, .int .i64 b] (Sort.grow (redrawn X5 d) os) fun e w'' => e = .returned (.agg #[.int .i64 1, .int .i64 sb, .string e0]) ∧ ∃ p : Regrown, w'' = Sort.grow (redrawn X5 p.d) p.os := fun d os => Calls.regrown_of (doN 4 a b sb He17.out _)
  have d4 : ∀ d os, Calls Try.prog 12 #[.int .i64 b] (Sort.grow (redrawn X5 d) os) fun e w'' => e = .returned (.agg #[.int .i64 1, .int .i64 b, .string e0]) ∧ ∃ p : Regrown, w'' = Sort.grow (redrawn X5 p.d) p.os := fun d os => Calls.regrown_of (num_any b _)
  have d5 : ∀ d os, Calls Try.prog 18 #[.int .i64 3, .agg #[.int .i64 1, .int .i64 b, .string e0], .agg #[.int .i64 1, .int .i64 ng, .string e0]] (Sort.grow (redrawn X5 d) os) fun e w'' => e = .returned (.agg #[.int .i64 1, .int .i64 0, .string e0]) ∧ ∃ p : Regrown, w'' = Sort.grow (redrawn X5 p.d) p.os := fun d os => Calls.regrown_of (bothN 3 b ng 0 He18.out _)
  have d6 : ∀ d os, Calls Try.prog 12 #[.int .i64 0] (Sort.grow (redrawn X5 d) os) fun e w'' => e = .returned (.agg #[.int .i64 1, .int .i64 0, .string e0]) ∧ ∃ p : Regrown, w'' = Sort.grow (redrawn X5 p.d) p.os := fun d os => Calls.regrown_of (num_any 0 _)
  refine wp_region_quiet_below (by kernel_rfl) (by kernel_rfl) ?_
  repeat (first | go_big_quiet_step (first | with_reducible exact d1 _ _ | with_reducible exact d2 _ _ | with_reducible exact d3 _ _ | with_reducible exact d4 _ _ | with_reducible exact d5 _ _ | with_reducible exact d6 _ _) | quiet_step (first | with_reducible exact d1 _ _ | with_reducible exact d2 _ _ | with_reducible exact d3 _ _ | with_reducible exact d4 _ _ | with_reducible exact d5 _ _ | with_reducible exact d6 _ _))
  refine wpQuiet_nil ?_
  intro _ hw'
  obtain ⟨⟨dq, osq⟩, hw''⟩ := hw'
  subst hw''
  have hY := below_regrown X5 dq osq
  change Exit.then _ _ Exit.normal _ (Sort.grow (redrawn X5 dq) osq)
  generalize Sort.grow (redrawn X5 dq) osq = X6 at hY ⊢
  clear y0 y1 y2 py0 py1 py2 d1 d2 d3 d4 d5 d6
  replace m := m.below hY l
  replace p := p.below hY lp
  replace l := Nat.lt_of_lt_of_le l hY.size
  replace lp := Nat.lt_of_lt_of_le lp hY.size
  replace B := B.trans (hY.mono B.size)
  clear hY
  clear p lp
  obtain ⟨x0, x1, x2⟩ := id m
  go_wp2_with fail
  obtain ⟨K6, N6, S6, T6, hr6⟩ : ∃ K N S T, intsS 6 a b = (K, N, S, T) := ⟨_, _, _, _, rfl⟩
  have cb6 := fun W : World => binN 6 a b W
  rw [hr6] at cb6
  have CB6 : Hid (∀ W : World, Calls Try.prog 9 #[.int .i64 6, .agg #[.int .i64 1, .int .i64 a, .string e0], .agg #[.int .i64 1, .int .i64 b, .string e0]] W fun e w' => e = .returned (.tuple #[.agg #[.int .i64 K6, .int .i64 N6, .string S6], .int .i64 T6]) ∧ Below W.heap.size W w') := cb6
  have HR6 : Hid (intsS 6 a b = (K6, N6, S6, T6)) := hr6
  clear cb6 hr6
  go_cut [5, 6] from 216 (fun u1 u2 wx => ∃ xb : Nat, u1 = .pointer (some ⟨xb, 0, none⟩) ∧ u2 = .int .i64 T6 ∧ Hid (Box3 wx xb K6 N6 S6 ∧ xb < wx.heap.size ∧ TriAt wx w.heap.size a b c ∧ Below w.heap.size w wx ∧ w.heap.size < wx.heap.size))
  case first =>
    have SV : Hid (∀ w' : World, Below X6.heap.size X6 w' → w'.cell? ⟨w.heap.size, 0, none⟩ = some (.int .i64 a) ∧ w'.cell? ⟨w.heap.size, 1, none⟩ = some (.int .i64 b) ∧ Below X6.heap.size X6 w') := fun w' hb => ⟨(m.below hb l).1, (m.below hb l).2.1, hb⟩
    have hcd : Below X6.heap.size X6 X6.drew := (Below.refl _ X6).drew
    go_region_held3 (fun w' => w'.cell? ⟨w.heap.size, 0, none⟩ = some (.int .i64 a) ∧ w'.cell? ⟨w.heap.size, 1, none⟩ = some (.int .i64 b) ∧ Below X6.heap.size X6 w') (exact SV.out _ (by first | assumption | exact Below.alloc (by assumption) (Below.size (by assumption)) _ | exact below_put3 (by assumption) (by first | (with_reducible exact Nat.le_refl _) | (with_reducible exact Below.size (by assumption))) _ _ _))
      (first
      | (go_at_call 12; refine (num_any a _).mono ?_; rintro e w1 ⟨rfl, hb1⟩; (first
          | (have z1 : Box3 w1 X6.heap.size 0 0 e0 := (Box3.new X6.drew 0 0 e0 25).below hb1 (by simp); have lz1 : X6.heap.size < w1.heap.size := Nat.lt_of_lt_of_le (by simp) hb1.size; have hcd1 : Below X6.heap.size X6 w1 := (hcd.alloc hcd.size _).trans (hb1.mono (hcd.alloc hcd.size _).size))
          | have hcd1 : Below X6.heap.size X6 w1 := hcd.trans (hb1.mono hcd.size)))
      | (go_at_call 12; refine (num_any b _).mono ?_; rintro e w2 ⟨rfl, hb2⟩; (first
          | (have z2 : Box3 w2 w1.heap.size 0 0 e0 := (Box3.new w1 0 0 e0 25).below hb2 (by simp); have lz2 : w1.heap.size < w2.heap.size := Nat.lt_of_lt_of_le (by simp) hb2.size; have hcd2 : Below X6.heap.size X6 w2 := (hcd1.alloc hcd1.size _).trans (hb2.mono (hcd1.alloc hcd1.size _).size))
          | (have z2 : Box3 w2 X6.heap.size 0 0 e0 := z1.below hb2 lz1; have lz2 : X6.heap.size < w2.heap.size := Nat.lt_of_lt_of_le lz1 hb2.size; have hcd2 : Below X6.heap.size X6 w2 := hcd1.trans (hb2.mono hcd1.size))
          | have hcd2 : Below X6.heap.size X6 w2 := hcd1.trans (hb2.mono hcd1.size)))
      | (go_at_call 9; refine (CB6.out _).mono ?_; rintro e w3 ⟨rfl, hb3⟩; (first
          | (have z3 : Box3 w3 w2.heap.size 0 0 e0 := (Box3.new w2 0 0 e0 25).below hb3 (by simp); have lz3 : w2.heap.size < w3.heap.size := Nat.lt_of_lt_of_le (by simp) hb3.size; have hcd3 : Below X6.heap.size X6 w3 := (hcd2.alloc hcd2.size _).trans (hb3.mono (hcd2.alloc hcd2.size _).size); obtain ⟨⟨⟨z30, zf0⟩, ⟨z31, zf1⟩⟩, z32, zf2⟩ := id z3)
          | (have z3 : Box3 w3 w1.heap.size 0 0 e0 := z2.below hb3 lz2; have lz3 : w1.heap.size < w3.heap.size := Nat.lt_of_lt_of_le lz2 hb3.size; have hcd3 : Below X6.heap.size X6 w3 := hcd2.trans (hb3.mono hcd2.size); obtain ⟨⟨⟨z30, zf0⟩, ⟨z31, zf1⟩⟩, z32, zf2⟩ := id z3)
          | (have z3 : Box3 w3 X6.heap.size 0 0 e0 := z2.below hb3 lz2; have lz3 : X6.heap.size < w3.heap.size := Nat.lt_of_lt_of_le lz2 hb3.size; have hcd3 : Below X6.heap.size X6 w3 := hcd2.trans (hb3.mono hcd2.size); obtain ⟨⟨⟨z30, zf0⟩, ⟨z31, zf1⟩⟩, z32, zf2⟩ := id z3)
          | have hcd3 : Below X6.heap.size X6 w3 := hcd2.trans (hb3.mono hcd2.size))))
    · rename_i hH
      have hB : Below X6.heap.size X6 (w3.alloc (.cells #[.int .i64 K6, .int .i64 N6, .string S6] 25)) := hH.2.2
      have zb : Box3 (w3.alloc (.cells #[.int .i64 K6, .int .i64 N6, .string S6] 25)) (w3.heap.size) K6 N6 S6 := Box3.new w3 K6 N6 S6 25
      have lz : w3.heap.size < (w3.alloc (.cells #[.int .i64 K6, .int .i64 N6, .string S6] 25)).heap.size := by simp
      change Exit.then _ _ Exit.normal _ (w3.alloc (.cells #[.int .i64 K6, .int .i64 N6, .string S6] 25))
      generalize w3.alloc (.cells #[.int .i64 K6, .int .i64 N6, .string S6] 25) = Y at hB zb lz ⊢
      clear hH
      have HH : Hid (Box3 Y (w3.heap.size) K6 N6 S6 ∧ w3.heap.size < Y.heap.size ∧ TriAt Y w.heap.size a b c ∧ Below w.heap.size w Y ∧ w.heap.size < Y.heap.size) := ⟨zb, lz, m.below hB l, B.trans (hB.mono B.size), Nat.lt_of_lt_of_le l hB.size⟩
      go_wp2
      go_meet
      case rel => exact ⟨w3.heap.size, rfl, rfl, HH⟩
    · rename_i hH
      have hB : Below X6.heap.size X6 (put3 w3 w2.heap.size K6 N6 S6) := hH.2.2
      have zb : Box3 (put3 w3 w2.heap.size K6 N6 S6) (w2.heap.size) K6 N6 S6 := z3.put K6 N6 S6
      have lz : w2.heap.size < (put3 w3 w2.heap.size K6 N6 S6).heap.size := lt_put3 lz3
      change Exit.then _ _ Exit.normal _ (put3 w3 w2.heap.size K6 N6 S6)
      generalize put3 w3 w2.heap.size K6 N6 S6 = Y at hB zb lz ⊢
      clear hH
      have HH : Hid (Box3 Y (w2.heap.size) K6 N6 S6 ∧ w2.heap.size < Y.heap.size ∧ TriAt Y w.heap.size a b c ∧ Below w.heap.size w Y ∧ w.heap.size < Y.heap.size) := ⟨zb, lz, m.below hB l, B.trans (hB.mono B.size), Nat.lt_of_lt_of_le l hB.size⟩
      go_wp2
      go_meet
      case rel => exact ⟨w2.heap.size, rfl, rfl, HH⟩
    · rename_i hH
      have hB : Below X6.heap.size X6 (put3 w3 w1.heap.size K6 N6 S6) := hH.2.2
      have zb : Box3 (put3 w3 w1.heap.size K6 N6 S6) (w1.heap.size) K6 N6 S6 := z3.put K6 N6 S6
      have lz : w1.heap.size < (put3 w3 w1.heap.size K6 N6 S6).heap.size := lt_put3 lz3
      change Exit.then _ _ Exit.normal _ (put3 w3 w1.heap.size K6 N6 S6)
      generalize put3 w3 w1.heap.size K6 N6 S6 = Y at hB zb lz ⊢
      clear hH
      have HH : Hid (Box3 Y (w1.heap.size) K6 N6 S6 ∧ w1.heap.size < Y.heap.size ∧ TriAt Y w.heap.size a b c ∧ Below w.heap.size w Y ∧ w.heap.size < Y.heap.size) := ⟨zb, lz, m.below hB l, B.trans (hB.mono B.size), Nat.lt_of_lt_of_le l hB.size⟩
      go_wp2
      go_meet
      case rel => exact ⟨w1.heap.size, rfl, rfl, HH⟩
    · rename_i hH
      have hB : Below X6.heap.size X6 (put3 w3 X6.heap.size K6 N6 S6) := hH.2.2
      have zb : Box3 (put3 w3 X6.heap.size K6 N6 S6) (X6.heap.size) K6 N6 S6 := z3.put K6 N6 S6
      have lz : X6.heap.size < (put3 w3 X6.heap.size K6 N6 S6).heap.size := lt_put3 lz3
      change Exit.then _ _ Exit.normal _ (put3 w3 X6.heap.size K6 N6 S6)
      generalize put3 w3 X6.heap.size K6 N6 S6 = Y at hB zb lz ⊢
      clear hH
      have HH : Hid (Box3 Y (X6.heap.size) K6 N6 S6 ∧ X6.heap.size < Y.heap.size ∧ TriAt Y w.heap.size a b c ∧ Below w.heap.size w Y ∧ w.heap.size < Y.heap.size) := ⟨zb, lz, m.below hB l, B.trans (hB.mono B.size), Nat.lt_of_lt_of_le l hB.size⟩
      go_wp2
      go_meet
      case rel => exact ⟨X6.heap.size, rfl, rfl, HH⟩
  case rest =>
  clear m B l x0 x1 x2
  obtain ⟨xq, rfl, rfl, HC⟩ := hcut
  obtain ⟨p, lp, m, B, l⟩ := HC.out
  clear HC CB6
  obtain ⟨x0, x1, x2⟩ := id m
  go_wp2_with fail
  obtain ⟨K7, N7, S7, T7, hr7⟩ : ∃ K N S T, intsS 7 a b = (K, N, S, T) := ⟨_, _, _, _, rfl⟩
  have cb7 := fun W : World => binN 7 a b W
  rw [hr7] at cb7
  have CB7 : Hid (∀ W : World, Calls Try.prog 9 #[.int .i64 7, .agg #[.int .i64 1, .int .i64 a, .string e0], .agg #[.int .i64 1, .int .i64 b, .string e0]] W fun e w' => e = .returned (.tuple #[.agg #[.int .i64 K7, .int .i64 N7, .string S7], .int .i64 T7]) ∧ Below W.heap.size W w') := cb7
  have HR7 : Hid (intsS 7 a b = (K7, N7, S7, T7)) := hr7
  clear cb7 hr7
  go_cut [7, 8] from 216 (fun u1 u2 wx => ∃ xb : Nat, u1 = .pointer (some ⟨xb, 0, none⟩) ∧ u2 = .int .i64 T7 ∧ Hid (Box3 wx xb K7 N7 S7 ∧ xb < wx.heap.size ∧ TriAt wx w.heap.size a b c ∧ Below w.heap.size w wx ∧ w.heap.size < wx.heap.size ∧ Box3 wx xq K6 N6 S6 ∧ xq < wx.heap.size))
  case first =>
    have SV : Hid (∀ w' : World, Below wc.heap.size wc w' → w'.cell? ⟨w.heap.size, 0, none⟩ = some (.int .i64 a) ∧ w'.cell? ⟨w.heap.size, 1, none⟩ = some (.int .i64 b) ∧ Below wc.heap.size wc w') := fun w' hb => ⟨(m.below hb l).1, (m.below hb l).2.1, hb⟩
    have hcd : Below wc.heap.size wc wc.drew := (Below.refl _ wc).drew
    go_region_held3 (fun w' => w'.cell? ⟨w.heap.size, 0, none⟩ = some (.int .i64 a) ∧ w'.cell? ⟨w.heap.size, 1, none⟩ = some (.int .i64 b) ∧ Below wc.heap.size wc w') (exact SV.out _ (by first | assumption | exact Below.alloc (by assumption) (Below.size (by assumption)) _ | exact below_put3 (by assumption) (by first | (with_reducible exact Nat.le_refl _) | (with_reducible exact Below.size (by assumption))) _ _ _))
      (first
      | (go_at_call 12; refine (num_any a _).mono ?_; rintro e w1 ⟨rfl, hb1⟩; (first
          | (have z1 : Box3 w1 wc.heap.size 0 0 e0 := (Box3.new wc.drew 0 0 e0 25).below hb1 (by simp); have lz1 : wc.heap.size < w1.heap.size := Nat.lt_of_lt_of_le (by simp) hb1.size; have hcd1 : Below wc.heap.size wc w1 := (hcd.alloc hcd.size _).trans (hb1.mono (hcd.alloc hcd.size _).size))
          | have hcd1 : Below wc.heap.size wc w1 := hcd.trans (hb1.mono hcd.size)))
      | (go_at_call 12; refine (num_any b _).mono ?_; rintro e w2 ⟨rfl, hb2⟩; (first
          | (have z2 : Box3 w2 w1.heap.size 0 0 e0 := (Box3.new w1 0 0 e0 25).below hb2 (by simp); have lz2 : w1.heap.size < w2.heap.size := Nat.lt_of_lt_of_le (by simp) hb2.size; have hcd2 : Below wc.heap.size wc w2 := (hcd1.alloc hcd1.size _).trans (hb2.mono (hcd1.alloc hcd1.size _).size))
          | (have z2 : Box3 w2 wc.heap.size 0 0 e0 := z1.below hb2 lz1; have lz2 : wc.heap.size < w2.heap.size := Nat.lt_of_lt_of_le lz1 hb2.size; have hcd2 : Below wc.heap.size wc w2 := hcd1.trans (hb2.mono hcd1.size))
          | have hcd2 : Below wc.heap.size wc w2 := hcd1.trans (hb2.mono hcd1.size)))
      | (go_at_call 9; refine (CB7.out _).mono ?_; rintro e w3 ⟨rfl, hb3⟩; (first
          | (have z3 : Box3 w3 w2.heap.size 0 0 e0 := (Box3.new w2 0 0 e0 25).below hb3 (by simp); have lz3 : w2.heap.size < w3.heap.size := Nat.lt_of_lt_of_le (by simp) hb3.size; have hcd3 : Below wc.heap.size wc w3 := (hcd2.alloc hcd2.size _).trans (hb3.mono (hcd2.alloc hcd2.size _).size); obtain ⟨⟨⟨z30, zf0⟩, ⟨z31, zf1⟩⟩, z32, zf2⟩ := id z3)
          | (have z3 : Box3 w3 w1.heap.size 0 0 e0 := z2.below hb3 lz2; have lz3 : w1.heap.size < w3.heap.size := Nat.lt_of_lt_of_le lz2 hb3.size; have hcd3 : Below wc.heap.size wc w3 := hcd2.trans (hb3.mono hcd2.size); obtain ⟨⟨⟨z30, zf0⟩, ⟨z31, zf1⟩⟩, z32, zf2⟩ := id z3)
          | (have z3 : Box3 w3 wc.heap.size 0 0 e0 := z2.below hb3 lz2; have lz3 : wc.heap.size < w3.heap.size := Nat.lt_of_lt_of_le lz2 hb3.size; have hcd3 : Below wc.heap.size wc w3 := hcd2.trans (hb3.mono hcd2.size); obtain ⟨⟨⟨z30, zf0⟩, ⟨z31, zf1⟩⟩, z32, zf2⟩ := id z3)
          | have hcd3 : Below wc.heap.size wc w3 := hcd2.trans (hb3.mono hcd2.size))))
    · rename_i hH
      have hB : Below wc.heap.size wc (w3.alloc (.cells #[.int .i64 K7, .int .i64 N7, .string S7] 25)) := hH.2.2
      have zb : Box3 (w3.alloc (.cells #[.int .i64 K7, .int .i64 N7, .string S7] 25)) (w3.heap.size) K7 N7 S7 := Box3.new w3 K7 N7 S7 25
      have lz : w3.heap.size < (w3.alloc (.cells #[.int .i64 K7, .int .i64 N7, .string S7] 25)).heap.size := by simp
      change Exit.then _ _ Exit.normal _ (w3.alloc (.cells #[.int .i64 K7, .int .i64 N7, .string S7] 25))
      generalize w3.alloc (.cells #[.int .i64 K7, .int .i64 N7, .string S7] 25) = Y at hB zb lz ⊢
      clear hH
      have HH : Hid (Box3 Y (w3.heap.size) K7 N7 S7 ∧ w3.heap.size < Y.heap.size ∧ TriAt Y w.heap.size a b c ∧ Below w.heap.size w Y ∧ w.heap.size < Y.heap.size ∧ Box3 Y xq K6 N6 S6 ∧ xq < Y.heap.size) := ⟨zb, lz, m.below hB l, B.trans (hB.mono B.size), Nat.lt_of_lt_of_le l hB.size, p.below hB lp, Nat.lt_of_lt_of_le lp hB.size⟩
      go_wp2
      go_meet
      case rel => exact ⟨w3.heap.size, rfl, rfl, HH⟩
    · rename_i hH
      have hB : Below wc.heap.size wc (put3 w3 w2.heap.size K7 N7 S7) := hH.2.2
      have zb : Box3 (put3 w3 w2.heap.size K7 N7 S7) (w2.heap.size) K7 N7 S7 := z3.put K7 N7 S7
      have lz : w2.heap.size < (put3 w3 w2.heap.size K7 N7 S7).heap.size := lt_put3 lz3
      change Exit.then _ _ Exit.normal _ (put3 w3 w2.heap.size K7 N7 S7)
      generalize put3 w3 w2.heap.size K7 N7 S7 = Y at hB zb lz ⊢
      clear hH
      have HH : Hid (Box3 Y (w2.heap.size) K7 N7 S7 ∧ w2.heap.size < Y.heap.size ∧ TriAt Y w.heap.size a b c ∧ Below w.heap.size w Y ∧ w.heap.size < Y.heap.size ∧ Box3 Y xq K6 N6 S6 ∧ xq < Y.heap.size) := ⟨zb, lz, m.below hB l, B.trans (hB.mono B.size), Nat.lt_of_lt_of_le l hB.size, p.below hB lp, Nat.lt_of_lt_of_le lp hB.size⟩
      go_wp2
      go_meet
      case rel => exact ⟨w2.heap.size, rfl, rfl, HH⟩
    · rename_i hH
      have hB : Below wc.heap.size wc (put3 w3 w1.heap.size K7 N7 S7) := hH.2.2
      have zb : Box3 (put3 w3 w1.heap.size K7 N7 S7) (w1.heap.size) K7 N7 S7 := z3.put K7 N7 S7
      have lz : w1.heap.size < (put3 w3 w1.heap.size K7 N7 S7).heap.size := lt_put3 lz3
      change Exit.then _ _ Exit.normal _ (put3 w3 w1.heap.size K7 N7 S7)
      generalize put3 w3 w1.heap.size K7 N7 S7 = Y at hB zb lz ⊢
      clear hH
      have HH : Hid (Box3 Y (w1.heap.size) K7 N7 S7 ∧ w1.heap.size < Y.heap.size ∧ TriAt Y w.heap.size a b c ∧ Below w.heap.size w Y ∧ w.heap.size < Y.heap.size ∧ Box3 Y xq K6 N6 S6 ∧ xq < Y.heap.size) := ⟨zb, lz, m.below hB l, B.trans (hB.mono B.size), Nat.lt_of_lt_of_le l hB.size, p.below hB lp, Nat.lt_of_lt_of_le lp hB.size⟩
      go_wp2
      go_meet
      case rel => exact ⟨w1.heap.size, rfl, rfl, HH⟩
    · rename_i hH
      have hB : Below wc.heap.size wc (put3 w3 wc.heap.size K7 N7 S7) := hH.2.2
      have zb : Box3 (put3 w3 wc.heap.size K7 N7 S7) (wc.heap.size) K7 N7 S7 := z3.put K7 N7 S7
      have lz : wc.heap.size < (put3 w3 wc.heap.size K7 N7 S7).heap.size := lt_put3 lz3
      change Exit.then _ _ Exit.normal _ (put3 w3 wc.heap.size K7 N7 S7)
      generalize put3 w3 wc.heap.size K7 N7 S7 = Y at hB zb lz ⊢
      clear hH
      have HH : Hid (Box3 Y (wc.heap.size) K7 N7 S7 ∧ wc.heap.size < Y.heap.size ∧ TriAt Y w.heap.size a b c ∧ Below w.heap.size w Y ∧ w.heap.size < Y.heap.size ∧ Box3 Y xq K6 N6 S6 ∧ xq < Y.heap.size) := ⟨zb, lz, m.below hB l, B.trans (hB.mono B.size), Nat.lt_of_lt_of_le l hB.size, p.below hB lp, Nat.lt_of_lt_of_le lp hB.size⟩
      go_wp2
      go_meet
      case rel => exact ⟨wc.heap.size, rfl, rfl, HH⟩
  case rest =>
  clear m B l x0 x1 x2 p lp
  obtain ⟨xr, rfl, rfl, HC⟩ := hcut
  obtain ⟨r, lr, m, B, l, p, lp⟩ := HC.out
  clear HC CB7 HU He1 He2 He3 He4 He5 He6 He7 He8 He9 He10 He11 He12 He13 He14 He15 He16 He17 He18 nab npab nvs nvp nvd nsb n0
  have h6 := HR6.out
  have h7 := HR7.out
  clear HR6 HR7
  by_cases hz : b = 0
  · subst hz
    rw [show intsS 6 a 0 = (0, 0, e0, 1) from rfl] at h6
    rw [show intsS 7 a 0 = (0, 0, e0, 1) from rfl] at h7
    simp only [Prod.mk.injEq] at h6 h7
    obtain ⟨rfl, rfl, rfl, rfl⟩ := h6
    obtain ⟨rfl, rfl, rfl, rfl⟩ := h7
    obtain ⟨x0, x1, x2⟩ := id m
    go_wp2
    go_ret
    exact ⟨rfl, B⟩
  rw [ring_div hz] at h6
  rw [ring_mod hz] at h7
  have hq : wrap64 (wrap64 (b * wrap64 (a.tdiv b)) + a.tmod b) = a := by rw [wrap_mul_r, wrap_add_l, Int.mul_tdiv_add_tmod]; exact wrap_in HR.out
  have hn : (a.tmod b).natAbs < b.natAbs := by rw [Int.natAbs_tmod]; exact Nat.mod_lt _ (by omega)
  have hp : 0 ≤ a → 0 ≤ a.tmod b := fun h => Int.tmod_nonneg b h
  have hm : a ≤ 0 → a.tmod b ≤ 0 := fun h => by have := Int.tmod_nonneg b (show 0 ≤ -a by omega); rw [Int.neg_tmod] at this; omega
  have h1 : b = -1 → a.tmod b = 0 := fun h => by rw [h] at hn ⊢; omega
  generalize wrap64 (a.tdiv b) = q at h6 hq
  generalize a.tmod b = rr at h7 hq hn hp hm h1
  simp only [Prod.mk.injEq] at h6 h7
  obtain ⟨rfl, rfl, rfl, rfl⟩ := h6
  obtain ⟨rfl, rfl, rfl, rfl⟩ := h7
  obtain ⟨bq, hbq⟩ : ∃ x, wrap64 (b * q) = x := ⟨_, rfl⟩
  rw [hbq] at hq
  have Hf1 : Hid (intsS 5 b q = (1, bq, e0, 0)) := (ring_mul b q).trans (num1 hbq)
  have Hf2 : Hid (intsS 3 bq rr = (1, a, e0, 0)) := (ring_add bq rr).trans (num1 hq)
  have HP : Hid (rr.natAbs < b.natAbs ∧ (0 ≤ a → 0 ≤ rr) ∧ (a ≤ 0 → rr ≤ 0) ∧ (b = -1 → rr = 0)) := ⟨hn, hp, hm, h1⟩
  clear hbq hq hn hp hm h1
  obtain ⟨x0, x1, x2⟩ := id m
  have hz2 : (b == 0) = false := by simp [hz]
  go_wp2_with fail
  clear x0 x1 x2
  have y0 := cell_regrown m.1
  have y1 := cell_regrown m.2.1
  have y2 := cell_regrown m.2.2
  have py0 := cell_regrown p.1.1.1
  have py1 := cell_regrown p.1.2.1
  have py2 := cell_regrown p.2.1
  have ry0 := cell_regrown r.1.1.1
  have ry1 := cell_regrown r.1.2.1
  have ry2 := cell_regrown r.2.1
  have d1 : ∀ d os, Calls Try.prog 12 #[.int .i64 b] (Sort.grow (redrawn wc d) os) fun e w'' => e = .returned (.agg #[.int .i64 1, .int .i64 b, .string e0]) ∧ ∃ p : Regrown, w'' = Sort.grow (redrawn wc p.d) p.os := fun d os => Calls.regrown_of (num_any b _)
  have d2 : ∀ d os, Calls Try.prog 18 #[.int .i64 5, .agg #[.int .i64 1, .int .i64 b, .string e0], .agg #[.int .i64 1, .int .i64 q, .string e0]] (Sort.grow (redrawn wc d) os) fun e w'' => e = .returned (.agg #[.int .i64 1, .int .i64 bq, .string e0]) ∧ ∃ p : Regrown, w'' = Sort.grow (redrawn wc p.d) p.os := fun d os => Calls.regrown_of (bothN 5 b q bq Hf1.out _)
  have d3 : ∀ d os, Calls Try.prog 18 #[.int .i64 3, .agg #[.int .i64 1, .int .i64 bq, .string e0], .agg #[.int .i64 1, .int .i64 rr, .string e0]] (Sort.grow (redrawn wc d) os) fun e w'' => e = .returned (.agg #[.int .i64 1, .int .i64 a, .string e0]) ∧ ∃ p : Regrown, w'' = Sort.grow (redrawn wc p.d) p.os := fun d os => Calls.regrown_of (bothN 3 bq rr a Hf2.out _)
  have d4 : ∀ d os, Calls Try.prog 12 #[.int .i64 a] (Sort.grow (redrawn wc d) os) fun e w'' => e = .returned (.agg #[.int .i64 1, .int .i64 a, .string e0]) ∧ ∃ p : Regrown, w'' = Sort.grow (redrawn wc p.d) p.os := fun d os => Calls.regrown_of (num_any a _)
  refine wp_region_quiet_below (by kernel_rfl) (by kernel_rfl) ?_
  repeat (first | go_big_quiet_step (first | with_reducible exact d1 _ _ | with_reducible exact d2 _ _ | with_reducible exact d3 _ _ | with_reducible exact d4 _ _) | quiet_step (first | with_reducible exact d1 _ _ | with_reducible exact d2 _ _ | with_reducible exact d3 _ _ | with_reducible exact d4 _ _))
  refine wpQuiet_nil ?_
  intro _ hw'
  obtain ⟨⟨dq, osq⟩, hw''⟩ := hw'
  subst hw''
  have hY := below_regrown wc dq osq
  change Exit.then _ _ Exit.normal _ (Sort.grow (redrawn wc dq) osq)
  generalize Sort.grow (redrawn wc dq) osq = X8 at hY ⊢
  clear y0 y1 y2 py0 py1 py2 ry0 ry1 ry2 d1 d2 d3 d4
  replace m := m.below hY l
  replace p := p.below hY lp
  replace r := r.below hY lr
  replace l := Nat.lt_of_lt_of_le l hY.size
  replace lp := Nat.lt_of_lt_of_le lp hY.size
  replace lr := Nat.lt_of_lt_of_le lr hY.size
  replace B := B.trans (hY.mono B.size)
  clear hY
  obtain ⟨x0, x1, x2⟩ := id m
  obtain ⟨⟨⟨r0, rf0⟩, ⟨r1, rf1⟩⟩, r2, rf2⟩ := id r
  by_cases hm1 : b = -1
  · have hr0 := HP.out.2.2.2 hm1
    subst hm1 hr0
    clear na
    have q1 := eqSame 1 0 e0
    go_wp2_with fail
    have y0 := cell_regrown r.1.1.1
    have y1 := cell_regrown r.1.2.1
    have y2 := cell_regrown r.2.1
    have d1 : ∀ d os, Calls Try.prog 12 #[.int .i64 0] (Sort.grow (redrawn X8 d) os) fun e w'' => e = .returned (.agg #[.int .i64 1, .int .i64 0, .string e0]) ∧ ∃ p : Regrown, w'' = Sort.grow (redrawn X8 p.d) p.os := fun d os => Calls.regrown_of (num_any 0 _)
    refine wp_region_quiet_below (by kernel_rfl) (by kernel_rfl) ?_
    repeat (first | go_big_quiet_step (with_reducible exact d1 _ _) | quiet_step (with_reducible exact d1 _ _))
    refine wpQuiet_nil ?_
    intro _ hw'
    obtain ⟨⟨dq, osq⟩, hw''⟩ := hw'
    subst hw''
    have hY := below_regrown X8 dq osq
    change Exit.then _ _ Exit.normal _ (Sort.grow (redrawn X8 dq) osq)
    generalize Sort.grow (redrawn X8 dq) osq = X9 at hY ⊢
    have B9 := B.trans (hY.mono B.size)
    go_wp2
    go_ret
    exact ⟨rfl, B9⟩
  have hm2 : (b == -1) = false := by simp [hm1]
  obtain ⟨hn, hp, hmm, -⟩ := HP.out
  have hbr := HR2.out
  have cn := fun W : World => near_yes rr b W (by omega) hbr hn
  have CN : Hid (∀ W : World, Calls Try.prog 19 #[.int .i64 rr, .int .i64 b] W fun e w' => e = .returned (.bool true) ∧ w' = W) := cn
  clear cn hbr hn na
  by_cases h0 : rr = 0
  · subst h0
    go_wp2_with (go_at_call 19; refine (CN.out _).mono ?_; rintro e _ ⟨rfl, rfl⟩)
    go_ret
    exact ⟨rfl, B⟩
  have h0b : (rr == 0) = false := by simp [h0]
  by_cases hneg : a < 0
  · have hr1 : rr < 0 := by have := hmm (by omega); omega
    clear hmm hp
    go_wp2_with (go_at_call 19; refine (CN.out _).mono ?_; rintro e _ ⟨rfl, rfl⟩)
    go_ret
    exact ⟨rfl, B⟩
  · have hr1 : ¬ rr < 0 := by have := hp (by omega); omega
    clear hmm hp
    go_wp2_with (go_at_call 19; refine (CN.out _).mono ?_; rintro e _ ⟨rfl, rfl⟩)
    go_ret
    exact ⟨by simp; omega, B⟩
end Go.Proofs.Ytfghajokmmlijaa
