import Derived.Lib.QuietBelow
import Derived.BigQuiet
import Derived.Test.YtfghajokmmlijaaDoorUn
namespace Go.Proofs.YtfghajokmmlijaaDoor
open Go.RowKit

set_option maxHeartbeats 400000 in
theorem num_any (n : Int) (w : World) : Calls Tryd.prog 20 #[.int .i64 n] w fun e w' => e = .returned (.agg #[.int .i64 1, .int .i64 n, .string e0]) ∧ Below w.heap.size w w' := by
  go_enter Tryd.func20, Tryd.ntmps20
  go_wp2
  refine bodyPost_ret (v := .agg #[.int .i64 1, .int .i64 n, .string e0]) (by simp [results, Tryd.results20, go_sem]) rfl ⟨rfl, ?_⟩
  exact (Below.refl _ w).alloc (Nat.le_refl _) _
set_option maxHeartbeats 400000 in
theorem text_any (s : ByteArray) (w : World) : Calls Tryd.prog 21 #[.string s] w fun e w' => e = .returned (.agg #[.int .i64 3, .int .i64 0, .string s]) ∧ Below w.heap.size w w' := by
  go_enter Tryd.func21, Tryd.ntmps21
  go_wp2
  refine bodyPost_ret (v := .agg #[.int .i64 3, .int .i64 0, .string s]) (by simp [results, Tryd.results21, go_sem]) rfl ⟨rfl, ?_⟩
  exact (Below.refl _ w).alloc (Nat.le_refl _) _

theorem eqSame (k n : Int) (s : ByteArray) : ∀ w : World, (binOp BinOp.eql 25 (.agg #[.int .i64 k, .int .i64 n, .string s]) (.agg #[.int .i64 k, .int .i64 n, .string s])).run Tryd.prog w = .ok (.bool true) w := by
  intro w
  rw [eqlV]
  simp
theorem neSame (k n : Int) (s : ByteArray) : ∀ w : World, (binOp BinOp.neq 25 (.agg #[.int .i64 k, .int .i64 n, .string s]) (.agg #[.int .i64 k, .int .i64 n, .string s])).run Tryd.prog w = .ok (.bool false) w := by
  intro w
  simp [go_sem]

theorem okInt (n : Int) : okV 1 n e0 = true := by unfold okV; rw [e0_list]; rfl
theorem okText (s : ByteArray) (h : s.size ≤ 256) : okV 3 0 s = true := by rw [show okV 3 0 s = (((0 : Int) == 0) && decide (s.size ≤ 256)) from rfl]; simp [h]
theorem binInt (op a b : Int) : binS op 1 a e0 1 b e0 = intsS op a b := by unfold binS; rw [if_pos ⟨okInt a, rfl, okInt b⟩, if_pos rfl]
theorem binText (op : Int) (a b : ByteArray) (ha : a.size ≤ 256) (hb : b.size ≤ 256) : binS op 3 0 a 3 0 b = textsS op a b := by unfold binS; rw [if_pos ⟨okText a ha, rfl, okText b hb⟩, if_neg (by decide), if_pos rfl]
abbrev tA : ByteArray := ⟨#[97]⟩
abbrev tB : ByteArray := ⟨#[98]⟩
theorem cmpAB : cmpT tA tB = -1 := by unfold cmpT; rw [if_pos]; simp [tA, tB, ByteArray.toList_eq]; decide

set_option maxRecDepth 100000 in
set_option maxHeartbeats 1000000 in
theorem works_any (w : World) : Calls Tryd.prog 5 #[] w fun e w' => e = .returned (.bool true) ∧ Below w.heap.size w w' := by
  have c1 : ∀ W : World, Calls Tryd.prog 9 #[.int .i64 3, .agg #[.int .i64 1, .int .i64 2, .string e0], .agg #[.int .i64 1, .int .i64 3, .string e0]] W fun e w' => e = .returned (.tuple #[.agg #[.int .i64 1, .int .i64 5, .string e0], .int .i64 0]) ∧ Below W.heap.size W w' := fun W => by
    have h := binary_any 3 1 2 e0 1 3 e0 W (by decide) (by decide)
    rw [binInt, show intsS 3 2 3 = (1, 5, e0, 0) by unfold intsS numS; rw [if_pos rfl, wrap_in (by omega)]; rfl] at h
    exact h
  have c2 : ∀ W : World, Calls Tryd.prog 9 #[.int .i64 10, .agg #[.int .i64 3, .int .i64 0, .string tA], .agg #[.int .i64 3, .int .i64 0, .string tB]] W fun e w' => e = .returned (.tuple #[.agg #[.int .i64 2, .int .i64 1, .string e0], .int .i64 0]) ∧ Below W.heap.size W w' := fun W => by
    have h := binary_any 10 3 0 tA 3 0 tB W (by decide) (by decide)
    rw [binText _ _ _ (by decide) (by decide), show textsS 10 tA tB = (2, 1, e0, 0) by unfold textsS; rw [if_neg (by decide), cmpAB]; rfl] at h
    exact h
  go_enter Tryd.func5, Tryd.ntmps5
  go_wp2_with fail
  refine (num_any 2 _).mono ?_
  rintro e w1 ⟨rfl, b1⟩
  go_wp2_with fail
  refine (num_any 3 _).mono ?_
  rintro e w2 ⟨rfl, b2⟩
  go_wp2_with fail
  refine (c1 _).mono ?_
  rintro e w3 ⟨rfl, b3⟩
  have B3 : Below w.heap.size w w3 := (b1.trans (b2.mono b1.size)).trans (b3.mono (Nat.le_trans b1.size b2.size))
  have m3 := Box3.new w3 1 5 e0 25
  have z3 := B3.size
  clear b1 b2 b3 c1
  go_wp2_with fail
  refine (text_any tA _).mono ?_
  rintro e w4 ⟨rfl, b4⟩
  go_wp2_with fail
  refine (text_any tB _).mono ?_
  rintro e w5 ⟨rfl, b5⟩
  go_wp2_with fail
  refine (c2 _).mono ?_
  rintro e w6 ⟨rfl, b6⟩
  have b46 := (b4.trans (b5.mono b4.size)).trans (b6.mono (Nat.le_trans b4.size b5.size))
  have m6 := (m3.below b46 (by simp)).alloc (.cells #[.int .i64 2, .int .i64 1, .string e0] 25)
  have m4 := Box3.new w6 2 1 e0 25
  have B6 : Below w.heap.size w w6 := (B3.alloc B3.size (.cells #[.int .i64 1, .int .i64 5, .string e0] 25)).trans (b46.mono (by simp; omega))
  have B7 := B6.alloc B6.size (.cells #[.int .i64 2, .int .i64 1, .string e0] 25)
  clear b4 b5 b6 b46 c2 m3
  go_wp2_with fail
  generalize w6.alloc (.cells #[.int .i64 2, .int .i64 1, .string e0] 25) = X at m6 m4 B7 ⊢
  have k0 := cell_regrown m6.1.1.1
  have k1 := cell_regrown m6.1.2.1
  have k2 := cell_regrown m6.2.1
  have k3 := cell_regrown m4.1.1.1
  have k4 := cell_regrown m4.1.2.1
  have k5 := cell_regrown m4.2.1
  have c5 : ∀ d os, Calls Tryd.prog 20 #[.int .i64 5] (Sort.grow (redrawn X d) os) fun e w'' => e = .returned (.agg #[.int .i64 1, .int .i64 5, .string e0]) ∧ ∃ p : Regrown, w'' = Sort.grow (redrawn X p.d) p.os := fun d os => Calls.regrown_of (num_any 5 _)
  have q1 := eqSame 1 5 e0
  have q2 := eqSame 2 1 e0
  refine wp_region_quiet_below (by kernel_rfl) (by kernel_rfl) ?_
  repeat (first | go_big_quiet_step (with_reducible exact c5 _ _) | quiet_step (with_reducible exact c5 _ _))
  refine wpQuiet_nil ?_
  intro _ hw'
  obtain ⟨⟨dq, osq⟩, hw''⟩ := hw'
  subst hw''
  have hY := below_regrown X dq osq
  change Exit.then _ _ Exit.normal _ (Sort.grow (redrawn X dq) osq)
  generalize Sort.grow (redrawn X dq) osq = Y at hY ⊢
  have B8 : Below w.heap.size w Y := B7.trans (hY.mono B7.size)
  go_wp2
  go_ret
  exact ⟨rfl, B8⟩
end Go.Proofs.YtfghajokmmlijaaDoor
