import Derived.Test.YtdcaonfnhdjibaaDoorVPg
import Derived.Recover
import Derived.Defers
namespace Go.Proofs.YtdcaonfnhdjibaaDoor
open Go.RowKit

/-! What was recovered is read. -/
abbrev rfV (k a : Int) : Value := .iface 89 (.agg #[.int .i64 k, .int .i64 a])
theorem taR (k a : Int) (w : World) : (Instr.typeAssert (rfV k a) 20 89 true).run Tryd.prog w = .ok (.tuple #[.agg #[.int .i64 k, .int .i64 a], .bool true]) w := by kernel_rfl
theorem eqR (k a : Int) (w : World) : (binOp BinOp.eql 20 (rfV k a) .nilIface).run Tryd.prog w = .ok (.bool false) w := by kernel_rfl
theorem eqN (w : World) : (binOp BinOp.eql 20 .nilIface .nilIface).run Tryd.prog w = .ok (.bool true) w := by kernel_rfl
set_option maxRecDepth 100000 in
set_option maxHeartbeats 1000000 in
theorem reason_no (w : World) : Calls Tryd.prog 27 #[.nilIface] w fun e w' => e = .returned (.tuple #[.int .i64 0, .int .i64 0]) ∧ w' = w := by
  have h1 := eqN
  go_enter Tryd.func27, Tryd.ntmps27
  go_wp2
  go_ret2
  exact ⟨rfl, rfl⟩
set_option maxRecDepth 100000 in
set_option maxHeartbeats 1000000 in
theorem reason_yes (k a : Int) (w : World) : Calls Tryd.prog 27 #[rfV k a] w fun e w' => e = .returned (.tuple #[.int .i64 k, .int .i64 a]) ∧ Below w.heap.size w w' := by
  have h1 := eqR k a
  have h2 := taR k a
  have B1 : Below w.heap.size w (w.alloc (.cells #[.int .i64 k, .int .i64 a] 89)) := (Below.refl _ w).alloc (Nat.le_refl _) _
  have F1 : Full (w.alloc (.cells #[.int .i64 k, .int .i64 a] 89)) w.heap.size 89 [.int .i64 k, .int .i64 a] := Full.new w _ _
  have x0 := (F1.cell 0 _ rfl).1
  have x1 := (F1.cell 1 _ rfl).1
  clear F1
  unfold rfV at h1 h2 ⊢
  go_enter Tryd.func27, Tryd.ntmps27
  go_upto_region 4 with fail
  generalize w.alloc (.cells #[.int .i64 k, .int .i64 a] 89) = X at *
  go_upto_region 5 with fail
  go_region
  go_wp2
  go_ret2
  exact ⟨rfl, B1.drew⟩

/-! The deferred closures. -/
set_option maxRecDepth 100000 in
set_option maxHeartbeats 1000000 in
theorem catch_yes (A B : Nat) (k a : Int) (x y : Value) (w : World) (hA : w.cell? ⟨A, 0, none⟩ = some x) (hB : w.cell? ⟨B, 0, none⟩ = some y) (fA : w.frozen? ⟨A, 0, none⟩ = false) (fB : w.frozen? ⟨B, 0, none⟩ = false) (hne : A ≠ B) :
    CallsD Tryd.prog 37 #[.pointer (some ⟨A, 0, none⟩), .pointer (some ⟨B, 0, none⟩)] (.panicking [{ v := rfV k a, recovered := false }]) w fun e u' w' =>
      e = .returned (.tuple #[]) ∧ u' = .panicking [{ v := rfV k a, recovered := true }] ∧ ∃ W, Below w.heap.size w W ∧ w' = (W.setCell ⟨A, 0, none⟩ (.int .i64 k)).setCell ⟨B, 0, none⟩ (.int .i64 a) := by
  refine callsD_of_wpS Tryd.func37 rfl fun c₀ cs hu => ?_
  apply wpS_region
  have cA : ∀ W, Below w.heap.size w W → W.cell? ⟨A, 0, none⟩ = some x := fun W hb => (hb.cell (p := ⟨A, 0, none⟩) (block_lt_of_cell hA)).trans hA
  have cB : ∀ W, Below w.heap.size w W → ∀ v, (W.setCell ⟨A, 0, none⟩ v).cell? ⟨B, 0, none⟩ = some y := fun W hb v => by
    rw [World.cell?_setCell_other _ _ _ _ (fun e => hne (by cases e; rfl))]
    exact (hb.cell (p := ⟨B, 0, none⟩) (block_lt_of_cell hB)).trans hB
  have gA : ∀ W, Below w.heap.size w W → W.frozen? ⟨A, 0, none⟩ = false := fun W hb => (hb.frozen (p := ⟨A, 0, none⟩) (block_lt_of_cell hA)).trans fA
  have gB : ∀ W, Below w.heap.size w W → W.frozen? ⟨B, 0, none⟩ = false := fun W hb => (hb.frozen (p := ⟨B, 0, none⟩) (block_lt_of_cell hB)).trans fB
  simp [wpOpsS, go_sem, recoverD, hu, Tryd.ntmps37]
  refine (reason_yes k a w).mono ?_
  rintro e W ⟨rfl, hb⟩
  have k1 := cA W hb
  have k2 := cB W hb
  have k3 := gA W hb
  have k4 := gB W hb
  simp [go_sem, k1, k2, k3, k4, bodyPostS, results, Tryd.results37]
  exact ⟨W, hb, rfl⟩
set_option maxRecDepth 100000 in
set_option maxHeartbeats 1000000 in
theorem catch_no (A B : Nat) (x y : Value) (w : World) (hA : w.cell? ⟨A, 0, none⟩ = some x) (hB : w.cell? ⟨B, 0, none⟩ = some y) (fA : w.frozen? ⟨A, 0, none⟩ = false) (fB : w.frozen? ⟨B, 0, none⟩ = false) (hne : A ≠ B) :
    CallsD Tryd.prog 37 #[.pointer (some ⟨A, 0, none⟩), .pointer (some ⟨B, 0, none⟩)] .returning w fun e u' w' =>
      e = .returned (.tuple #[]) ∧ u' = .returning ∧ w' = (w.setCell ⟨A, 0, none⟩ (.int .i64 0)).setCell ⟨B, 0, none⟩ (.int .i64 0) := by
  refine callsD_of_wpS Tryd.func37 rfl fun c₀ cs hu => ?_
  apply wpS_region
  have cB : ∀ v, (w.setCell ⟨A, 0, none⟩ v).cell? ⟨B, 0, none⟩ = some y := fun v => by
    rw [World.cell?_setCell_other _ _ _ _ (fun e => hne (by cases e; rfl))]
    exact hB
  simp [wpOpsS, go_sem, recoverD, hu, Tryd.ntmps37]
  refine (reason_no w).mono ?_
  rintro e W ⟨rfl, rfl⟩
  cases c₀
  simp_all [go_sem, bodyPostS, results, Tryd.results37]
set_option maxRecDepth 100000 in
set_option maxHeartbeats 1000000 in
theorem catchS_yes (A : Nat) (k a : Int) (x : Value) (w : World) (hA : w.cell? ⟨A, 0, none⟩ = some x) (fA : w.frozen? ⟨A, 0, none⟩ = false) :
    CallsD Tryd.prog 26 #[.pointer (some ⟨A, 0, none⟩)] (.panicking [{ v := rfV k a, recovered := false }]) w fun e u' w' =>
      e = .returned (.tuple #[]) ∧ u' = .panicking [{ v := rfV k a, recovered := true }] ∧ ∃ W, Below w.heap.size w W ∧ w' = W.setCell ⟨A, 0, none⟩ (.int .i64 k) := by
  refine callsD_of_wpS Tryd.func26 rfl fun c₀ cs hu => ?_
  apply wpS_region
  have cA : ∀ W, Below w.heap.size w W → W.cell? ⟨A, 0, none⟩ = some x := fun W hb => (hb.cell (p := ⟨A, 0, none⟩) (block_lt_of_cell hA)).trans hA
  have gA : ∀ W, Below w.heap.size w W → W.frozen? ⟨A, 0, none⟩ = false := fun W hb => (hb.frozen (p := ⟨A, 0, none⟩) (block_lt_of_cell hA)).trans fA
  simp [wpOpsS, go_sem, recoverD, hu, Tryd.ntmps26]
  refine (reason_yes k a w).mono ?_
  rintro e W ⟨rfl, hb⟩
  have k1 := cA W hb
  have k3 := gA W hb
  simp [go_sem, k1, k3, bodyPostS, results, Tryd.results26]
  exact ⟨W, hb, rfl⟩
set_option maxRecDepth 100000 in
set_option maxHeartbeats 1000000 in
theorem catchS_no (A : Nat) (x : Value) (w : World) (hA : w.cell? ⟨A, 0, none⟩ = some x) (fA : w.frozen? ⟨A, 0, none⟩ = false) :
    CallsD Tryd.prog 26 #[.pointer (some ⟨A, 0, none⟩)] .returning w fun e u' w' =>
      e = .returned (.tuple #[]) ∧ u' = .returning ∧ w' = w.setCell ⟨A, 0, none⟩ (.int .i64 0) := by
  refine callsD_of_wpS Tryd.func26 rfl fun c₀ cs hu => ?_
  apply wpS_region
  simp [wpOpsS, go_sem, recoverD, hu, Tryd.ntmps26]
  refine (reason_no w).mono ?_
  rintro e W ⟨rfl, rfl⟩
  cases c₀
  simp_all [go_sem, bodyPostS, results, Tryd.results26]
end Go.Proofs.YtdcaonfnhdjibaaDoor
