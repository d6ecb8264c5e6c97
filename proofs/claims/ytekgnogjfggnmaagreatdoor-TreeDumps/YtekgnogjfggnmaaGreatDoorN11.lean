import Derived.LaidEql
import Derived.Test.YtekgnogjfggnmaaGreatDoorN10
namespace Go.Proofs.YtekgnogjfggnmaaGreatDoor
open Go.RowKit
set_option maxRecDepth 100000
theorem eqSent (q : Addr) (w : World) : (binOp BinOp.eql 20 (.iface 169 (.pointer (some q))) (.iface 169 (.pointer (some q)))).run Tryz.prog w = .ok (.bool true) w := by
 have h1 : (Tryz.prog.info? 169).map (·.comparable) = some true := by kernel_rfl
 have h2 : (Tryz.prog.info? 171).isSome = true := by kernel_rfl
 obtain ⟨i, hi, hc⟩ := Option.map_eq_some_iff.1 h1
 obtain ⟨j, hj⟩ := Option.isSome_iff_exists.1 h2
 exact run_eql_iface_ptr_same w q Tryz.underlying20 Tryz.underlying169 hi hc hj
theorem catch_panicking (A B : Nat) (x y : Value) (q : Addr) (w : World) (hn : w.cell? ⟨0, 0, none⟩ = some (.iface 169 (.pointer (some q)))) (hA : w.cell? ⟨A, 0, none⟩ = some x) (hB : w.cell? ⟨B, 0, none⟩ = some y) (fA : w.frozen? ⟨A, 0, none⟩ = false) (fB : w.frozen? ⟨B, 0, none⟩ = false) (hne : A ≠ B) :
 CallsD Tryz.prog 18 #[.pointer (some ⟨A, 0, none⟩), .pointer (some ⟨B, 0, none⟩)] (.panicking [{ v := .iface 169 (.pointer (some q)), recovered := false }]) w fun e u' w' =>
  e = .returned (.tuple #[]) ∧ u' = .panicking [{ v := .iface 169 (.pointer (some q)), recovered := true }] ∧ w' = (w.setCell ⟨A, 0, none⟩ (.slice none 0 0)).setCell ⟨B, 0, none⟩ (.int .i64 31) := by
 refine callsD_of_wpS Tryz.func18 rfl fun c₀ cs hu => ?_
 apply wpS_seq
 apply wpS_region
 simp [wpOpsS, go_sem, recoverD, hu, Tryz.ntmps18, Exit.thenS]
 apply wpS_seq
 apply wpS_region
 simp [wpOpsS, go_sem, hn, Exit.thenS, eqSent]
 refine wpS_cond (t := true) (by rfl) ?_
 simp only [if_true]
 apply wpS_region
 have hB2 : ∀ v, (w.setCell ⟨A, 0, none⟩ v).cell? ⟨B, 0, none⟩ = some y := fun v => by
  rw [World.cell?_setCell_other _ _ _ _ (fun e => hne (by cases e; rfl))]
  exact hB
 simp [wpOpsS, go_sem, hA, fA, fB, hB2, bodyPostS, results, Tryz.results18]
theorem catch_idle (A B : Nat) (q : Addr) (w : World) (hn : w.cell? ⟨0, 0, none⟩ = some (.iface 169 (.pointer (some q)))) :
 CallsD Tryz.prog 18 #[.pointer (some ⟨A, 0, none⟩), .pointer (some ⟨B, 0, none⟩)] .returning w fun e u' w' => e = .returned (.tuple #[]) ∧ u' = .returning ∧ w' = w := by
 refine callsD_of_wpS Tryz.func18 rfl fun c₀ cs hu => ?_
 apply wpS_seq
 apply wpS_region
 simp [wpOpsS, go_sem, recoverD, hu, Tryz.ntmps18, Exit.thenS]
 apply wpS_seq
 apply wpS_region
 simp [wpOpsS, go_sem, hn, Exit.thenS]
 refine wpS_cond (t := false) (by rfl) ?_
 simp only [Bool.false_eq_true, if_false]
 apply wpS_seq
 apply wpS_region
 simp [wpOpsS, go_sem, Exit.thenS]
 refine wpS_cond (t := false) (by rfl) ?_
 simp only [Bool.false_eq_true, if_false]
 refine wpS_of_wp (wp_skip ?_)
 cases c₀
 simp_all [bodyPostS, results, Tryz.results18]
end Go.Proofs.YtekgnogjfggnmaaGreatDoor
