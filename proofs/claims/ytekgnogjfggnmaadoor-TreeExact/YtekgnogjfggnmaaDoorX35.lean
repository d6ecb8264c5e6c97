import Derived.Test.YtekgnogjfggnmaaDoorRows
import Derived.WalkKit
import Derived.ProofKit
import Derived.LaidMore
import Derived.Deep.DeepHandedRow
import Derived.Deep.DeepWitnessRowRef
import Derived.Lib.LaidTab
import Derived.Test.YtekgnogjfggnmaaDoorX17
namespace Go.Proofs.YtekgnogjfggnmaaDoor
open Go.ChangeShapes Go.WideShapes Go.ChangeAt Go.RowKit

theorem own : ownKnob Tryd.prog.godebug = none := by kernel_rfl
theorem g3Type : (Tryd.prog.globals[3]?).map (·.type) = some 96 := by kernel_rfl
theorem cells96 : Tryd.prog.cellsOf 96 = 20 := by kernel_rfl
theorem cells9 : Tryd.prog.cellsOf 9 = 1 := by kernel_rfl

abbrev laid1 : List (String × DataW Unit) := [("retrace/lex.keywords", Rows.laid_retrace_lex_keywords)]

theorem kw_of_laid {W : World} (h : laidMet Tryd.prog laid1 W) : KwAt W := by
  have hk : StrIs Tryd.prog W "retrace/lex.keywords" kws := strIs_of_head (rest := []) gKw g3Type Tryd.underlying96 Tryd.underlying9 cells9 cells96 h
  refine ⟨kw_range hk, ?_⟩
  exact World.block_lt_of_cell? W ⟨3, 0, none⟩ (hk.cell gKw 0 (by decide))

noncomputable def laidWorld (os : Os) : World := World.doorLaid Tryd.prog 44 os
set_option maxRecDepth 100000 in
theorem laid_met (os : Os) (args : Array Value) : laidMet Tryd.prog laid1 ((laidWorld os).forCall (fun _ _ => 0) ⟨#[], args, []⟩).memory :=
  laidMet_of_run' 8 (by kernel_rfl) (by kernel_rfl)
set_option maxRecDepth 100000 in
theorem laid_vars (os : Os) (args : Array Value) : ((laidWorld os).forCall (fun _ _ => 0) ⟨#[], args, []⟩).variablesRefB Tryd.checked.prog = true := by kernel_rfl
set_option maxRecDepth 100000 in
theorem laid_heap (os : Os) (args : Array Value) : (((laidWorld os).forCall (fun _ _ => 0) ⟨#[], args, []⟩).heap.toList.drop Tryd.checked.prog.globals.size).take ((begin Tryd.checked.prog (fun _ _ => 0) default).world.heap.size - Tryd.checked.prog.globals.size) =
      (begin Tryd.checked.prog (fun _ _ => 0) default).world.heap.toList.drop Tryd.checked.prog.globals.size := by kernel_rfl
end Go.Proofs.YtekgnogjfggnmaaDoor
