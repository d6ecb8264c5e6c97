import Derived.Test.YtfghajokmmlijaaDoorRows
import Derived.WalkKit
import Derived.ProofKit
import Derived.LaidMore
import Derived.Deep.DeepHandedRow
import Derived.Deep.DeepWitnessRowRef
import Derived.Lib.LaidTab
import Derived.Stop.LaidErr
import Derived.Test.YtfghajokmmlijaaDoorShow
import Derived.Test.YtfghajokmmlijaaDoorOpen
namespace Go.Proofs.YtfghajokmmlijaaDoor
open Go.ChangeShapes Go.WideShapes Go.ChangeAt Go.RowKit

abbrev laid3 : List (String × DataW Unit) := [("math/bits.deBruijn32tab", Rows.laid_math_bits_deBruijn32tab), ("math/bits.deBruijn64tab", Rows.laid_math_bits_deBruijn64tab), ("internal/strconv.uint64pow10", Rows.laid_internal_strconv_uint64pow10)]
theorem g10Type : (Tryd.prog.globals[0]?).map (·.type) = some 70 := by kernel_rfl
theorem gP10 : Tryd.prog.globalNamed "internal/strconv.uint64pow10" = some 0 := by kernel_rfl
theorem cells10 : Tryd.prog.cellsOf 70 = 20 := by kernel_rfl
theorem cellsU : Tryd.prog.cellsOf 49 = 1 := by kernel_rfl
theorem tabs_of_laid3 {W : World} (h : laidMet Tryd.prog laid3 W) : Tab10 W := Lib.tabIs_of_head (rest := []) gP10 g10Type Tryd.underlying70 Tryd.underlying49 cellsU cells10 h.tail.tail

noncomputable def laidWorld (os : Os) : World := World.doorLaid Tryd.prog 87 os
theorem laid_met3 (os : Os) (args : Array Value) : laidMet Tryd.prog laid3 ((laidWorld os).forCall (fun _ _ => 0) ⟨#[], args, []⟩).memory :=
  laidMet_of_run' 8 (by kernel_rfl) (by kernel_rfl)
theorem laid_vars (os : Os) (args : Array Value) : ((laidWorld os).forCall (fun _ _ => 0) ⟨#[], args, []⟩).variablesRefB Tryd.checked.prog = true := by kernel_rfl
theorem laid_heap (os : Os) (args : Array Value) : (((laidWorld os).forCall (fun _ _ => 0) ⟨#[], args, []⟩).heap.toList.drop Tryd.checked.prog.globals.size).take ((begin Tryd.checked.prog (fun _ _ => 0) default).world.heap.size - Tryd.checked.prog.globals.size) =
      (begin Tryd.checked.prog (fun _ _ => 0) default).world.heap.toList.drop Tryd.checked.prog.globals.size := by kernel_rfl
end Go.Proofs.YtfghajokmmlijaaDoor
