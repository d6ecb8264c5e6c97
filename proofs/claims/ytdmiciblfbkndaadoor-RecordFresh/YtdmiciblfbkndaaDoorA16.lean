import Derived.Test.YtdmiciblfbkndaaDoorRows
import Derived.WalkKit
import Derived.ProofKit
import Derived.OpenShut
import Derived.ShutString
import Derived.SizedLaws
import Derived.LaidMore
import Derived.Deep.DeepHandedRow
import Derived.Deep.DeepWitnessRowRef
import Derived.Lib.LaidTab
import Derived.Stop.LaidErr
import Derived.Test.YtdmiciblfbkndaaDoorA12
namespace Go.Proofs.YtdmiciblfbkndaaDoor
open Go.ChangeShapes Go.WideShapes Go.ChangeAt Go.RowKit

theorem own : ownKnob Tryd.prog.godebug = none := by kernel_rfl
theorem laidOut : laidOutB Tryd.prog = true := by kernel_rfl
abbrev laidS : List (String × DataW Unit) := [("retrace/record.sums", Rows.laid_retrace_record_sums)]
theorem gSm : Tryd.prog.globalNamed "retrace/record.sums" = some 0 := by kernel_rfl
theorem tSm : (Tryd.prog.globals[0]?).map (·.type) = some 129 := by kernel_rfl
theorem cU32 : Tryd.prog.cellsOf 92 = 1 := by kernel_rfl
theorem cells16 : Tryd.prog.cellsOf 129 = 16 := by kernel_rfl
def sumZ : List Int := [0, 498536548, 997073096, 651767980, 1994146192, 1802195444, 1303535960, 1342533948, 3988292384, 4027552580, 3604390888, 3412177804, 2607071920, 2262029012, 2685067896, 3183342108]
theorem sum_of_laid {W : World} (h : laidMet Tryd.prog laidS W) : SumT W := fun k hk => by
  have q : Lib.TabIs Tryd.prog W "retrace/record.sums" .u32 sumZ := Lib.tabIs_of_head gSm tSm Tryd.underlying129 Tryd.underlying92 cU32 cells16 h
  rw [q.cell gSm k hk]
  have e : ∀ x : Fin 16, sumZ.getD x 0 = ((crcT.getD x 0#32).toNat : Int) := by decide +kernel
  rw [e ⟨k, hk⟩]
noncomputable def laidWorld (os : Os) : World := World.doorLaid Tryd.prog 115 os
set_option maxRecDepth 100000 in
theorem laid_met (os : Os) (args : Array Value) : laidMet Tryd.prog laidS ((laidWorld os).forCall (fun _ _ => 0) ⟨#[], args, []⟩).memory :=
  laidMet_of_run' 8 (by kernel_rfl) (by kernel_rfl)
set_option maxRecDepth 100000 in
theorem laid_vars (os : Os) (args : Array Value) : ((laidWorld os).forCall (fun _ _ => 0) ⟨#[], args, []⟩).variablesRefB Tryd.checked.prog = true := by kernel_rfl
set_option maxRecDepth 100000 in
theorem laid_heap (os : Os) (args : Array Value) : (((laidWorld os).forCall (fun _ _ => 0) ⟨#[], args, []⟩).heap.toList.drop Tryd.checked.prog.globals.size).take ((begin Tryd.checked.prog (fun _ _ => 0) default).world.heap.size - Tryd.checked.prog.globals.size) =
      (begin Tryd.checked.prog (fun _ _ => 0) default).world.heap.toList.drop Tryd.checked.prog.globals.size := by kernel_rfl
end Go.Proofs.YtdmiciblfbkndaaDoor
