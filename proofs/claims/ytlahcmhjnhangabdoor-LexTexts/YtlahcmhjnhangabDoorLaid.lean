import Derived.Test.YtlahcmhjnhangabDoorRows
import Derived.WalkKit
import Derived.ProofKit
import Derived.LaidMore
import Derived.Deep.DeepHandedRow
import Derived.Deep.DeepWitnessRowRef
import Derived.Lib.LaidTab
import Derived.Stop.LaidErr
import Derived.Test.YtlahcmhjnhangabDoorAsW
import Derived.Test.YtlahcmhjnhangabDoorRWord
namespace Go.Proofs.YtlahcmhjnhangabDoor
open Go.ChangeShapes Go.WideShapes Go.ChangeAt Go.RowKit

theorem own : ownKnob Tryd.prog.godebug = none := by kernel_rfl
theorem g0Type : (Tryd.prog.globals[1]?).map (·.type) = some 61 := by kernel_rfl
theorem g2Type : (Tryd.prog.globals[0]?).map (·.type) = some 50 := by kernel_rfl
theorem g6Type : (Tryd.prog.globals[5]?).map (·.type) = some 45 := by kernel_rfl
theorem g7Type : (Tryd.prog.globals[6]?).map (·.type) = some 45 := by kernel_rfl
theorem gSg : Tryd.prog.globalNamed "retrace/lex.signs" = some 0 := by kernel_rfl
theorem gE6 : Tryd.prog.globalNamed "strconv.ErrSyntax" = some 5 := by kernel_rfl
theorem gE7 : Tryd.prog.globalNamed "strconv.ErrRange" = some 6 := by kernel_rfl
theorem cells48 : Tryd.prog.cellsOf 61 = 20 := by kernel_rfl
theorem cells65 : Tryd.prog.cellsOf 50 = 25 := by kernel_rfl
theorem cells9 : Tryd.prog.cellsOf 9 = 1 := by kernel_rfl
theorem cells98 : Tryd.prog.cellsOf 89 = 1 := by kernel_rfl
theorem star : "*" ++ "errors.errorString" = "*errors.errorString" := by decide
theorem row96 (u : TypeId) (h : Tryd.prog.typeName? 3 u = some "*errors.errorString") : u = 87 :=
  typeName_ptr_named (nm := "errors.errorString") (by rw [star]; kernel_rfl) (by kernel_rfl) (by decide) u (by rw [star]; exact h)

abbrev laid9 : List (String × DataW Unit) := [("math/bits.deBruijn32tab", Rows.laid_math_bits_deBruijn32tab), ("math/bits.deBruijn64tab", Rows.laid_math_bits_deBruijn64tab), ("internal/strconv.uint64pow10", Rows.laid_internal_strconv_uint64pow10), ("strconv.ErrRange", Rows.laid_strconv_ErrRange), ("strconv.ErrSyntax", Rows.laid_strconv_ErrSyntax), ("retrace/retraceref02.keywords", Rows.laid_retrace_retraceref02_keywords), ("retrace/retraceref02.signs", Rows.laid_retrace_retraceref02_signs), ("retrace/lex.keywords", Rows.laid_retrace_lex_keywords), ("retrace/lex.signs", Rows.laid_retrace_lex_signs)]

theorem g1Type : (Tryd.prog.globals[4]?).map (·.type) = some 61 := by kernel_rfl
theorem g3Type : (Tryd.prog.globals[2]?).map (·.type) = some 50 := by kernel_rfl
theorem gSg2 : Tryd.prog.globalNamed "retrace/retraceref02.signs" = some 2 := by kernel_rfl

theorem g3Type10 : (Tryd.prog.globals[3]?).map (·.type) = some 68 := by kernel_rfl
theorem gP10 : Tryd.prog.globalNamed "internal/strconv.uint64pow10" = some 3 := by kernel_rfl
theorem cells68 : Tryd.prog.cellsOf 68 = 20 := by kernel_rfl
theorem cells55 : Tryd.prog.cellsOf 55 = 1 := by kernel_rfl

theorem tabs_of_laid9 {W : World} (h : laidMet Tryd.prog laid9 W) : Tabs W ∧ RTabs W ∧ Tab10 W := by
  have h3 := h.tail.tail.tail
  obtain ⟨a7, _, hv7, _⟩ := laid_sentinel h3 gE7 g7Type Tryd.underlying45 row96 Tryd.underlying87 Tryd.underlying89 rfl rfl Tryd.underlying9 cells98 cells9
  obtain ⟨a6, _, hv6, _⟩ := laid_sentinel h3.tail gE6 g6Type Tryd.underlying45 row96 Tryd.underlying87 Tryd.underlying89 rfl rfl Tryd.underlying9 cells98 cells9
  have hk2 : StrIs Tryd.prog W "retrace/retraceref02.keywords" kws := strIs_of_head gKw2 g1Type Tryd.underlying61 Tryd.underlying9 cells9 cells48 h3.tail.tail
  have hg2 : StrIs Tryd.prog W "retrace/retraceref02.signs" sgs := strIs_of_head gSg2 g3Type Tryd.underlying50 Tryd.underlying9 cells9 cells65 h3.tail.tail.tail
  have hk : StrIs Tryd.prog W "retrace/lex.keywords" kws := strIs_of_head (rest := [("retrace/lex.signs", Rows.laid_retrace_lex_signs)]) gKw g0Type Tryd.underlying61 Tryd.underlying9 cells9 cells48 h3.tail.tail.tail.tail
  have hg : StrIs Tryd.prog W "retrace/lex.signs" sgs := strIs_of_head (rest := []) gSg g2Type Tryd.underlying50 Tryd.underlying9 cells9 cells65 h3.tail.tail.tail.tail.tail
  refine ⟨⟨kw_range hk, ?_, ⟨_, _, World.var?_cell gE6 hv6 0⟩, ⟨_, _, World.var?_cell gE7 hv7 0⟩⟩, ⟨fun j hj => hk2.cell gKw2 j hj, fun j hj => hg2.cell gSg2 j hj⟩, Lib.tabIs_of_head gP10 g3Type10 Tryd.underlying68 Tryd.underlying55 cells55 cells68 h.tail.tail⟩
  intro j v hv
  have hj : j < sgs.length := by have := (List.getElem?_eq_some_iff.1 hv).1; simpa [sgCells] using this
  rw [Nat.zero_add, hg.cell gSg j hj]
  simp only [sgCells, List.getElem?_map, List.getElem?_eq_getElem hj, Option.map_some, Option.some.injEq] at hv
  rw [← hv, List.getD_eq_getElem?_getD, List.getElem?_eq_getElem hj]
  rfl

noncomputable def laidWorld (os : Os) : World := World.doorLaid Tryd.prog 82 os
theorem laid_met9 (os : Os) (args : Array Value) : laidMet Tryd.prog laid9 ((laidWorld os).forCall (fun _ _ => 0) ⟨#[], args, []⟩).memory :=
  laidMet_of_run' 8 (by kernel_rfl) (by kernel_rfl)

theorem laid_vars (os : Os) (args : Array Value) : ((laidWorld os).forCall (fun _ _ => 0) ⟨#[], args, []⟩).variablesRefB Tryd.checked.prog = true := by kernel_rfl
theorem laid_heap (os : Os) (args : Array Value) : (((laidWorld os).forCall (fun _ _ => 0) ⟨#[], args, []⟩).heap.toList.drop Tryd.checked.prog.globals.size).take ((begin Tryd.checked.prog (fun _ _ => 0) default).world.heap.size - Tryd.checked.prog.globals.size) =
      (begin Tryd.checked.prog (fun _ _ => 0) default).world.heap.toList.drop Tryd.checked.prog.globals.size := by kernel_rfl
end Go.Proofs.YtlahcmhjnhangabDoor
