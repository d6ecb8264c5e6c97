import Derived.Test.YtlahcmhjnhangaaDoorRows
import Derived.WalkKit
import Derived.ProofKit
import Derived.LaidMore
import Derived.Deep.DeepHandedRow
import Derived.Deep.DeepWitnessRowRef
import Derived.Lib.LaidTab
import Derived.Stop.LaidErr
import Derived.Test.YtlahcmhjnhangaaDoorTabs
namespace Go.Proofs.YtlahcmhjnhangaaDoor
open Go.ChangeShapes Go.WideShapes Go.ChangeAt Go.RowKit

theorem own : ownKnob Tryd.prog.godebug = none := by kernel_rfl
theorem g0Type : (Tryd.prog.globals[0]?).map (·.type) = some 48 := by kernel_rfl
theorem g2Type : (Tryd.prog.globals[2]?).map (·.type) = some 65 := by kernel_rfl
theorem g6Type : (Tryd.prog.globals[6]?).map (·.type) = some 60 := by kernel_rfl
theorem g7Type : (Tryd.prog.globals[7]?).map (·.type) = some 60 := by kernel_rfl
theorem gSg : Tryd.prog.globalNamed "retrace/lex.signs" = some 2 := by kernel_rfl
theorem gE6 : Tryd.prog.globalNamed "strconv.ErrSyntax" = some 6 := by kernel_rfl
theorem gE7 : Tryd.prog.globalNamed "strconv.ErrRange" = some 7 := by kernel_rfl
theorem cells48 : Tryd.prog.cellsOf 48 = 20 := by kernel_rfl
theorem cells65 : Tryd.prog.cellsOf 65 = 25 := by kernel_rfl
theorem cells9 : Tryd.prog.cellsOf 9 = 1 := by kernel_rfl
theorem cells98 : Tryd.prog.cellsOf 98 = 1 := by kernel_rfl
theorem star : "*" ++ "errors.errorString" = "*errors.errorString" := by decide
theorem row96 (u : TypeId) (h : Tryd.prog.typeName? 3 u = some "*errors.errorString") : u = 96 :=
  typeName_ptr_named (nm := "errors.errorString") (by rw [star]; kernel_rfl) (by kernel_rfl) (by decide) u (by rw [star]; exact h)

abbrev laid7 : List (String × DataW Unit) := [("math/bits.deBruijn32tab", Rows.laid_math_bits_deBruijn32tab), ("math/bits.deBruijn64tab", Rows.laid_math_bits_deBruijn64tab), ("internal/strconv.uint64pow10", Rows.laid_internal_strconv_uint64pow10), ("strconv.ErrRange", Rows.laid_strconv_ErrRange), ("strconv.ErrSyntax", Rows.laid_strconv_ErrSyntax), ("retrace/lex.keywords", Rows.laid_retrace_lex_keywords), ("retrace/lex.signs", Rows.laid_retrace_lex_signs)]

theorem tabs_of_laid {W : World} (h : laidMet Tryd.prog laid7 W) : Tabs W := by
  have h3 := h.tail.tail.tail
  obtain ⟨a7, _, hv7, _⟩ := laid_sentinel h3 gE7 g7Type Tryd.underlying60 row96 Tryd.underlying96 Tryd.underlying98 rfl rfl Tryd.underlying9 cells98 cells9
  obtain ⟨a6, _, hv6, _⟩ := laid_sentinel h3.tail gE6 g6Type Tryd.underlying60 row96 Tryd.underlying96 Tryd.underlying98 rfl rfl Tryd.underlying9 cells98 cells9
  have hk : StrIs Tryd.prog W "retrace/lex.keywords" kws := strIs_of_head (rest := [("retrace/lex.signs", Rows.laid_retrace_lex_signs)]) gKw g0Type Tryd.underlying48 Tryd.underlying9 cells9 cells48 h3.tail.tail
  have hg : StrIs Tryd.prog W "retrace/lex.signs" sgs := strIs_of_head (rest := []) gSg g2Type Tryd.underlying65 Tryd.underlying9 cells9 cells65 h3.tail.tail.tail
  refine ⟨kw_range hk, ?_, ⟨_, _, World.var?_cell gE6 hv6 0⟩, ⟨_, _, World.var?_cell gE7 hv7 0⟩⟩
  intro j v hv
  have hj : j < sgs.length := by have := (List.getElem?_eq_some_iff.1 hv).1; simpa [sgCells] using this
  rw [Nat.zero_add, hg.cell gSg j hj]
  simp only [sgCells, List.getElem?_map, List.getElem?_eq_getElem hj, Option.map_some, Option.some.injEq] at hv
  rw [← hv, List.getD_eq_getElem?_getD, List.getElem?_eq_getElem hj]
  rfl

noncomputable def laidWorld (os : Os) : World := World.doorLaid Tryd.prog 82 os
theorem laid_met (os : Os) (args : Array Value) : laidMet Tryd.prog laid7 ((laidWorld os).forCall (fun _ _ => 0) ⟨#[], args, []⟩).memory :=
  laidMet_of_run' 8 (by kernel_rfl) (by kernel_rfl)
theorem laid_vars (os : Os) (args : Array Value) : ((laidWorld os).forCall (fun _ _ => 0) ⟨#[], args, []⟩).variablesRefB Tryd.checked.prog = true := by kernel_rfl
theorem laid_heap (os : Os) (args : Array Value) : (((laidWorld os).forCall (fun _ _ => 0) ⟨#[], args, []⟩).heap.toList.drop Tryd.checked.prog.globals.size).take ((begin Tryd.checked.prog (fun _ _ => 0) default).world.heap.size - Tryd.checked.prog.globals.size) =
      (begin Tryd.checked.prog (fun _ _ => 0) default).world.heap.toList.drop Tryd.checked.prog.globals.size := by kernel_rfl
end Go.Proofs.YtlahcmhjnhangaaDoor
