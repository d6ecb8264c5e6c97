import Derived.Stop.LaidErr
import Derived.Test.YtekgnogjfggnmaaDoorX35
import Derived.Test.YtekgnogjfggnmaaDoorX41
namespace Go.Proofs.YtekgnogjfggnmaaDoor
open Go.ChangeShapes Go.WideShapes Go.ChangeAt Go.RowKit

theorem g0Type : (Tryd.prog.globals[0]?).map (·.type) = some 88 := by kernel_rfl
theorem g1Type : (Tryd.prog.globals[1]?).map (·.type) = some 91 := by kernel_rfl
theorem g2Type : (Tryd.prog.globals[2]?).map (·.type) = some 96 := by kernel_rfl
theorem gWd : Tryd.prog.globalNamed "retrace/tree.words" = some 0 := by kernel_rfl
theorem gSg : Tryd.prog.globalNamed "retrace/tree.signs" = some 1 := by kernel_rfl
theorem gRk : Tryd.prog.globalNamed "retrace/retraceref02.keywords" = some 2 := by kernel_rfl
theorem cells88 : Tryd.prog.cellsOf 88 = 31 := by kernel_rfl
theorem cells91 : Tryd.prog.cellsOf 91 = 16 := by kernel_rfl

abbrev laidE : List (String × DataW Unit) := [("math/bits.deBruijn32tab", Rows.laid_math_bits_deBruijn32tab), ("math/bits.deBruijn64tab", Rows.laid_math_bits_deBruijn64tab), ("internal/strconv.uint64pow10", Rows.laid_internal_strconv_uint64pow10), ("retrace/retraceref02.keywords", Rows.laid_retrace_retraceref02_keywords), ("retrace/lex.keywords", Rows.laid_retrace_lex_keywords), ("retrace/tree.words", Rows.laid_retrace_tree_words), ("retrace/tree.signs", Rows.laid_retrace_tree_signs)]

theorem g4Type : (Tryd.prog.globals[4]?).map (·.type) = some 108 := by kernel_rfl
theorem cells98 : Tryd.prog.cellsOf 98 = 1 := by kernel_rfl
theorem cells108 : Tryd.prog.cellsOf 108 = 20 := by kernel_rfl

theorem tbs_of_laid {W : World} (h : laidMet Tryd.prog laidE W) (h6 : 7 ≤ W.heap.size) : Tbs W := by
  have h3 := h.tail.tail.tail
  have hr : StrIs Tryd.prog W "retrace/retraceref02.keywords" kws := strIs_of_head gRk g2Type Tryd.underlying96 Tryd.underlying9 cells9 cells96 h3
  have hk : StrIs Tryd.prog W "retrace/lex.keywords" kws := strIs_of_head gKw g3Type Tryd.underlying96 Tryd.underlying9 cells9 cells96 h3.tail
  have hw : StrIs Tryd.prog W "retrace/tree.words" wds := strIs_of_head gWd g0Type Tryd.underlying88 Tryd.underlying9 cells9 cells88 h3.tail.tail
  have hs : StrIs Tryd.prog W "retrace/tree.signs" sgT := strIs_of_head (rest := []) gSg g1Type Tryd.underlying91 Tryd.underlying9 cells9 cells91 h3.tail.tail.tail
  exact ⟨⟨kw_range hk, by omega⟩, fun j hj => hr.cell gRk j hj, ⟨fun k hk => hw.cell gWd k hk, fun k hk => hs.cell gSg k hk, Lib.tabIs_of_head g10 g4Type Tryd.underlying108 Tryd.underlying98 cells98 cells108 h.tail.tail⟩⟩

theorem gB64 : Tryd.prog.globalNamed "math/bits.deBruijn64tab" = some 6 := by kernel_rfl
theorem g6Type : (Tryd.prog.globals[6]?).map (·.type) = some 114 := by kernel_rfl
/-- The last variable lies in memory: so all do. -/
theorem seven_of_laid {W : World} (h : laidMet Tryd.prog laidE W) : 7 ≤ W.heap.size := by
  obtain ⟨ps, ⟨g', t', cs, fuel, p, q, hg', ht', hvar, hd, _, _⟩, _⟩ := h.tail
  obtain rfl := Option.some.inj (gB64.symm.trans hg')
  unfold World.var? at hvar
  simp only [gB64, Option.bind_some] at hvar
  rcases Nat.lt_or_ge 6 W.heap.size with h' | h'
  · exact h'
  · simp [Array.getElem?_eq_none h'] at hvar

set_option maxRecDepth 100000 in
theorem laidE_met (os : Os) (args : Array Value) : laidMet Tryd.prog laidE ((laidWorld os).forCall (fun _ _ => 0) ⟨#[], args, []⟩).memory :=
  laidMet_of_run' 8 (by kernel_rfl) (by kernel_rfl)
end Go.Proofs.YtekgnogjfggnmaaDoor
