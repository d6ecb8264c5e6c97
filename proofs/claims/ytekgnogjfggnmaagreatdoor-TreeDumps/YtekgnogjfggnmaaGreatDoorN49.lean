import Derived.Test.YtekgnogjfggnmaaGreatDoorRows
import Derived.LaidMore
import Derived.Lay
import Derived.Deep.DeepWitnessRowRef
import Derived.Stop.LaidErr
import Derived.Test.YtekgnogjfggnmaaGreatDoorN43
namespace Go.Proofs.YtekgnogjfggnmaaGreatDoor
open Go.ChangeShapes Go.WideShapes Go.ChangeAt Go.RowKit
set_option maxRecDepth 100000
theorem own : ownKnob Tryz.prog.godebug = none := by kernel_rfl
theorem g0Type : (Tryz.prog.globals[0]?).map (·.type) = some 50 := by kernel_rfl
theorem g1Type : (Tryz.prog.globals[1]?).map (·.type) = some 67 := by kernel_rfl
theorem g2Type : (Tryz.prog.globals[2]?).map (·.type) = some 70 := by kernel_rfl
theorem g3Type : (Tryz.prog.globals[3]?).map (·.type) = some 129 := by kernel_rfl
theorem g6Type : (Tryz.prog.globals[6]?).map (·.type) = some 139 := by kernel_rfl
theorem g10Type : (Tryz.prog.globals[10]?).map (·.type) = some 50 := by kernel_rfl
theorem g11Type : (Tryz.prog.globals[11]?).map (·.type) = some 50 := by kernel_rfl
theorem g14Type : (Tryz.prog.globals[14]?).map (·.type) = some 152 := by kernel_rfl
theorem gNd : Tryz.prog.globalNamed "retrace/tree.errNoDump" = some 0 := by kernel_rfl
theorem gWd : Tryz.prog.globalNamed "retrace/tree.words" = some 1 := by kernel_rfl
theorem gSg : Tryz.prog.globalNamed "retrace/tree.signs" = some 2 := by kernel_rfl
theorem gLs : Tryz.prog.globalNamed "retrace/lex.signs" = some 14 := by kernel_rfl
theorem gE6 : Tryz.prog.globalNamed "strconv.ErrSyntax" = some 10 := by kernel_rfl
theorem gE7 : Tryz.prog.globalNamed "strconv.ErrRange" = some 11 := by kernel_rfl
theorem cells67 : Tryz.prog.cellsOf 67 = 31 := by kernel_rfl
theorem cells70 : Tryz.prog.cellsOf 70 = 16 := by kernel_rfl
theorem cells129 : Tryz.prog.cellsOf 129 = 20 := by kernel_rfl
theorem cells152 : Tryz.prog.cellsOf 152 = 25 := by kernel_rfl
theorem cells9 : Tryz.prog.cellsOf 9 = 1 := by kernel_rfl
theorem cells105 : Tryz.prog.cellsOf 105 = 1 := by kernel_rfl
theorem cells139 : Tryz.prog.cellsOf 139 = 20 := by kernel_rfl
theorem cells171 : Tryz.prog.cellsOf 171 = 1 := by kernel_rfl
theorem star : "*" ++ "errors.errorString" = "*errors.errorString" := by decide
theorem row169 (u : TypeId) (h : Tryz.prog.typeName? 3 u = some "*errors.errorString") : u = 169 :=
 typeName_ptr_named (nm := "errors.errorString") (by rw [star]; kernel_rfl) (by kernel_rfl) (by decide) u (by rw [star]; exact h)
theorem max_of_shape {W : World} (h : W.ShapedOpen Tryz.prog) : ∃ m, W.cell? ⟨4, 0, none⟩ = some (.int .i64 m) :=
 cell_of_shapedOpen_int (t := 3) (zero := #[.int .i64 0]) h (of_decide_eq_true (by kernel_rfl)) (by kernel_rfl) rfl (by kernel_rfl) (by kernel_rfl) Tryz.underlying3
theorem g5Type : (Tryz.prog.globals[5]?).map (·.type) = some 129 := by kernel_rfl
theorem g7Type : (Tryz.prog.globals[7]?).map (·.type) = some 152 := by kernel_rfl
theorem gRk : Tryz.prog.globalNamed "retrace/retraceref02.keywords" = some 5 := by kernel_rfl
theorem gRs : Tryz.prog.globalNamed "retrace/retraceref02.signs" = some 7 := by kernel_rfl
abbrev laidD : List (String × DataW Unit) := [("math/bits.deBruijn32tab", Rows.laid_math_bits_deBruijn32tab), ("math/bits.deBruijn64tab", Rows.laid_math_bits_deBruijn64tab), ("internal/strconv.uint64pow10", Rows.laid_internal_strconv_uint64pow10), ("unicode/utf8.acceptRanges", Rows.laid_unicode_utf8_acceptRanges), ("strconv.ErrRange", Rows.laid_strconv_ErrRange), ("strconv.ErrSyntax", Rows.laid_strconv_ErrSyntax), ("retrace/retraceref02.keywords", Rows.laid_retrace_retraceref02_keywords), ("retrace/retraceref02.signs", Rows.laid_retrace_retraceref02_signs), ("retrace/lex.keywords", Rows.laid_retrace_lex_keywords), ("retrace/lex.signs", Rows.laid_retrace_lex_signs), ("retrace/tree.errNoDump", Rows.laid_retrace_tree_errNoDump), ("retrace/tree.words", Rows.laid_retrace_tree_words), ("retrace/tree.signs", Rows.laid_retrace_tree_signs), ("unicode/utf8.first", Rows.laid_unicode_utf8_first)]
theorem tabs_of_laidD {W : World} (h : laidMet Tryz.prog laidD W) : ∃ q, RTab W 169 (.pointer (some q)) ∧ KwAt W ∧ RKw W ∧ Lx.RTabs W := by
 have h4 := h.tail.tail.tail.tail
 obtain ⟨a7, _, hv7, _⟩ := laid_sentinel h4 gE7 g11Type Tryz.underlying50 row169 Tryz.underlying169 Tryz.underlying171 rfl rfl Tryz.underlying9 cells171 cells9
 obtain ⟨a6, _, hv6, _⟩ := laid_sentinel h4.tail gE6 g10Type Tryz.underlying50 row169 Tryz.underlying169 Tryz.underlying171 rfl rfl Tryz.underlying9 cells171 cells9
 have h5 := h4.tail.tail
 have hrk : StrIs Tryz.prog W "retrace/retraceref02.keywords" kws := strIs_of_head gRk g5Type Tryz.underlying129 Tryz.underlying9 cells9 cells129 h5
 have hrs : StrIs Tryz.prog W "retrace/retraceref02.signs" Lx.sgs := strIs_of_head gRs g7Type Tryz.underlying152 Tryz.underlying9 cells9 cells152 h5.tail
 have h6 := h5.tail.tail
 obtain ⟨a0, _, hv0, _⟩ := laid_sentinel h6.tail.tail gNd g0Type Tryz.underlying50 row169 Tryz.underlying169 Tryz.underlying171 rfl rfl Tryz.underlying9 cells171 cells9
 have hk : StrIs Tryz.prog W "retrace/lex.keywords" kws := strIs_of_head gKw g3Type Tryz.underlying129 Tryz.underlying9 cells9 cells129 h6
 have hg : StrIs Tryz.prog W "retrace/lex.signs" Lx.sgs := strIs_of_head gLs g14Type Tryz.underlying152 Tryz.underlying9 cells9 cells152 h6.tail
 have hw : StrIs Tryz.prog W "retrace/tree.words" wds := strIs_of_head gWd g1Type Tryz.underlying67 Tryz.underlying9 cells9 cells67 h6.tail.tail.tail
 have hs : StrIs Tryz.prog W "retrace/tree.signs" sgT := strIs_of_head gSg g2Type Tryz.underlying70 Tryz.underlying9 cells9 cells70 h6.tail.tail.tail.tail
 have hls : W.rangeAt 14 0 Lx.sgCells := by
  intro j v hv
  have hj : j < Lx.sgs.length := by have := (List.getElem?_eq_some_iff.1 hv).1; simpa [Lx.sgCells] using this
  rw [Nat.zero_add, hg.cell gLs j hj]
  simp only [Lx.sgCells, List.getElem?_map, List.getElem?_eq_getElem hj, Option.map_some, Option.some.injEq] at hv
  rw [← hv, List.getD_eq_getElem?_getD, List.getElem?_eq_getElem hj]
  rfl
 have hkw := kw_range hk
 refine ⟨a0, ⟨World.var?_cell gNd hv0 0, ⟨fun k hk => hw.cell gWd k hk, fun k hk => hs.cell gSg k hk, Lib.tabIs_of_head g10 g6Type Tryz.underlying139 Tryz.underlying105 cells105 cells139 h.tail.tail⟩, ⟨hkw, hls, ⟨_, _, World.var?_cell gE6 hv6 0⟩, ⟨_, _, World.var?_cell gE7 hv7 0⟩⟩⟩, ⟨hkw, ?_⟩, fun j hj => hrk.cell gRk j hj, ⟨fun j hj => hrk.cell gRk j hj, fun j hj => hrs.cell gRs j hj⟩⟩
 exact World.block_lt_of_cell? W ⟨3, 0, none⟩ (hk.cell gKw 0 (by decide))
noncomputable def laidWorldD (os : Os) : World := World.laidAll Tryz.prog os laidD
theorem laid_metD (os : Os) (args : Array Value) : laidMet Tryz.prog laidD ((laidWorldD os).forCall (fun _ _ => 0) ⟨#[], args, []⟩).memory :=
 laidMet_laidAll args (by kernel_rfl) (by kernel_rfl)
theorem laid_varsD (os : Os) (args : Array Value) : ((laidWorldD os).forCall (fun _ _ => 0) ⟨#[], args, []⟩).variablesRefB Tryz.checked.prog = true := by kernel_rfl
theorem laid_heapD (os : Os) (args : Array Value) : (((laidWorldD os).forCall (fun _ _ => 0) ⟨#[], args, []⟩).heap.toList.drop Tryz.checked.prog.globals.size).take ((begin Tryz.checked.prog (fun _ _ => 0) default).world.heap.size - Tryz.checked.prog.globals.size) =
 (begin Tryz.checked.prog (fun _ _ => 0) default).world.heap.toList.drop Tryz.checked.prog.globals.size := by kernel_rfl
end Go.Proofs.YtekgnogjfggnmaaGreatDoor
