import Derived.Test.YtichbejmelkjeaaDoorRows
import Derived.WalkKit
import Derived.ProofKit
import Derived.OpenShut
import Derived.ShutString
import Derived.SizedLaws
import Derived.LaidMore
import Derived.Deep.DeepHandedRow
import Derived.Deep.DeepWitnessRowRef
import Derived.Lib.LaidTab
import Derived.Stop.LaidErr
import Derived.Test.YtichbejmelkjeaaDoorcTb
namespace Go.Proofs.YtichbejmelkjeaaDoor
open Go.ChangeShapes Go.WideShapes Go.ChangeAt Go.RowKit

theorem own : ownKnob Tryd.prog.godebug = none := by kernel_rfl
theorem laidOut : laidOutB Tryd.prog = true := by kernel_rfl
theorem list2 {α : Type} {xs : List α} (h : xs.length = 2) : ∃ c0 c1, xs = [c0, c1] := by
  match xs, h with
  | [c0, c1], _ => exact ⟨c0, c1, rfl⟩
theorem laid_two {W : World} {name : String} {D : List (DataW Unit)} {rest : List (String × DataW Unit)} {g n : Nat} {t e : TypeId}
    (hg : Tryd.prog.globalNamed name = some g) (hty : (Tryd.prog.globals[g]?).map (·.type) = some t) (ht : Tryd.prog.underlying t = some (.array n e)) (hce : Tryd.prog.cellsOf e = 2) (hct : Tryd.prog.cellsOf t = n * 2)
    (h : laidMet Tryd.prog ((name, .agg D) :: rest) W) : ∀ k, k < n → ∃ (c0 c1 : Value) (y : DataW Unit × List MemPlace) (fuel base : Nat) (sp : Nat → Bool) (held : Bool) (enc : TypeId × Value → Unit), D[k]? = some y.1 ∧ DataW.trod enc Tryd.prog W base sp held fuel e [c0, c1] = some y ∧ W.cell? ⟨g, k * 2, none⟩ = some c0 ∧ W.cell? ⟨g, k * 2 + 1, none⟩ = some c1 := by
  obtain ⟨ps, ⟨g', t', cs, fuel, p, q, hg', ht', hvar, hd, _, _⟩, _⟩ := h
  obtain rfl := Option.some.inj (hg.symm.trans hg')
  obtain rfl := Option.some.inj (hty.symm.trans ht')
  obtain ⟨xs, m, _, hx, hcl, hxl, hel⟩ := DataW.trod_array ht hd
  rw [hct] at hcl
  simp only [Prod.mk.injEq] at hx
  have hxs := hx.1
  intro k hk
  obtain ⟨x, hxk⟩ : ∃ x, xs[k]? = some x := ⟨_, List.getElem?_eq_getElem (by omega)⟩
  have h1 := hel k (by omega)
  rw [hce, hxk] at h1
  have hl2 : ((cs.toList.drop (k * 2)).take 2).length = 2 := by rw [List.length_take, List.length_drop]; omega
  obtain ⟨c0, c1, hc⟩ := list2 hl2
  rw [hc] at h1
  have hxa : (xs.map (·.1))[k]? = some x.1 := by rw [List.getElem?_map, hxk]; rfl
  simp only [DataW.agg.injEq] at hxs
  rw [← hxs] at hxa
  have cell := fun i => World.var?_cell hg hvar i
  have get : ∀ j, j < 2 → cs[k * 2 + j]? = ([c0, c1] : List Value)[j]? := fun j hj => by
    rw [← hc, List.getElem?_take, if_pos hj, List.getElem?_drop]
    simp
  exact ⟨c0, c1, x, _, _, _, _, _, hxa, h1, (cell _).trans (get 0 (by decide)), (cell _).trans (get 1 (by decide))⟩
theorem cStr : Tryd.prog.cellsOf 9 = 1 := by kernel_rfl
theorem cOpd : Tryd.prog.cellsOf 72 = 1 := by kernel_rfl
theorem tr_row {H : Type} {enc : TypeId × Value → H} {W : World} {base : Nat} {spare : Nat → Bool} {held : Bool} {m : Nat} {c0 c1 : Value} {y} (h : DataW.trod enc Tryd.prog W base spare held m 74 [c0, c1] = some y) :
    ∃ (s : ByteArray) (a : Int), c0 = .string s ∧ c1 = .int .i64 a ∧ y.1 = .agg [.lit (.string s.data.toList), .lit (.int .i64 a)] := by
  obtain ⟨zs, m2, _, hy, _, hlen2, hgs⟩ := DataW.trod_struct Tryd.underlying74 h
  obtain ⟨z0, z1, rfl⟩ := list2 hlen2
  have g0 : DataW.trod enc Tryd.prog W base spare held m2 9 [c0] = some z0 := by have := hgs 0 _ rfl; simpa [cStr] using this
  have g1 : DataW.trod enc Tryd.prog W base spare held m2 72 [c1] = some z1 := by have := hgs 1 _ rfl; simpa [cStr, cOpd] using this
  obtain ⟨s, e0, rfl, -⟩ := DataW.trod_string Tryd.underlying9 g0
  obtain ⟨a, e1, rfl, -⟩ := DataW.trod_int Tryd.underlying72 g1
  simp at e0 e1
  exact ⟨s, a, e0, e1, by rw [hy]; rfl⟩
theorem gSg : Tryd.prog.globalNamed "retrace/lex.signs" = some 5 := by kernel_rfl
theorem gRw : Tryd.prog.globalNamed "retrace/command.rows" = some 0 := by kernel_rfl
theorem gSyn : Tryd.prog.globalNamed "strconv.ErrSyntax" = some 7 := by kernel_rfl
theorem gRng : Tryd.prog.globalNamed "strconv.ErrRange" = some 8 := by kernel_rfl
theorem gPow : Tryd.prog.globalNamed "internal/strconv.uint64pow10" = some 1 := by kernel_rfl
theorem tKw : (Tryd.prog.globals[6]?).map (·.type) = some 127 := by kernel_rfl
theorem tSg : (Tryd.prog.globals[5]?).map (·.type) = some 126 := by kernel_rfl
theorem tRw : (Tryd.prog.globals[0]?).map (·.type) = some 75 := by kernel_rfl
theorem tSyn : (Tryd.prog.globals[7]?).map (·.type) = some 68 := by kernel_rfl
theorem tRng : (Tryd.prog.globals[8]?).map (·.type) = some 68 := by kernel_rfl
theorem tPow : (Tryd.prog.globals[1]?).map (·.type) = some 109 := by kernel_rfl
theorem star : "*" ++ "errors.errorString" = "*errors.errorString" := by decide
theorem rowErr (u : TypeId) (h : Tryd.prog.typeName? 3 u = some "*errors.errorString") : u = 139 :=
  typeName_ptr_named (nm := "errors.errorString") (by rw [star]; kernel_rfl) (by kernel_rfl) (by decide) u (by rw [star]; exact h)
theorem laid_in {W : World} {name : String} {d : DataW Unit} {rest : List (String × DataW Unit)} {g : Nat} (hg : Tryd.prog.globalNamed name = some g) (h : laidMet Tryd.prog ((name, d) :: rest) W) : g < W.heap.size := by
  obtain ⟨ps, ⟨g', t', cs, fuel, p, q, hg', ht', hvar, hd, _, _⟩, _⟩ := h
  unfold World.var? at hvar
  rw [hg, Option.bind_some] at hvar
  by_cases q : g < W.heap.size
  · exact q
  · rw [Array.getElem?_eq_none (by omega)] at hvar
    cases hvar
theorem sg_range {w : World} (h : Lx.StrIs Tryd.prog w "retrace/lex.signs" Lx.sgs) : w.rangeAt 5 0 Lx.sgCells := by
  intro j v hv
  have hj : j < Lx.sgs.length := by have := (List.getElem?_eq_some_iff.1 hv).1; simpa [Lx.sgCells] using this
  rw [Nat.zero_add, h.cell gSg j hj]
  simp only [Lx.sgCells, List.getElem?_map, List.getElem?_eq_getElem hj, Option.map_some, Option.some.injEq] at hv
  rw [← hv, List.getD_eq_getElem?_getD, List.getElem?_eq_getElem hj]
  rfl
theorem row_data : (Rows.laid_retrace_command_rows : DataW Unit) = .agg (rws.map fun r => .agg [.lit (.string r.1), .lit (.int .i64 (r.2 : Int))]) := by kernel_rfl
theorem rows_of {W : World} {rest : List (String × DataW Unit)} (h : laidMet Tryd.prog (("retrace/command.rows", Rows.laid_retrace_command_rows) :: rest) W) : W.rangeAt 0 0 rwCells := by
  rw [row_data] at h
  have key : ∀ k, k < 23 → W.cell? ⟨0, k * 2, none⟩ = some (.string ⟨(rws.getD k ([], 0)).1.toArray⟩) ∧ W.cell? ⟨0, k * 2 + 1, none⟩ = some (.int .i64 (tks k : Int)) := by
    intro k hk
    obtain ⟨c0, c1, y, _, _, _, _, _, hy, ht, d0, d1⟩ := laid_two gRw tRw Tryd.underlying75 (by kernel_rfl) (by kernel_rfl) h k hk
    obtain ⟨s, a, rfl, rfl, e⟩ := tr_row ht
    have hk' : k < rws.length := hk
    rw [List.getElem?_map, List.getElem?_eq_getElem hk', Option.map_some, Option.some.injEq, e] at hy
    simp only [DataW.agg.injEq, List.cons.injEq, DataW.lit.injEq, Lit.int.injEq, Lit.string.injEq, true_and, and_true] at hy
    obtain ⟨h1, h2⟩ := hy
    have e1 : (⟨(rws.getD k ([], 0)).1.toArray⟩ : ByteArray) = s := by
      refine ByteArray.ext (Array.ext' ?_)
      rw [List.getD_eq_getElem?_getD, List.getElem?_eq_getElem hk']
      exact h1
    have e2 : ((tks k : Nat) : Int) = a := by
      unfold tks
      rw [List.getD_eq_getElem?_getD, List.getElem?_eq_getElem hk']
      exact h2
    rw [e1, e2]
    exact ⟨d0, d1⟩
  intro j v hv
  have hj : j < 46 := (List.getElem?_eq_some_iff.1 hv).1
  rw [Nat.zero_add]
  obtain ⟨k, hk⟩ : ∃ k, j = 2 * k ∨ j = 2 * k + 1 := ⟨j / 2, by omega⟩
  have hk23 : k < 23 := by omega
  obtain ⟨h1, h2⟩ := rw_at k hk23
  obtain ⟨g1, g2⟩ := key k hk23
  rcases hk with rfl | rfl
  · rw [h1] at hv; rw [Nat.mul_comm 2 k, g1, hv]
  · rw [h2] at hv; rw [Nat.mul_comm 2 k, g2, hv]
abbrev laidP : List (String × DataW Unit) := [("math/bits.deBruijn32tab", Rows.laid_math_bits_deBruijn32tab), ("math/bits.deBruijn64tab", Rows.laid_math_bits_deBruijn64tab), ("internal/strconv.uint64pow10", Rows.laid_internal_strconv_uint64pow10), ("strconv.ErrRange", Rows.laid_strconv_ErrRange), ("strconv.ErrSyntax", Rows.laid_strconv_ErrSyntax), ("retrace/lex.keywords", Rows.laid_retrace_lex_keywords), ("retrace/lex.signs", Rows.laid_retrace_lex_signs), ("retrace/command.rows", Rows.laid_retrace_command_rows)]
theorem tabs_of_laid {W : World} (h : laidMet Tryd.prog laidP W) : Tb W := by
  have h2 := h.tail.tail
  have h3 := h2.tail
  have h4 := h3.tail
  have h5 := h4.tail
  have h6 := h5.tail
  have h7 := h6.tail
  have hsz : 8 < W.heap.size := laid_in gRng h3
  obtain ⟨a7, _, hv7, _⟩ := laid_sentinel h3 gRng tRng Tryd.underlying68 rowErr Tryd.underlying139 Tryd.underlying141 rfl rfl Tryd.underlying9 (by kernel_rfl) cStr
  obtain ⟨a6, _, hv6, _⟩ := laid_sentinel h4 gSyn tSyn Tryd.underlying68 rowErr Tryd.underlying139 Tryd.underlying141 rfl rfl Tryd.underlying9 (by kernel_rfl) cStr
  have hk : Lx.StrIs Tryd.prog W "retrace/lex.keywords" Lx.kws := Lx.strIs_of_head Lx.gKw tKw Tryd.underlying127 Tryd.underlying9 cStr (by kernel_rfl) h5
  have hg : Lx.StrIs Tryd.prog W "retrace/lex.signs" Lx.sgs := Lx.strIs_of_head gSg tSg Tryd.underlying126 Tryd.underlying9 cStr (by kernel_rfl) h6
  exact ⟨⟨Lx.kw_range hk, sg_range hg, ⟨_, _, World.var?_cell gSyn hv6 0⟩, hsz, ⟨_, _, World.var?_cell gRng hv7 0⟩⟩, rows_of h7, Lib.tabIs_of_head gPow tPow Tryd.underlying109 Tryd.underlying94 (by kernel_rfl) (by kernel_rfl) h2⟩
noncomputable def laidWorld (os : Os) : World := World.doorLaid Tryd.prog 112 os
set_option maxRecDepth 100000 in
theorem laid_met (os : Os) (args : Array Value) : laidMet Tryd.prog laidP ((laidWorld os).forCall (fun _ _ => 0) ⟨#[], args, []⟩).memory :=
  laidMet_of_run' 8 (by kernel_rfl) (by kernel_rfl)
set_option maxRecDepth 100000 in
theorem laid_vars (os : Os) (args : Array Value) : ((laidWorld os).forCall (fun _ _ => 0) ⟨#[], args, []⟩).variablesRefB Tryd.checked.prog = true := by kernel_rfl
set_option maxRecDepth 100000 in
theorem laid_heap (os : Os) (args : Array Value) : (((laidWorld os).forCall (fun _ _ => 0) ⟨#[], args, []⟩).heap.toList.drop Tryd.checked.prog.globals.size).take ((begin Tryd.checked.prog (fun _ _ => 0) default).world.heap.size - Tryd.checked.prog.globals.size) =
      (begin Tryd.checked.prog (fun _ _ => 0) default).world.heap.toList.drop Tryd.checked.prog.globals.size := by kernel_rfl
end Go.Proofs.YtichbejmelkjeaaDoor
