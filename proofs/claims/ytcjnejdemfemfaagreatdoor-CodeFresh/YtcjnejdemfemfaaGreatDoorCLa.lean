import Derived.Test.YtcjnejdemfemfaaGreatDoorRows
import Derived.WalkKit
import Derived.ProofKit
import Derived.OpenShut
import Derived.ShutString
import Derived.SizedLaws
import Derived.LaidMore
import Derived.Lay
import Derived.Deep.DeepHandedRow
import Derived.Deep.DeepWitnessRowRef
import Derived.Lib.LaidTab
import Derived.Stop.LaidErr
import Derived.Test.YtcjnejdemfemfaaGreatDoorCTab
namespace Go.Proofs.YtcjnejdemfemfaaGreatDoor
open Go.ChangeShapes Go.WideShapes Go.ChangeAt Go.RowKit

theorem own : ownKnob Tryz.prog.godebug = none := by kernel_rfl
theorem laidOut : laidOutB Tryz.prog = true := by kernel_rfl
theorem list3 {α : Type} {xs : List α} (h : xs.length = 3) : ∃ c0 c1 c2, xs = [c0, c1, c2] := by
  match xs, h with
  | [c0, c1, c2], _ => exact ⟨c0, c1, c2, rfl⟩
/-! A table of texts, and a table of structs of three. -/
/-- A table of texts as a row lists it. -/
def strData {H : Type} (ss : List ByteArray) : DataW H := .agg (ss.map fun s => .lit (.string s.data.toList))
theorem laid_strs {W : World} {name : String} {ss : List ByteArray} {rest : List (String × DataW Unit)} {g n : Nat} {t : TypeId}
    (hg : Tryz.prog.globalNamed name = some g) (hty : (Tryz.prog.globals[g]?).map (·.type) = some t) (ht : Tryz.prog.underlying t = some (.array n 9)) (hct : Tryz.prog.cellsOf t = n) (hn : n = ss.length)
    (h : laidMet Tryz.prog ((name, strData ss) :: rest) W) : ∀ k, k < n → W.cell? ⟨g, k, none⟩ = some (.string (ss.getD k e0)) := by
  obtain ⟨ps, ⟨g', t', cs, fuel, p, q, hg', ht', hvar, hd, _, _⟩, _⟩ := h
  obtain rfl := Option.some.inj (hg.symm.trans hg')
  obtain rfl := Option.some.inj (hty.symm.trans ht')
  obtain ⟨xs, m, _, hx, hcl, hxl, hel⟩ := DataW.trod_array ht hd
  rw [hct] at hcl
  simp only [Prod.mk.injEq] at hx
  have hxs := hx.1
  intro k hk
  have c1 : Tryz.prog.cellsOf 9 = 1 := by kernel_rfl
  obtain ⟨x, hxk⟩ : ∃ x, xs[k]? = some x := ⟨_, List.getElem?_eq_getElem (by omega)⟩
  have h1 := hel k (by omega)
  rw [c1, hxk] at h1
  obtain ⟨s, e2, hs, -⟩ := DataW.trod_string Tryz.underlying9 h1
  have hxa : (xs.map (·.1))[k]? = some x.1 := by rw [List.getElem?_map, hxk]; rfl
  unfold strData at hxs
  simp only [DataW.agg.injEq] at hxs
  rw [← hxs, List.getElem?_map, List.getElem?_eq_getElem (by omega), Option.map_some, Option.some.injEq, hs] at hxa
  simp only [DataW.lit.injEq, Lit.string.injEq] at hxa
  have e3 : s = ss.getD k e0 := by
    rw [List.getD_eq_getElem?_getD, List.getElem?_eq_getElem (by omega)]
    exact (ByteArray.ext (Array.ext' hxa)).symm
  have e4 : cs[k]? = some (.string s) := by
    have := congrArg (·[0]?) e2
    simpa [List.getElem?_take, List.getElem?_drop] using this
  rw [← e3]
  exact (World.var?_cell hg hvar k).trans e4
theorem laid_three {W : World} {name : String} {D : List (DataW Unit)} {rest : List (String × DataW Unit)} {g n : Nat} {t e : TypeId}
    (hg : Tryz.prog.globalNamed name = some g) (hty : (Tryz.prog.globals[g]?).map (·.type) = some t) (ht : Tryz.prog.underlying t = some (.array n e)) (hce : Tryz.prog.cellsOf e = 3) (hct : Tryz.prog.cellsOf t = n * 3)
    (h : laidMet Tryz.prog ((name, .agg D) :: rest) W) : ∀ k, k < n → ∃ (c0 c1 c2 : Value) (y : DataW Unit × List MemPlace) (fuel base : Nat) (sp : Nat → Bool) (held : Bool) (enc : TypeId × Value → Unit), D[k]? = some y.1 ∧ DataW.trod enc Tryz.prog W base sp held fuel e [c0, c1, c2] = some y ∧ W.cell? ⟨g, k * 3, none⟩ = some c0 ∧ W.cell? ⟨g, k * 3 + 1, none⟩ = some c1 ∧ W.cell? ⟨g, k * 3 + 2, none⟩ = some c2 := by
  obtain ⟨ps, ⟨g', t', cs, fuel, p, q, hg', ht', hvar, hd, _, _⟩, _⟩ := h
  obtain rfl := Option.some.inj (hg.symm.trans hg')
  obtain rfl := Option.some.inj (hty.symm.trans ht')
  obtain ⟨xs, m, _, hx, hcl, hxl, hel⟩ := DataW.trod_array ht hd
  rw [hct] at hcl
  simp only [Prod.mk.injEq] at hx
  have hxs := hx.1
  intro k hk
  obtain ⟨x, hxk⟩ : ∃ x, xs[k]? = some x := ⟨_, List.getElem?_eq_getElem (by omega)⟩
  have h1 := hel k (by omega)
  rw [hce, hxk] at h1
  have hl3 : ((cs.toList.drop (k * 3)).take 3).length = 3 := by rw [List.length_take, List.length_drop]; omega
  obtain ⟨c0, c1, c2, hc⟩ := list3 hl3
  rw [hc] at h1
  have hxa : (xs.map (·.1))[k]? = some x.1 := by rw [List.getElem?_map, hxk]; rfl
  simp only [DataW.agg.injEq] at hxs
  rw [← hxs] at hxa
  have cell := fun i => World.var?_cell hg hvar i
  have get : ∀ j, j < 3 → cs[k * 3 + j]? = ([c0, c1, c2] : List Value)[j]? := fun j hj => by
    rw [← hc, List.getElem?_take, if_pos hj, List.getElem?_drop]
    simp
  exact ⟨c0, c1, c2, x, _, _, _, _, _, hxa, h1, (cell _).trans (get 0 (by decide)), (cell _).trans (get 1 (by decide)), (cell _).trans (get 2 (by decide))⟩
theorem cNum : Tryz.prog.cellsOf 3 = 1 := by kernel_rfl
theorem cI64 : Tryz.prog.cellsOf 2 = 1 := by kernel_rfl
theorem cStr : Tryz.prog.cellsOf 9 = 1 := by kernel_rfl
theorem cOpd : Tryz.prog.cellsOf 70 = 1 := by kernel_rfl
theorem tr_ins {H : Type} {enc : TypeId × Value → H} {W : World} {base : Nat} {spare : Nat → Bool} {held : Bool} {m : Nat} {c0 c1 c2 : Value} {y} (h : DataW.trod enc Tryz.prog W base spare held m 72 [c0, c1, c2] = some y) :
    ∃ (s : ByteArray) (a b : Int), c0 = .string s ∧ c1 = .int .i64 a ∧ c2 = .int .i64 b ∧ y.1 = .agg [.lit (.string s.data.toList), .lit (.int .i64 a), .lit (.int .i64 b)] := by
  obtain ⟨zs, m2, _, hy, _, hlen2, hgs⟩ := DataW.trod_struct Tryz.underlying72 h
  obtain ⟨z0, z1, z2, rfl⟩ := list3 hlen2
  have g0 : DataW.trod enc Tryz.prog W base spare held m2 9 [c0] = some z0 := by have := hgs 0 _ rfl; simpa [cStr] using this
  have g1 : DataW.trod enc Tryz.prog W base spare held m2 70 [c1] = some z1 := by have := hgs 1 _ rfl; simpa [cStr, cOpd] using this
  have g2 : DataW.trod enc Tryz.prog W base spare held m2 70 [c2] = some z2 := by have := hgs 2 _ rfl; simpa [cStr, cOpd] using this
  obtain ⟨s, e0, rfl, -⟩ := DataW.trod_string Tryz.underlying9 g0
  obtain ⟨a, e1, rfl, -⟩ := DataW.trod_int Tryz.underlying70 g1
  obtain ⟨b, e2, rfl, -⟩ := DataW.trod_int Tryz.underlying70 g2
  simp at e0 e1 e2
  exact ⟨s, a, b, e0, e1, e2, by rw [hy]; rfl⟩
theorem tr_shp {H : Type} {enc : TypeId × Value → H} {W : World} {base : Nat} {spare : Nat → Bool} {held : Bool} {m : Nat} {c0 c1 c2 : Value} {y} (h : DataW.trod enc Tryz.prog W base spare held m 75 [c0, c1, c2] = some y) :
    ∃ (s a b : Int), c0 = .int .i64 s ∧ c1 = .int .i64 a ∧ c2 = .int .i64 b ∧ y.1 = .agg [.lit (.int .i64 s), .lit (.int .i64 a), .lit (.int .i64 b)] := by
  obtain ⟨zs, m2, _, hy, _, hlen2, hgs⟩ := DataW.trod_struct Tryz.underlying75 h
  obtain ⟨z0, z1, z2, rfl⟩ := list3 hlen2
  have g0 : DataW.trod enc Tryz.prog W base spare held m2 2 [c0] = some z0 := by have := hgs 0 _ rfl; simpa [cI64] using this
  have g1 : DataW.trod enc Tryz.prog W base spare held m2 2 [c1] = some z1 := by have := hgs 1 _ rfl; simpa [cI64] using this
  have g2 : DataW.trod enc Tryz.prog W base spare held m2 3 [c2] = some z2 := by have := hgs 2 _ rfl; simpa [cI64, cNum] using this
  obtain ⟨s, e0, rfl, -⟩ := DataW.trod_int Tryz.underlying2 g0
  obtain ⟨a, e1, rfl, -⟩ := DataW.trod_int Tryz.underlying2 g1
  obtain ⟨b, e2, rfl, -⟩ := DataW.trod_int Tryz.underlying3 g2
  simp at e0 e1 e2
  exact ⟨s, a, b, e0, e1, e2, by rw [hy]; rfl⟩
theorem gIns : Tryz.prog.globalNamed "retrace/code.instructions" = some 0 := by kernel_rfl
theorem gShp : Tryz.prog.globalNamed "retrace/code.shapes" = some 1 := by kernel_rfl
theorem gSgn : Tryz.prog.globalNamed "retrace/code.signs" = some 5 := by kernel_rfl
theorem gTyp : Tryz.prog.globalNamed "retrace/code.typeNames" = some 4 := by kernel_rfl
theorem gSyn : Tryz.prog.globalNamed "strconv.ErrSyntax" = some 8 := by kernel_rfl
theorem gRng : Tryz.prog.globalNamed "strconv.ErrRange" = some 9 := by kernel_rfl
theorem tIns : (Tryz.prog.globals[0]?).map (·.type) = some 73 := by kernel_rfl
theorem tShp : (Tryz.prog.globals[1]?).map (·.type) = some 76 := by kernel_rfl
theorem tSgn : (Tryz.prog.globals[5]?).map (·.type) = some 109 := by kernel_rfl
theorem tTyp : (Tryz.prog.globals[4]?).map (·.type) = some 140 := by kernel_rfl
theorem tPow : (Tryz.prog.globals[3]?).map (·.type) = some 134 := by kernel_rfl
theorem tSyn : (Tryz.prog.globals[8]?).map (·.type) = some 125 := by kernel_rfl
theorem tRng : (Tryz.prog.globals[9]?).map (·.type) = some 125 := by kernel_rfl
theorem star : "*" ++ "errors.errorString" = "*errors.errorString" := by decide
theorem rowErr (u : TypeId) (h : Tryz.prog.typeName? 3 u = some "*errors.errorString") : u = 159 :=
  typeName_ptr_named (nm := "errors.errorString") (by rw [star]; kernel_rfl) (by kernel_rfl) (by decide) u (by rw [star]; exact h)
abbrev laidR : List (String × DataW Unit) := [("math/bits.deBruijn32tab", Rows.laid_math_bits_deBruijn32tab), ("math/bits.deBruijn64tab", Rows.laid_math_bits_deBruijn64tab), ("internal/strconv.uint64pow10", Rows.laid_internal_strconv_uint64pow10), ("strconv.ErrRange", Rows.laid_strconv_ErrRange), ("strconv.ErrSyntax", Rows.laid_strconv_ErrSyntax), ("retrace/code.instructions", Rows.laid_retrace_code_instructions), ("retrace/code.shapes", Rows.laid_retrace_code_shapes), ("retrace/code.signs", Rows.laid_retrace_code_signs), ("retrace/code.typeNames", Rows.laid_retrace_code_typeNames)]
theorem ins_data : (Rows.laid_retrace_code_instructions : DataW Unit) = .agg ((List.range 24).map fun k => .agg [.lit (.string (wdT.getD k e0).data.toList), .lit (.int .i64 ((opA.getD k 0 : Nat) : Int)), .lit (.int .i64 ((opB.getD k 0 : Nat) : Int))]) := by kernel_rfl
theorem shp_data : (Rows.laid_retrace_code_shapes : DataW Unit) = .agg ((List.range 13).map fun k => .agg [.lit (.int .i64 (shLo.getD k 0)), .lit (.int .i64 (shHi.getD k 0)), .lit (.int .i64 ((shWd.getD k 0 : Nat) : Int))]) := by kernel_rfl
theorem sgn_data : (Rows.laid_retrace_code_signs : DataW Unit) = strData sgT := by kernel_rfl
theorem typ_data : (Rows.laid_retrace_code_typeNames : DataW Unit) = strData tyT := by kernel_rfl
theorem laid_in {W : World} {name : String} {d : DataW Unit} {rest : List (String × DataW Unit)} {g : Nat} (hg : Tryz.prog.globalNamed name = some g) (h : laidMet Tryz.prog ((name, d) :: rest) W) : g < W.heap.size := by
  obtain ⟨ps, ⟨g', t', cs, fuel, p, q, hg', ht', hvar, hd, _, _⟩, _⟩ := h
  unfold World.var? at hvar
  rw [hg, Option.bind_some] at hvar
  by_cases q : g < W.heap.size
  · exact q
  · rw [Array.getElem?_eq_none (by omega)] at hvar
    cases hvar
theorem tabs_of_laid {W : World} (h : laidMet Tryz.prog laidR W) : Tabs W := by
  have hI := h.tail.tail.tail.tail.tail
  have hS := h.tail.tail.tail.tail.tail.tail
  have hG := h.tail.tail.tail.tail.tail.tail.tail
  have hT := h.tail.tail.tail.tail.tail.tail.tail.tail
  rw [ins_data] at hI
  rw [shp_data] at hS
  rw [sgn_data] at hG
  rw [typ_data] at hT
  obtain ⟨a6, _, hv6, _⟩ := laid_sentinel h.tail.tail.tail.tail gSyn tSyn Tryz.underlying125 rowErr Tryz.underlying159 Tryz.underlying161 rfl rfl Tryz.underlying9 (by kernel_rfl) cStr
  obtain ⟨a7, _, hv7, _⟩ := laid_sentinel h.tail.tail.tail gRng tRng Tryz.underlying125 rowErr Tryz.underlying159 Tryz.underlying161 rfl rfl Tryz.underlying9 (by kernel_rfl) cStr
  have c7 := World.var?_cell gRng hv7 0
  have hT' := laid_strs gTyp tTyp Tryz.underlying140 (by kernel_rfl) (by decide) hT
  refine ⟨fun k hk => ?_, fun k hk => ?_, laid_strs gSgn tSgn Tryz.underlying109 (by kernel_rfl) (by decide) hG, hT', ?_, ⟨_, _, World.var?_cell gSyn hv6 0⟩, ⟨_, _, c7⟩, ?_⟩
  · obtain ⟨c0, c1, c2, y, _, _, _, _, _, hy, ht, d0, d1, d2⟩ := laid_three gIns tIns Tryz.underlying73 (by kernel_rfl) (by kernel_rfl) hI k hk
    obtain ⟨s, a, b, rfl, rfl, rfl, e⟩ := tr_ins ht
    rw [List.getElem?_map, List.getElem?_range hk, Option.map_some, Option.some.injEq, e] at hy
    simp only [DataW.agg.injEq, List.cons.injEq, DataW.lit.injEq, Lit.int.injEq, Lit.string.injEq, true_and, and_true] at hy
    obtain ⟨h1, h2, h3⟩ := hy
    have h1' : wdT.getD k e0 = s := ByteArray.ext (Array.ext' h1)
    rw [h1', h2, h3]
    exact ⟨d0, d1, d2⟩
  · obtain ⟨c0, c1, c2, y, _, _, _, _, _, hy, ht, d0, d1, d2⟩ := laid_three gShp tShp Tryz.underlying76 (by kernel_rfl) (by kernel_rfl) hS k hk
    obtain ⟨s, a, b, rfl, rfl, rfl, e⟩ := tr_shp ht
    rw [List.getElem?_map, List.getElem?_range hk, Option.map_some, Option.some.injEq, e] at hy
    simp only [DataW.agg.injEq, List.cons.injEq, DataW.lit.injEq, Lit.int.injEq, true_and, and_true] at hy
    obtain ⟨h1, h2, h3⟩ := hy
    rw [h1, h2, h3]
    exact ⟨d0, d1, d2⟩
  · exact Lib.tabIs_of_head gPow tPow Tryz.underlying134 Tryz.underlying107 (by kernel_rfl) (by kernel_rfl) h.tail.tail
  · exact laid_in (show Tryz.prog.globalNamed "strconv.ErrRange" = some 9 by kernel_rfl) h.tail.tail.tail

noncomputable def laidWorld (os : Os) : World := World.laidAll Tryz.prog os laidR
set_option maxRecDepth 100000 in
theorem laid_met (os : Os) (args : Array Value) : laidMet Tryz.prog laidR ((laidWorld os).forCall (fun _ _ => 0) ⟨#[], args, []⟩).memory :=
  laidMet_laidAll args (by kernel_rfl) (by kernel_rfl)
set_option maxRecDepth 100000 in
theorem laid_vars (os : Os) (args : Array Value) : ((laidWorld os).forCall (fun _ _ => 0) ⟨#[], args, []⟩).variablesRefB Tryz.checked.prog = true := by kernel_rfl
set_option maxRecDepth 100000 in
theorem laid_heap (os : Os) (args : Array Value) : (((laidWorld os).forCall (fun _ _ => 0) ⟨#[], args, []⟩).heap.toList.drop Tryz.checked.prog.globals.size).take ((begin Tryz.checked.prog (fun _ _ => 0) default).world.heap.size - Tryz.checked.prog.globals.size) =
      (begin Tryz.checked.prog (fun _ _ => 0) default).world.heap.toList.drop Tryz.checked.prog.globals.size := by kernel_rfl
end Go.Proofs.YtcjnejdemfemfaaGreatDoor

