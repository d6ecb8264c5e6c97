import Derived.Test.YtdcaonfnhdjibaaDoorRows
import Derived.WalkKit
import Derived.ProofKit
import Derived.OpenShut
import Derived.ShutString
import Derived.SizedLaws
import Derived.LaidMore
import Derived.Lay
import Derived.Deep.DeepHandedRow
import Derived.Deep.DeepWitnessRowRef
import Derived.Lib.LaidTab
import Derived.Stop.LaidErr
import Derived.Test.YtdcaonfnhdjibaaDoorCTab
namespace Go.Proofs.YtdcaonfnhdjibaaDoor
open Go.ChangeShapes Go.WideShapes Go.ChangeAt Go.RowKit

theorem own : ownKnob Tryd.prog.godebug = none := by kernel_rfl
theorem laidOut : laidOutB Tryd.prog = true := by kernel_rfl
theorem list3 {α : Type} {xs : List α} (h : xs.length = 3) : ∃ c0 c1 c2, xs = [c0, c1, c2] := by
  match xs, h with
  | [c0, c1, c2], _ => exact ⟨c0, c1, c2, rfl⟩
/-! A table of texts, and a table of structs of three. -/
/-- A table of texts as a row lists it. -/
def strData {H : Type} (ss : List ByteArray) : DataW H := .agg (ss.map fun s => .lit (.string s.data.toList))
theorem laid_strs {W : World} {name : String} {ss : List ByteArray} {rest : List (String × DataW Unit)} {g n : Nat} {t : TypeId}
    (hg : Tryd.prog.globalNamed name = some g) (hty : (Tryd.prog.globals[g]?).map (·.type) = some t) (ht : Tryd.prog.underlying t = some (.array n 9)) (hct : Tryd.prog.cellsOf t = n) (hn : n = ss.length)
    (h : laidMet Tryd.prog ((name, strData ss) :: rest) W) : ∀ k, k < n → W.cell? ⟨g, k, none⟩ = some (.string (ss.getD k e0)) := by
  obtain ⟨ps, ⟨g', t', cs, fuel, p, q, hg', ht', hvar, hd, _, _⟩, _⟩ := h
  obtain rfl := Option.some.inj (hg.symm.trans hg')
  obtain rfl := Option.some.inj (hty.symm.trans ht')
  obtain ⟨xs, m, _, hx, hcl, hxl, hel⟩ := DataW.trod_array ht hd
  rw [hct] at hcl
  simp only [Prod.mk.injEq] at hx
  have hxs := hx.1
  intro k hk
  have c1 : Tryd.prog.cellsOf 9 = 1 := by kernel_rfl
  obtain ⟨x, hxk⟩ : ∃ x, xs[k]? = some x := ⟨_, List.getElem?_eq_getElem (by omega)⟩
  have h1 := hel k (by omega)
  rw [c1, hxk] at h1
  obtain ⟨s, e2, hs, -⟩ := DataW.trod_string Tryd.underlying9 h1
  have hxa : (xs.map (·.1))[k]? = some x.1 := by rw [List.getElem?_map, hxk]; rfl
  unfold strData at hxs
  simp only [DataW.agg.injEq] at hxs
  rw [← hxs, List.getElem?_map, List.getElem?_eq_getElem (by omega), Option.map_some, Option.some.injEq, hs] at hxa
  simp only [DataW.lit.injEq, Lit.string.injEq] at hxa
  have e3 : s = ss.getD k e0 := by
    rw [List.getD_eq_getElem?_getD, List.getElem?_eq_getElem (by omega)]
    exact (ByteArray.ext (Array.ext' hxa)).symm
  have e4 : cs[k]? = some (.string s) := by
    have := congrArg (·[0]?) e2
    simpa [List.getElem?_take, List.getElem?_drop] using this
  rw [← e3]
  exact (World.var?_cell hg hvar k).trans e4
theorem laid_three {W : World} {name : String} {D : List (DataW Unit)} {rest : List (String × DataW Unit)} {g n : Nat} {t e : TypeId}
    (hg : Tryd.prog.globalNamed name = some g) (hty : (Tryd.prog.globals[g]?).map (·.type) = some t) (ht : Tryd.prog.underlying t = some (.array n e)) (hce : Tryd.prog.cellsOf e = 3) (hct : Tryd.prog.cellsOf t = n * 3)
    (h : laidMet Tryd.prog ((name, .agg D) :: rest) W) : ∀ k, k < n → ∃ (c0 c1 c2 : Value) (y : DataW Unit × List MemPlace) (fuel base : Nat) (sp : Nat → Bool) (held : Bool) (enc : TypeId × Value → Unit), D[k]? = some y.1 ∧ DataW.trod enc Tryd.prog W base sp held fuel e [c0, c1, c2] = some y ∧ W.cell? ⟨g, k * 3, none⟩ = some c0 ∧ W.cell? ⟨g, k * 3 + 1, none⟩ = some c1 ∧ W.cell? ⟨g, k * 3 + 2, none⟩ = some c2 := by
  obtain ⟨ps, ⟨g', t', cs, fuel, p, q, hg', ht', hvar, hd, _, _⟩, _⟩ := h
  obtain rfl := Option.some.inj (hg.symm.trans hg')
  obtain rfl := Option.some.inj (hty.symm.trans ht')
  obtain ⟨xs, m, _, hx, hcl, hxl, hel⟩ := DataW.trod_array ht hd
  rw [hct] at hcl
  simp only [Prod.mk.injEq] at hx
  have hxs := hx.1
  intro k hk
  obtain ⟨x, hxk⟩ : ∃ x, xs[k]? = some x := ⟨_, List.getElem?_eq_getElem (by omega)⟩
  have h1 := hel k (by omega)
  rw [hce, hxk] at h1
  have hl3 : ((cs.toList.drop (k * 3)).take 3).length = 3 := by rw [List.length_take, List.length_drop]; omega
  obtain ⟨c0, c1, c2, hc⟩ := list3 hl3
  rw [hc] at h1
  have hxa : (xs.map (·.1))[k]? = some x.1 := by rw [List.getElem?_map, hxk]; rfl
  simp only [DataW.agg.injEq] at hxs
  rw [← hxs] at hxa
  have cell := fun i => World.var?_cell hg hvar i
  have get : ∀ j, j < 3 → cs[k * 3 + j]? = ([c0, c1, c2] : List Value)[j]? := fun j hj => by
    rw [← hc, List.getElem?_take, if_pos hj, List.getElem?_drop]
    simp
  exact ⟨c0, c1, c2, x, _, _, _, _, _, hxa, h1, (cell _).trans (get 0 (by decide)), (cell _).trans (get 1 (by decide)), (cell _).trans (get 2 (by decide))⟩
theorem cNum : Tryd.prog.cellsOf 3 = 1 := by kernel_rfl
theorem cI64 : Tryd.prog.cellsOf 2 = 1 := by kernel_rfl
theorem cStr : Tryd.prog.cellsOf 9 = 1 := by kernel_rfl
theorem cOpd : Tryd.prog.cellsOf 109 = 1 := by kernel_rfl
theorem tr_ins {H : Type} {enc : TypeId × Value → H} {W : World} {base : Nat} {spare : Nat → Bool} {held : Bool} {m : Nat} {c0 c1 c2 : Value} {y} (h : DataW.trod enc Tryd.prog W base spare held m 111 [c0, c1, c2] = some y) :
    ∃ (s : ByteArray) (a b : Int), c0 = .string s ∧ c1 = .int .i64 a ∧ c2 = .int .i64 b ∧ y.1 = .agg [.lit (.string s.data.toList), .lit (.int .i64 a), .lit (.int .i64 b)] := by
  obtain ⟨zs, m2, _, hy, _, hlen2, hgs⟩ := DataW.trod_struct Tryd.underlying111 h
  obtain ⟨z0, z1, z2, rfl⟩ := list3 hlen2
  have g0 : DataW.trod enc Tryd.prog W base spare held m2 9 [c0] = some z0 := by have := hgs 0 _ rfl; simpa [cStr] using this
  have g1 : DataW.trod enc Tryd.prog W base spare held m2 109 [c1] = some z1 := by have := hgs 1 _ rfl; simpa [cStr, cOpd] using this
  have g2 : DataW.trod enc Tryd.prog W base spare held m2 109 [c2] = some z2 := by have := hgs 2 _ rfl; simpa [cStr, cOpd] using this
  obtain ⟨s, e0, rfl, -⟩ := DataW.trod_string Tryd.underlying9 g0
  obtain ⟨a, e1, rfl, -⟩ := DataW.trod_int Tryd.underlying109 g1
  obtain ⟨b, e2, rfl, -⟩ := DataW.trod_int Tryd.underlying109 g2
  simp at e0 e1 e2
  exact ⟨s, a, b, e0, e1, e2, by rw [hy]; rfl⟩
theorem tr_shp {H : Type} {enc : TypeId × Value → H} {W : World} {base : Nat} {spare : Nat → Bool} {held : Bool} {m : Nat} {c0 c1 c2 : Value} {y} (h : DataW.trod enc Tryd.prog W base spare held m 133 [c0, c1, c2] = some y) :
    ∃ (s a b : Int), c0 = .int .i64 s ∧ c1 = .int .i64 a ∧ c2 = .int .i64 b ∧ y.1 = .agg [.lit (.int .i64 s), .lit (.int .i64 a), .lit (.int .i64 b)] := by
  obtain ⟨zs, m2, _, hy, _, hlen2, hgs⟩ := DataW.trod_struct Tryd.underlying133 h
  obtain ⟨z0, z1, z2, rfl⟩ := list3 hlen2
  have g0 : DataW.trod enc Tryd.prog W base spare held m2 2 [c0] = some z0 := by have := hgs 0 _ rfl; simpa [cI64] using this
  have g1 : DataW.trod enc Tryd.prog W base spare held m2 2 [c1] = some z1 := by have := hgs 1 _ rfl; simpa [cI64] using this
  have g2 : DataW.trod enc Tryd.prog W base spare held m2 3 [c2] = some z2 := by have := hgs 2 _ rfl; simpa [cI64, cNum] using this
  obtain ⟨s, e0, rfl, -⟩ := DataW.trod_int Tryd.underlying2 g0
  obtain ⟨a, e1, rfl, -⟩ := DataW.trod_int Tryd.underlying2 g1
  obtain ⟨b, e2, rfl, -⟩ := DataW.trod_int Tryd.underlying3 g2
  simp at e0 e1 e2
  exact ⟨s, a, b, e0, e1, e2, by rw [hy]; rfl⟩
theorem gIns : Tryd.prog.globalNamed "retrace/code.instructions" = some 0 := by kernel_rfl
theorem gShp : Tryd.prog.globalNamed "retrace/code.shapes" = some 2 := by kernel_rfl
theorem gTyp : Tryd.prog.globalNamed "retrace/code.typeNames" = some 1 := by kernel_rfl
theorem tIns : (Tryd.prog.globals[0]?).map (·.type) = some 112 := by kernel_rfl
theorem tShp : (Tryd.prog.globals[2]?).map (·.type) = some 134 := by kernel_rfl
theorem tTyp : (Tryd.prog.globals[1]?).map (·.type) = some 131 := by kernel_rfl
abbrev laidR : List (String × DataW Unit) := [("retrace/code.instructions", Rows.laid_retrace_code_instructions), ("retrace/code.shapes", Rows.laid_retrace_code_shapes), ("retrace/code.typeNames", Rows.laid_retrace_code_typeNames)]
theorem ins_data : (Rows.laid_retrace_code_instructions : DataW Unit) = .agg ((List.range 24).map fun k => .agg [.lit (.string (wdT.getD k e0).data.toList), .lit (.int .i64 ((opA.getD k 0 : Nat) : Int)), .lit (.int .i64 ((opB.getD k 0 : Nat) : Int))]) := by kernel_rfl
theorem shp_data : (Rows.laid_retrace_code_shapes : DataW Unit) = .agg ((List.range 13).map fun k => .agg [.lit (.int .i64 (shLo.getD k 0)), .lit (.int .i64 (shHi.getD k 0)), .lit (.int .i64 ((shWd.getD k 0 : Nat) : Int))]) := by kernel_rfl
theorem typ_data : (Rows.laid_retrace_code_typeNames : DataW Unit) = strData tyT := by kernel_rfl
theorem laid_in {W : World} {name : String} {d : DataW Unit} {rest : List (String × DataW Unit)} {g : Nat} (hg : Tryd.prog.globalNamed name = some g) (h : laidMet Tryd.prog ((name, d) :: rest) W) : g < W.heap.size := by
  obtain ⟨ps, ⟨g', t', cs, fuel, p, q, hg', ht', hvar, hd, _, _⟩, _⟩ := h
  unfold World.var? at hvar
  rw [hg, Option.bind_some] at hvar
  by_cases q : g < W.heap.size
  · exact q
  · rw [Array.getElem?_eq_none (by omega)] at hvar
    cases hvar
theorem tabs_of_laid {W : World} (h : laidMet Tryd.prog laidR W) : Tabs W := by
  unfold laidR at h
  have hI := h
  have hS := h.tail
  have hT := h.tail.tail
  rw [ins_data] at hI
  rw [shp_data] at hS
  rw [typ_data] at hT
  have hT' := laid_strs gTyp tTyp Tryd.underlying131 (by kernel_rfl) (by decide) hT
  refine ⟨fun k hk => ?_, fun k hk => ?_, hT', ?_⟩
  · obtain ⟨c0, c1, c2, y, _, _, _, _, _, hy, ht, d0, d1, d2⟩ := laid_three gIns tIns Tryd.underlying112 (by kernel_rfl) (by kernel_rfl) hI k hk
    obtain ⟨s, a, b, rfl, rfl, rfl, e⟩ := tr_ins ht
    rw [List.getElem?_map, List.getElem?_range hk, Option.map_some, Option.some.injEq, e] at hy
    simp only [DataW.agg.injEq, List.cons.injEq, DataW.lit.injEq, Lit.int.injEq, Lit.string.injEq, true_and, and_true] at hy
    obtain ⟨h1, h2, h3⟩ := hy
    have h1' : wdT.getD k e0 = s := ByteArray.ext (Array.ext' h1)
    rw [h1', h2, h3]
    exact ⟨d0, d1, d2⟩
  · obtain ⟨c0, c1, c2, y, _, _, _, _, _, hy, ht, d0, d1, d2⟩ := laid_three gShp tShp Tryd.underlying134 (by kernel_rfl) (by kernel_rfl) hS k hk
    obtain ⟨s, a, b, rfl, rfl, rfl, e⟩ := tr_shp ht
    rw [List.getElem?_map, List.getElem?_range hk, Option.map_some, Option.some.injEq, e] at hy
    simp only [DataW.agg.injEq, List.cons.injEq, DataW.lit.injEq, Lit.int.injEq, true_and, and_true] at hy
    obtain ⟨h1, h2, h3⟩ := hy
    rw [h1, h2, h3]
    exact ⟨d0, d1, d2⟩
  · exact laid_in (show Tryd.prog.globalNamed "retrace/code.shapes" = some 2 by kernel_rfl) h.tail

noncomputable def laidWorld (os : Os) : World := World.laidAll Tryd.prog os laidR
set_option maxRecDepth 100000 in
theorem laid_met (os : Os) (args : Array Value) : laidMet Tryd.prog laidR ((laidWorld os).forCall (fun _ _ => 0) ⟨#[], args, []⟩).memory :=
  laidMet_laidAll args (by kernel_rfl) (by kernel_rfl)
set_option maxRecDepth 100000 in
theorem laid_vars (os : Os) (args : Array Value) : ((laidWorld os).forCall (fun _ _ => 0) ⟨#[], args, []⟩).variablesRefB Tryd.checked.prog = true := by kernel_rfl
set_option maxRecDepth 100000 in
theorem laid_heap (os : Os) (args : Array Value) : (((laidWorld os).forCall (fun _ _ => 0) ⟨#[], args, []⟩).heap.toList.drop Tryd.checked.prog.globals.size).take ((begin Tryd.checked.prog (fun _ _ => 0) default).world.heap.size - Tryd.checked.prog.globals.size) =
      (begin Tryd.checked.prog (fun _ _ => 0) default).world.heap.toList.drop Tryd.checked.prog.globals.size := by kernel_rfl
end Go.Proofs.YtdcaonfnhdjibaaDoor
