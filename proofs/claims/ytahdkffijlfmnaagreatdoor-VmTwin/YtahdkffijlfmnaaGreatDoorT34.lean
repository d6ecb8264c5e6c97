import Derived.Test.YtahdkffijlfmnaaGreatDoorRows
import Derived.WalkKit
import Derived.ProofKit
import Derived.OpenShut
import Derived.ShutString
import Derived.SizedLaws
import Derived.LaidMore
import Derived.Lay
import Derived.Deep.DeepHandedRow
import Derived.Deep.DeepWitnessRowRef
import Derived.Lib.LaidTab
import Derived.Stop.LaidErr
import Derived.Test.YtahdkffijlfmnaaGreatDoorT20
import Derived.Test.YtahdkffijlfmnaaGreatDoorT06
namespace Go.Proofs.YtahdkffijlfmnaaGreatDoor
open Go.ChangeShapes Go.WideShapes Go.ChangeAt Go.RowKit
theorem own : ownKnob Tryz.prog.godebug = none := by kernel_rfl
theorem laidOut : laidOutB Tryz.prog = true := by kernel_rfl
theorem list3 {α : Type} {xs : List α} (h : xs.length = 3) : ∃ c0 c1 c2, xs = [c0, c1, c2] := by
  match xs, h with
  | [c0, c1, c2], _ => exact ⟨c0, c1, c2, rfl⟩
def strData {H : Type} (ss : List ByteArray) : DataW H := .agg (ss.map fun s => .lit (.string s.data.toList))
theorem laid_strs {W : World} {name : String} {ss : List ByteArray} {rest : List (String × DataW Unit)} {g n : Nat} {t : TypeId}
    (hg : Tryz.prog.globalNamed name = some g) (hty : (Tryz.prog.globals[g]?).map (·.type) = some t) (ht : Tryz.prog.underlying t = some (.array n 9)) (hct : Tryz.prog.cellsOf t = n) (hn : n = ss.length)
    (h : laidMet Tryz.prog ((name, strData ss) :: rest) W) : ∀ k, k < n → W.cell? ⟨g, k, none⟩ = some (.string (ss.getD k e0)) := by
  obtain ⟨ps, ⟨g', t', cs, fuel, p, q, hg', ht', hvar, hd, _, _⟩, _⟩ := h
  obtain rfl := Option.some.inj (hg.symm.trans hg')
  obtain rfl := Option.some.inj (hty.symm.trans ht')
  obtain ⟨xs, m, _, hx, hcl, hxl, hel⟩ := DataW.trod_array ht hd
  rw [hct] at hcl
  simp only [Prod.mk.injEq] at hx
  have hxs := hx.1
  intro k hk
  have c1 : Tryz.prog.cellsOf 9 = 1 := by kernel_rfl
  obtain ⟨x, hxk⟩ : ∃ x, xs[k]? = some x := ⟨_, List.getElem?_eq_getElem (by omega)⟩
  have h1 := hel k (by omega)
  rw [c1, hxk] at h1
  obtain ⟨s, e2, hs, -⟩ := DataW.trod_string Tryz.underlying9 h1
  have hxa : (xs.map (·.1))[k]? = some x.1 := by rw [List.getElem?_map, hxk]; rfl
  unfold strData at hxs
  simp only [DataW.agg.injEq] at hxs
  rw [← hxs, List.getElem?_map, List.getElem?_eq_getElem (by omega), Option.map_some, Option.some.injEq, hs] at hxa
  simp only [DataW.lit.injEq, Lit.string.injEq] at hxa
  have e3 : s = ss.getD k e0 := by
    rw [List.getD_eq_getElem?_getD, List.getElem?_eq_getElem (by omega)]
    exact (ByteArray.ext (Array.ext' hxa)).symm
  have e4 : cs[k]? = some (.string s) := by
    have := congrArg (·[0]?) e2
    simpa [List.getElem?_take, List.getElem?_drop] using this
  rw [← e3]
  exact (World.var?_cell hg hvar k).trans e4
theorem laid_three {W : World} {name : String} {D : List (DataW Unit)} {rest : List (String × DataW Unit)} {g n : Nat} {t e : TypeId}
    (hg : Tryz.prog.globalNamed name = some g) (hty : (Tryz.prog.globals[g]?).map (·.type) = some t) (ht : Tryz.prog.underlying t = some (.array n e)) (hce : Tryz.prog.cellsOf e = 3) (hct : Tryz.prog.cellsOf t = n * 3)
    (h : laidMet Tryz.prog ((name, .agg D) :: rest) W) : ∀ k, k < n → ∃ (c0 c1 c2 : Value) (y : DataW Unit × List MemPlace) (fuel base : Nat) (sp : Nat → Bool) (held : Bool) (enc : TypeId × Value → Unit), D[k]? = some y.1 ∧ DataW.trod enc Tryz.prog W base sp held fuel e [c0, c1, c2] = some y ∧ W.cell? ⟨g, k * 3, none⟩ = some c0 ∧ W.cell? ⟨g, k * 3 + 1, none⟩ = some c1 ∧ W.cell? ⟨g, k * 3 + 2, none⟩ = some c2 := by
  obtain ⟨ps, ⟨g', t', cs, fuel, p, q, hg', ht', hvar, hd, _, _⟩, _⟩ := h
  obtain rfl := Option.some.inj (hg.symm.trans hg')
  obtain rfl := Option.some.inj (hty.symm.trans ht')
  obtain ⟨xs, m, _, hx, hcl, hxl, hel⟩ := DataW.trod_array ht hd
  rw [hct] at hcl
  simp only [Prod.mk.injEq] at hx
  have hxs := hx.1
  intro k hk
  obtain ⟨x, hxk⟩ : ∃ x, xs[k]? = some x := ⟨_, List.getElem?_eq_getElem (by omega)⟩
  have h1 := hel k (by omega)
  rw [hce, hxk] at h1
  have hl3 : ((cs.toList.drop (k * 3)).take 3).length = 3 := by rw [List.length_take, List.length_drop]; omega
  obtain ⟨c0, c1, c2, hc⟩ := list3 hl3
  rw [hc] at h1
  have hxa : (xs.map (·.1))[k]? = some x.1 := by rw [List.getElem?_map, hxk]; rfl
  simp only [DataW.agg.injEq] at hxs
  rw [← hxs] at hxa
  have cell := fun i => World.var?_cell hg hvar i
  have get : ∀ j, j < 3 → cs[k * 3 + j]? = ([c0, c1, c2] : List Value)[j]? := fun j hj => by
    rw [← hc, List.getElem?_take, if_pos hj, List.getElem?_drop]
    simp
  exact ⟨c0, c1, c2, x, _, _, _, _, _, hxa, h1, (cell _).trans (get 0 (by decide)), (cell _).trans (get 1 (by decide)), (cell _).trans (get 2 (by decide))⟩
theorem cNum : Tryz.prog.cellsOf 3 = 1 := by kernel_rfl
theorem cI64 : Tryz.prog.cellsOf 2 = 1 := by kernel_rfl
theorem cStr : Tryz.prog.cellsOf 9 = 1 := by kernel_rfl
theorem cOpd : Tryz.prog.cellsOf 160 = 1 := by kernel_rfl
theorem tr_ins {H : Type} {enc : TypeId × Value → H} {W : World} {base : Nat} {spare : Nat → Bool} {held : Bool} {m : Nat} {c0 c1 c2 : Value} {y} (h : DataW.trod enc Tryz.prog W base spare held m 162 [c0, c1, c2] = some y) :
    ∃ (s : ByteArray) (a b : Int), c0 = .string s ∧ c1 = .int .i64 a ∧ c2 = .int .i64 b ∧ y.1 = .agg [.lit (.string s.data.toList), .lit (.int .i64 a), .lit (.int .i64 b)] := by
  obtain ⟨zs, m2, _, hy, _, hlen2, hgs⟩ := DataW.trod_struct Tryz.underlying162 h
  obtain ⟨z0, z1, z2, rfl⟩ := list3 hlen2
  have g0 : DataW.trod enc Tryz.prog W base spare held m2 9 [c0] = some z0 := by have := hgs 0 _ rfl; simpa [cStr] using this
  have g1 : DataW.trod enc Tryz.prog W base spare held m2 160 [c1] = some z1 := by have := hgs 1 _ rfl; simpa [cStr, cOpd] using this
  have g2 : DataW.trod enc Tryz.prog W base spare held m2 160 [c2] = some z2 := by have := hgs 2 _ rfl; simpa [cStr, cOpd] using this
  obtain ⟨s, e0, rfl, -⟩ := DataW.trod_string Tryz.underlying9 g0
  obtain ⟨a, e1, rfl, -⟩ := DataW.trod_int Tryz.underlying160 g1
  obtain ⟨b, e2, rfl, -⟩ := DataW.trod_int Tryz.underlying160 g2
  simp at e0 e1 e2
  exact ⟨s, a, b, e0, e1, e2, by rw [hy]; rfl⟩
theorem tr_shp {H : Type} {enc : TypeId × Value → H} {W : World} {base : Nat} {spare : Nat → Bool} {held : Bool} {m : Nat} {c0 c1 c2 : Value} {y} (h : DataW.trod enc Tryz.prog W base spare held m 186 [c0, c1, c2] = some y) :
    ∃ (s a b : Int), c0 = .int .i64 s ∧ c1 = .int .i64 a ∧ c2 = .int .i64 b ∧ y.1 = .agg [.lit (.int .i64 s), .lit (.int .i64 a), .lit (.int .i64 b)] := by
  obtain ⟨zs, m2, _, hy, _, hlen2, hgs⟩ := DataW.trod_struct Tryz.underlying186 h
  obtain ⟨z0, z1, z2, rfl⟩ := list3 hlen2
  have g0 : DataW.trod enc Tryz.prog W base spare held m2 2 [c0] = some z0 := by have := hgs 0 _ rfl; simpa [cI64] using this
  have g1 : DataW.trod enc Tryz.prog W base spare held m2 2 [c1] = some z1 := by have := hgs 1 _ rfl; simpa [cI64] using this
  have g2 : DataW.trod enc Tryz.prog W base spare held m2 3 [c2] = some z2 := by have := hgs 2 _ rfl; simpa [cI64, cNum] using this
  obtain ⟨s, e0, rfl, -⟩ := DataW.trod_int Tryz.underlying2 g0
  obtain ⟨a, e1, rfl, -⟩ := DataW.trod_int Tryz.underlying2 g1
  obtain ⟨b, e2, rfl, -⟩ := DataW.trod_int Tryz.underlying3 g2
  simp at e0 e1 e2
  exact ⟨s, a, b, e0, e1, e2, by rw [hy]; rfl⟩
theorem gIns : Tryz.prog.globalNamed "retrace/code.instructions" = some 1 := by kernel_rfl
theorem gShp : Tryz.prog.globalNamed "retrace/code.shapes" = some 3 := by kernel_rfl
theorem gTyp : Tryz.prog.globalNamed "retrace/code.typeNames" = some 2 := by kernel_rfl
theorem tIns : (Tryz.prog.globals[1]?).map (·.type) = some 163 := by kernel_rfl
theorem tShp : (Tryz.prog.globals[3]?).map (·.type) = some 187 := by kernel_rfl
theorem tTyp : (Tryz.prog.globals[2]?).map (·.type) = some 184 := by kernel_rfl
abbrev laidR : List (String × DataW Unit) := [("math/bits.deBruijn32tab", Rows.laid_math_bits_deBruijn32tab), ("math/bits.deBruijn64tab", Rows.laid_math_bits_deBruijn64tab), ("internal/strconv.uint64pow10", Rows.laid_internal_strconv_uint64pow10), ("retrace/code.instructions", Rows.laid_retrace_code_instructions), ("retrace/code.shapes", Rows.laid_retrace_code_shapes), ("retrace/code.typeNames", Rows.laid_retrace_code_typeNames), ("retrace/cells.zeros", Rows.laid_retrace_cells_zeros), ("retrace/vm.wants", Rows.laid_retrace_vm_wants)]
theorem ins_data : (Rows.laid_retrace_code_instructions : DataW Unit) = .agg ((List.range 24).map fun k => .agg [.lit (.string (wdT.getD k e0).data.toList), .lit (.int .i64 ((opA.getD k 0 : Nat) : Int)), .lit (.int .i64 ((opB.getD k 0 : Nat) : Int))]) := by kernel_rfl
theorem shp_data : (Rows.laid_retrace_code_shapes : DataW Unit) = .agg ((List.range 13).map fun k => .agg [.lit (.int .i64 (shLo.getD k 0)), .lit (.int .i64 (shHi.getD k 0)), .lit (.int .i64 ((shWd.getD k 0 : Nat) : Int))]) := by kernel_rfl
theorem typ_data : (Rows.laid_retrace_code_typeNames : DataW Unit) = strData tyT := by kernel_rfl
theorem laid_in {W : World} {name : String} {d : DataW Unit} {rest : List (String × DataW Unit)} {g : Nat} (hg : Tryz.prog.globalNamed name = some g) (h : laidMet Tryz.prog ((name, d) :: rest) W) : g < W.heap.size := by
  obtain ⟨ps, ⟨g', t', cs, fuel, p, q, hg', ht', hvar, hd, _, _⟩, _⟩ := h
  unfold World.var? at hvar
  rw [hg, Option.bind_some] at hvar
  by_cases q : g < W.heap.size
  · exact q
  · rw [Array.getElem?_eq_none (by omega)] at hvar
    cases hvar
theorem tabs_of_laid {W : World} (h : laidMet Tryz.prog laidR W) : Tabs W := by
  unfold laidR at h
  have hI := h.tail.tail.tail
  have hS := h.tail.tail.tail.tail
  have hT := h.tail.tail.tail.tail.tail
  rw [ins_data] at hI
  rw [shp_data] at hS
  rw [typ_data] at hT
  have hT' := laid_strs gTyp tTyp Tryz.underlying184 (by kernel_rfl) (by decide) hT
  refine ⟨fun k hk => ?_, fun k hk => ?_, hT', ?_⟩
  · obtain ⟨c0, c1, c2, y, _, _, _, _, _, hy, ht, d0, d1, d2⟩ := laid_three gIns tIns Tryz.underlying163 (by kernel_rfl) (by kernel_rfl) hI k hk
    obtain ⟨s, a, b, rfl, rfl, rfl, e⟩ := tr_ins ht
    rw [List.getElem?_map, List.getElem?_range hk, Option.map_some, Option.some.injEq, e] at hy
    simp only [DataW.agg.injEq, List.cons.injEq, DataW.lit.injEq, Lit.int.injEq, Lit.string.injEq, true_and, and_true] at hy
    obtain ⟨h1, h2, h3⟩ := hy
    have h1' : wdT.getD k e0 = s := ByteArray.ext (Array.ext' h1)
    rw [h1', h2, h3]
    exact ⟨d0, d1, d2⟩
  · obtain ⟨c0, c1, c2, y, _, _, _, _, _, hy, ht, d0, d1, d2⟩ := laid_three gShp tShp Tryz.underlying187 (by kernel_rfl) (by kernel_rfl) hS k hk
    obtain ⟨s, a, b, rfl, rfl, rfl, e⟩ := tr_shp ht
    rw [List.getElem?_map, List.getElem?_range hk, Option.map_some, Option.some.injEq, e] at hy
    simp only [DataW.agg.injEq, List.cons.injEq, DataW.lit.injEq, Lit.int.injEq, true_and, and_true] at hy
    obtain ⟨h1, h2, h3⟩ := hy
    rw [h1, h2, h3]
    exact ⟨d0, d1, d2⟩
  · exact laid_in (show Tryz.prog.globalNamed "math/bits.deBruijn64tab" = some 7 by kernel_rfl) h.tail
theorem gZt : Tryz.prog.globalNamed "retrace/cells.zeros" = some 4 := by kernel_rfl
theorem tZt : (Tryz.prog.globals[4]?).map (·.type) = some 192 := by kernel_rfl
theorem gWt : Tryz.prog.globalNamed "retrace/vm.wants" = some 0 := by kernel_rfl
theorem tWt : (Tryz.prog.globals[0]?).map (·.type) = some 120 := by kernel_rfl
theorem t10 : (Tryz.prog.globals[5]?).map (·.type) = some 206 := by kernel_rfl
theorem cells10 : Tryz.prog.cellsOf 206 = 20 := by kernel_rfl
theorem cells24 : Tryz.prog.cellsOf 120 = 24 := by kernel_rfl
theorem cellsU : Tryz.prog.cellsOf 200 = 1 := by kernel_rfl
theorem cVk : Tryz.prog.cellsOf 50 = 1 := by kernel_rfl
theorem tr_val {H : Type} {enc : TypeId × Value → H} {W : World} {base : Nat} {spare : Nat → Bool} {held : Bool} {m : Nat} {c0 c1 c2 : Value} {y} (h : DataW.trod enc Tryz.prog W base spare held m 52 [c0, c1, c2] = some y) :
    ∃ (a b : Int) (s : ByteArray), c0 = .int .i64 a ∧ c1 = .int .i64 b ∧ c2 = .string s ∧ y.1 = .agg [.lit (.int .i64 a), .lit (.int .i64 b), .lit (.string s.data.toList)] := by
  obtain ⟨zs, m2, _, hy, _, hlen2, hgs⟩ := DataW.trod_struct Tryz.underlying52 h
  obtain ⟨z0, z1, z2, rfl⟩ := list3 hlen2
  have g0 : DataW.trod enc Tryz.prog W base spare held m2 50 [c0] = some z0 := by have := hgs 0 _ rfl; simpa [cVk] using this
  have g1 : DataW.trod enc Tryz.prog W base spare held m2 2 [c1] = some z1 := by have := hgs 1 _ rfl; simpa [cVk, cI64] using this
  have g2 : DataW.trod enc Tryz.prog W base spare held m2 9 [c2] = some z2 := by have := hgs 2 _ rfl; simpa [cVk, cI64, cStr] using this
  obtain ⟨a, e0, rfl, -⟩ := DataW.trod_int Tryz.underlying50 g0
  obtain ⟨b, e1, rfl, -⟩ := DataW.trod_int Tryz.underlying2 g1
  obtain ⟨s, e2, rfl, -⟩ := DataW.trod_string Tryz.underlying9 g2
  simp at e0 e1 e2
  exact ⟨a, b, s, e0, e1, e2, by rw [hy]; rfl⟩
theorem zt_data : (Rows.laid_retrace_cells_zeros : DataW Unit) = .agg ((List.range 5).map fun (k : Nat) => .agg [.lit (.int .i64 (k : Int)), .lit (.int .i64 0), .lit (.string [])]) := by kernel_rfl
theorem glo_of_laid {W : World} (h : laidMet Tryz.prog laidR W) : Glo W := by
  have hT := tabs_of_laid h
  unfold laidR at h
  have hZ := h.tail.tail.tail.tail.tail.tail
  have hW := h.tail.tail.tail.tail.tail.tail.tail
  have hP := h.tail.tail
  rw [zt_data] at hZ
  refine ⟨fun k hk => ?_, Lib.tabIs_of_head g10 t10 Tryz.underlying206 Tryz.underlying200 cellsU cells10 hP, fun k hk => ?_, hT⟩
  · obtain ⟨c0, c1, c2, y, _, _, _, _, _, hy, ht, d0, d1, d2⟩ := laid_three gZt tZt Tryz.underlying192 (by kernel_rfl) (by kernel_rfl) hZ k (by omega)
    obtain ⟨a, b, s, rfl, rfl, rfl, e⟩ := tr_val ht
    rw [List.getElem?_map, List.getElem?_range (show k < 5 by omega), Option.map_some, Option.some.injEq, e] at hy
    simp only [DataW.agg.injEq, List.cons.injEq, DataW.lit.injEq, Lit.int.injEq, Lit.string.injEq, true_and, and_true] at hy
    obtain ⟨h1, h2, h3⟩ := hy
    have h3' : Hp.e0 = s := ByteArray.ext (Array.ext' h3)
    rw [h1, h2, h3']
    exact ⟨d0, d1, d2⟩
  · have q : Lib.TabIs Tryz.prog W "retrace/vm.wants" .i64 (wantsT.map fun (n : Nat) => (n : Int)) := Lib.tabIs_of_head gWt tWt Tryz.underlying120 Tryz.underlying3 cNum cells24 hW
    rw [q.cell gWt k (by simpa [wantsT] using hk)]
    congr 2
    rw [List.getD_eq_getElem?_getD, List.getD_eq_getElem?_getD, List.getElem?_map]
    cases wantsT[k]? <;> rfl
noncomputable def laidWorld (os : Os) : World := World.laidAll Tryz.prog os laidR
set_option maxRecDepth 100000 in
theorem laid_met (os : Os) (args : Array Value) : laidMet Tryz.prog laidR ((laidWorld os).forCall (fun _ _ => 0) ⟨#[], args, []⟩).memory :=
  laidMet_laidAll args (by kernel_rfl) (by kernel_rfl)
set_option maxRecDepth 100000 in
theorem laid_vars (os : Os) (args : Array Value) : ((laidWorld os).forCall (fun _ _ => 0) ⟨#[], args, []⟩).variablesRefB Tryz.checked.prog = true := by kernel_rfl
set_option maxRecDepth 100000 in
theorem laid_heap (os : Os) (args : Array Value) : (((laidWorld os).forCall (fun _ _ => 0) ⟨#[], args, []⟩).heap.toList.drop Tryz.checked.prog.globals.size).take ((begin Tryz.checked.prog (fun _ _ => 0) default).world.heap.size - Tryz.checked.prog.globals.size) =
      (begin Tryz.checked.prog (fun _ _ => 0) default).world.heap.toList.drop Tryz.checked.prog.globals.size := by kernel_rfl
end Go.Proofs.YtahdkffijlfmnaaGreatDoor

namespace Go.Proofs.YtahdkffijlfmnaaGreatDoor
open Go.ChangeShapes Go.WideShapes Go.ChangeAt Go.RowKit
theorem weightsAll_mem {H : Type} {P : Program} {e : TypeId} {d : DataW H} : ∀ {l : List (DataW H)}, d ∈ l → ∀ m ∈ d.weights P e, m ∈ DataW.weightsAll P e l
  | x :: l, h, m, hm => by
    simp only [DataW.weightsAll, List.mem_append]
    rcases List.mem_cons.1 h with rfl | h
    · exact .inl hm
    · exact .inr (weightsAll_mem h m hm)
def Light {H : Type} (t : TypeId) (d : DataW H) : Prop := ∀ m ∈ d.weights Tryz.prog t, m ≤ reachBytes
theorem plain_of_cell {w : World} {a : Addr} {v : Value} (h : w.cell? a = some v) : a = ⟨a.block, a.off, none⟩ ∧ a.block < w.heap.size := by
  refine ⟨?_, World.block_lt_of_cell? w a h⟩
  obtain ⟨b, o, sp⟩ := a
  cases sp with
  | none => rfl
  | some q =>
    unfold World.cell? at h
    split at h
    · simp at h
    · cases h
theorem slice_at {H : Type} {enc : TypeId × Value → H} {W : World} {base : Nat} {spare : Nat → Bool} {held : Bool} {fuel : Nat} {t e : TypeId} {c : Value} {x : DataW H × List MemPlace} {m : Nat} (hm : 0 < m)
    (ht : Tryz.prog.underlying t = some (.slice e)) (hc : Tryz.prog.cellsOf e = m) (h : DataW.trod enc Tryz.prog W base spare held fuel t [c] = some x) (hw : Light t x.1) :
    ∃ (p : Option Addr) (len cap n : Nat), c = .slice p len cap ∧ len * Tryz.prog.bytesOf e ≤ reachBytes ∧ ∀ i, i < len → ∃ g o cs y, p = some ⟨g, o, none⟩ ∧ g < W.heap.size ∧ cs.length = m ∧ (∀ j, j < m → W.cell? ⟨g, o + i * m + j, none⟩ = cs[j]?) ∧ DataW.trod enc Tryz.prog W base spare held n e cs = some y ∧ Light e y.1 := by
  rcases DataW.trod_slice ht h with ⟨h0, _⟩ | ⟨a, len, cap, elems, rest, n, _, h0, rfl, _, _, _, hlen, hel, _, _⟩
  · exact ⟨none, 0, 0, 0, by simpa using h0, by rw [Nat.zero_mul]; exact Nat.zero_le _, fun i hi => by omega⟩
  · have hw1 := hw ((elems.map (·.1)).length + (rest.map (·.1)).length |> (· * Tryz.prog.bytesOf e)) (by simp [DataW.weights, ht])
    have hb : len * Tryz.prog.bytesOf e ≤ reachBytes := by
      refine Nat.le_trans (Nat.mul_le_mul_right _ ?_) hw1
      rw [List.length_map, hlen]
      omega
    refine ⟨some a, len, cap, n, by simpa using h0, hb, fun i hi => ?_⟩
    have key : ∀ i, i < len → ∃ cs y, elems[i]? = some y ∧ W.cells? base (a.add (i * m)) m = some cs ∧ DataW.trod enc Tryz.prog W base spare held n e cs = some y := by
      intro i hi
      have := hel i hi
      rw [hc, List.getElem?_eq_getElem (by omega), Option.bind_eq_some_iff] at this
      obtain ⟨cs, h1, h2⟩ := this
      exact ⟨cs, _, List.getElem?_eq_getElem (by omega), h1, h2⟩
    obtain ⟨cs0, _, _, hz, _⟩ := key 0 (by omega)
    obtain ⟨_, hz1, hz2⟩ := World.cells?_some hz
    have hp := hz2 0 hm
    rw [Nat.zero_mul, show (a.add 0).add 0 = a from by simp [Addr.add], List.getElem?_eq_getElem (by omega)] at hp
    obtain ⟨ha, hg⟩ := plain_of_cell hp
    obtain ⟨cs, y, hy, h1, h2⟩ := key i hi
    obtain ⟨_, h3, h4⟩ := World.cells?_some h1
    refine ⟨a.block, a.off, cs, y, congrArg some ha, hg, h3, fun j hj => ?_, h2, fun k hk => hw k ?_⟩
    · have := h4 j hj
      rw [ha, Addr.add_mid, Addr.add_mid] at this
      exact this
    · have hmem : y.1 ∈ elems.map (·.1) := List.mem_map.2 ⟨y, List.mem_of_getElem? hy, rfl⟩
      simp only [DataW.weights, ht, List.mem_cons, List.mem_append]
      exact .inr (.inl (weightsAll_mem hmem k hk))
theorem cIns : Tryz.prog.cellsOf 86 = 3 := by kernel_rfl
theorem cEnt : Tryz.prog.cellsOf 71 = 5 := by kernel_rfl
theorem cCode : Tryz.prog.cellsOf 26 = 4 := by kernel_rfl
theorem cSort : Tryz.prog.cellsOf 69 = 1 := by kernel_rfl
theorem cC8 : Tryz.prog.cellsOf 84 = 1 := by kernel_rfl
theorem cLi : Tryz.prog.cellsOf 22 = 1 := by kernel_rfl
theorem cLe : Tryz.prog.cellsOf 23 = 1 := by kernel_rfl
theorem cLt : Tryz.prog.cellsOf 24 = 1 := by kernel_rfl
theorem cLs : Tryz.prog.cellsOf 68 = 1 := by kernel_rfl
theorem bIns : Tryz.prog.bytesOf 86 = 24 := by kernel_rfl
theorem bEnt : Tryz.prog.bytesOf 71 = 64 := by kernel_rfl
theorem bSort : Tryz.prog.bytesOf 69 = 8 := by kernel_rfl
theorem bStr : Tryz.prog.bytesOf 9 = 16 := by kernel_rfl
theorem reach_eq : reachBytes = 140737488351232 := by decide
theorem list4 {α : Type} {xs : List α} (h : xs.length = 4) : ∃ c0 c1 c2 c3, xs = [c0, c1, c2, c3] := by
  match xs, h with
  | [c0, c1, c2, c3], _ => exact ⟨c0, c1, c2, c3, rfl⟩
theorem list5 {α : Type} {xs : List α} (h : xs.length = 5) : ∃ c0 c1 c2 c3 c4, xs = [c0, c1, c2, c3, c4] := by
  match xs, h with
  | [c0, c1, c2, c3, c4], _ => exact ⟨c0, c1, c2, c3, c4, rfl⟩
theorem list1 {α : Type} {xs : List α} (h : xs.length = 1) : ∃ c0, xs = [c0] := by
  match xs, h with
  | [c0], _ => exact ⟨c0, rfl⟩
theorem slice_row {α : Type} {H : Type} {enc : TypeId × Value → H} {W : World} {base : Nat} {spare : Nat → Bool} {held : Bool} {fuel : Nat} {t e : TypeId} {c : Value} {x : DataW H × List MemPlace} {m : Nat} (hm : 0 < m) (f : α → List Value) (hf : ∀ a, (f a).length = m) (R : α → Prop)
    (ht : Tryz.prog.underlying t = some (.slice e)) (hc : Tryz.prog.cellsOf e = m) (h : DataW.trod enc Tryz.prog W base spare held fuel t [c] = some x) (hw : Light t x.1)
    (hr : ∀ (n : Nat) (cs : List Value) (y : DataW H × List MemPlace), cs.length = m → DataW.trod enc Tryz.prog W base spare held n e cs = some y → Light e y.1 → ∃ a, cs = f a ∧ R a) :
    ∃ (p : Option Addr) (cap : Nat) (L : List α), c = .slice p L.length cap ∧ L.length * Tryz.prog.bytesOf e ≤ reachBytes ∧ Row W W.heap.size p L.length (L.flatMap f) ∧ ∀ a ∈ L, R a := by
  obtain ⟨p, len, cap, n, hcv, hb, hst⟩ := slice_at hm ht hc h hw
  have key : ∀ i : Fin len, ∃ a : α, (∃ g o, p = some ⟨g, o, none⟩ ∧ g < W.heap.size ∧ W.rangeAt g (o + i.1 * m) (f a)) ∧ R a := fun i => by
    obtain ⟨g, o, cs, y, hp, hg, hl, hcc, hy, hyl⟩ := hst i.1 i.2
    obtain ⟨a, rfl, ha⟩ := hr n cs y hl hy hyl
    refine ⟨a, ⟨g, o, hp, hg, fun j v hv => ?_⟩, ha⟩
    have hj : j < m := by have := (List.getElem?_eq_some_iff.1 hv).1; omega
    rw [hcc j hj]
    exact hv
  obtain ⟨F, hF⟩ := Classical.axiomOfChoice key
  have hlenF : (List.ofFn F).length = len := by simp
  refine ⟨p, cap, List.ofFn F, by rw [hlenF]; exact hcv, by rw [hlenF]; exact hb, fun h0 => ?_, fun a ha => ?_⟩
  · rw [hlenF] at h0
    obtain ⟨⟨g, o, hp, hg, _⟩, _⟩ := hF ⟨0, h0⟩
    refine ⟨g, o, hp, hg, fun j v hv => ?_⟩
    have hl : ((List.ofFn F).flatMap f).length = len * m := by
      rw [List.length_flatMap]
      have : ∀ (l : List α), (l.map fun a => (f a).length).sum = l.length * m := by
        intro l
        induction l with
        | nil => simp
        | cons a l ih => rw [List.map_cons, List.sum_cons, ih, hf, List.length_cons, Nat.succ_mul]; omega
      rw [this, hlenF]
    have hj : j < len * m := by rw [← hl]; exact (List.getElem?_eq_some_iff.1 hv).1
    have hd : j / m < len := Nat.div_lt_of_lt_mul (by rw [Nat.mul_comm]; exact hj)
    have hmod : j % m < m := Nat.mod_lt _ hm
    have h2 := flat_at f m hf (List.ofFn F) (j / m) (j % m) (by rw [hlenF]; exact hd) hmod
    rw [show j / m * m + j % m = j by rw [Nat.mul_comm]; exact Nat.div_add_mod j m, hv] at h2
    obtain ⟨⟨g', o', hp', _, hcc⟩, _⟩ := hF ⟨j / m, hd⟩
    rw [hp] at hp'
    cases hp'
    have h3 := hcc (j % m) v (by rw [h2]; simp)
    rwa [Nat.add_assoc, show j / m * m + j % m = j by rw [Nat.mul_comm]; exact Nat.div_add_mod j m] at h3
  · obtain ⟨i, rfl⟩ := List.mem_ofFn.1 ha
    exact (hF i).2
theorem flat_one {α β : Type} (f : α → β) : ∀ l : List α, (l.flatMap fun a => [f a]) = l.map f
  | [] => rfl
  | a :: l => by rw [List.flatMap_cons, flat_one f l]; rfl
def i64 (n : Int) : Prop := -9223372036854775808 ≤ n ∧ n ≤ 9223372036854775807
theorem wf_i64 {n : Int} (h : (Lit.int .i64 n).wf = true) : i64 n := by
  unfold i64
  simpa [Lit.wf, IntKind.min, IntKind.max, IntKind.signed, IntKind.bits] using h
theorem op_sort {H : Type} {enc : TypeId × Value → H} {W : World} {base : Nat} {spare : Nat → Bool} {held : Bool} (n : Nat) (cs : List Value) (y : DataW H × List MemPlace) (hl : cs.length = 1) (h : DataW.trod enc Tryz.prog W base spare held n 69 cs = some y) (_ : Light 69 y.1) : ∃ a : Int, cs = [.int .i64 a] ∧ i64 a := by
  obtain ⟨c0, rfl⟩ := list1 hl
  obtain ⟨a, e, rfl, wf⟩ := DataW.trod_int Tryz.underlying69 h
  simp at e
  exact ⟨a, by rw [e], wf_i64 wf⟩
theorem op_str {H : Type} {enc : TypeId × Value → H} {W : World} {base : Nat} {spare : Nat → Bool} {held : Bool} (n : Nat) (cs : List Value) (y : DataW H × List MemPlace) (hl : cs.length = 1) (h : DataW.trod enc Tryz.prog W base spare held n 9 cs = some y) (hy : Light 9 y.1) : ∃ a : ByteArray, cs = [.string a] ∧ a.size ≤ 140737488351232 := by
  obtain ⟨c0, rfl⟩ := list1 hl
  obtain ⟨a, e, rfl, -⟩ := DataW.trod_string Tryz.underlying9 h
  simp at e
  refine ⟨a, by rw [e], ?_⟩
  have := hy a.size (by simp only [DataW.weights]; exact List.mem_singleton.2 (Array.length_toList (xs := a.data)).symm)
  rwa [reach_eq] at this
theorem op_ins {H : Type} {enc : TypeId × Value → H} {W : World} {base : Nat} {spare : Nat → Bool} {held : Bool} (n : Nat) (cs : List Value) (y : DataW H × List MemPlace) (hl : cs.length = 3) (h : DataW.trod enc Tryz.prog W base spare held n 86 cs = some y) (_ : Light 86 y.1) : ∃ a : In, cs = ic a ∧ (i64 a.1 ∧ i64 a.2.1 ∧ i64 a.2.2) := by
  obtain ⟨c0, c1, c2, rfl⟩ := list3 hl
  obtain ⟨zs, m2, _, hy, _, hlen2, hgs⟩ := DataW.trod_struct Tryz.underlying86 h
  obtain ⟨z0, z1, z2, rfl⟩ := list3 hlen2
  have g0 : DataW.trod enc Tryz.prog W base spare held m2 84 [c0] = some z0 := by have := hgs 0 _ rfl; simpa [cC8] using this
  have g1 : DataW.trod enc Tryz.prog W base spare held m2 2 [c1] = some z1 := by have := hgs 1 _ rfl; simpa [cC8, cI64] using this
  have g2 : DataW.trod enc Tryz.prog W base spare held m2 2 [c2] = some z2 := by have := hgs 2 _ rfl; simpa [cC8, cI64] using this
  obtain ⟨a, e0, rfl, w0⟩ := DataW.trod_int Tryz.underlying84 g0
  obtain ⟨b, e1, rfl, w1⟩ := DataW.trod_int Tryz.underlying2 g1
  obtain ⟨d, e2, rfl, w2⟩ := DataW.trod_int Tryz.underlying2 g2
  simp at e0 e1 e2
  exact ⟨(a, b, d), by rw [e0, e1, e2]; rfl, wf_i64 w0, wf_i64 w1, wf_i64 w2⟩
def EmOk (W : World) (x : Em) : Prop := (Row W W.heap.size x.2.1 x.1.sorts.length (sv x.1.sorts) ∧ x.1.sorts.length * 8 ≤ 140737488351232) ∧ x.1.name.size ≤ 140737488351232 ∧ (i64 x.1.start ∧ i64 x.1.params ∧ i64 x.1.result) ∧ ∀ s ∈ x.1.sorts, i64 s
theorem op_ent {H : Type} {enc : TypeId × Value → H} {W : World} {base : Nat} {spare : Nat → Bool} {held : Bool} (n : Nat) (cs : List Value) (y : DataW H × List MemPlace) (hl : cs.length = 5) (h : DataW.trod enc Tryz.prog W base spare held n 71 cs = some y) (hw : Light 71 y.1) : ∃ a : Em, cs = ec a ∧ EmOk W a := by
  obtain ⟨c0, c1, c2, c3, c4, rfl⟩ := list5 hl
  obtain ⟨zs, m2, _, hy, _, hlen2, hgs⟩ := DataW.trod_struct Tryz.underlying71 h
  obtain ⟨z0, z1, z2, z3, z4, rfl⟩ := list5 hlen2
  have g0 : DataW.trod enc Tryz.prog W base spare held m2 9 [c0] = some z0 := by have := hgs 0 _ rfl; simpa [cStr] using this
  have g1 : DataW.trod enc Tryz.prog W base spare held m2 3 [c1] = some z1 := by have := hgs 1 _ rfl; simpa [cStr, cNum] using this
  have g2 : DataW.trod enc Tryz.prog W base spare held m2 3 [c2] = some z2 := by have := hgs 2 _ rfl; simpa [cStr, cNum] using this
  have g3 : DataW.trod enc Tryz.prog W base spare held m2 68 [c3] = some z3 := by have := hgs 3 _ rfl; simpa [cStr, cNum, cLs] using this
  have g4 : DataW.trod enc Tryz.prog W base spare held m2 69 [c4] = some z4 := by have := hgs 4 _ rfl; simpa [cStr, cNum, cLs, cSort] using this
  have hd0 : y.1 = .agg ([z0, z1, z2, z3, z4].map (·.1)) := by rw [hy]
  have hz : ∀ (j : Nat) (t : TypeId) (z : DataW H), ([9, 3, 3, 68, 69] : List TypeId)[j]? = some t → ([z0, z1, z2, z3, z4].map (·.1))[j]? = some z → Light t z := fun j t z h1 h2 k hk => hw k (by
    rw [hd0]
    simp only [DataW.weights, Tryz.underlying71]
    exact DataW.weights_mem_each (P := Tryz.prog) (ts := [9, 3, 3, 68, 69]) (ds := [z0, z1, z2, z3, z4].map (·.1)) (j := j) h1 h2 k hk)
  obtain ⟨s, es, hs⟩ := op_str m2 [c0] z0 rfl g0 (hz 0 _ _ rfl rfl)
  obtain ⟨a, e1, -, w1⟩ := DataW.trod_int Tryz.underlying3 g1
  obtain ⟨b, e2, -, w2⟩ := DataW.trod_int Tryz.underlying3 g2
  obtain ⟨p, cap, L, e3, hb, hrow, hL⟩ := slice_row (m := 1) (by omega) (fun a : Int => [Value.int .i64 a]) (fun _ => rfl) i64 Tryz.underlying68 cSort g3 (hz 3 _ _ rfl rfl) op_sort
  obtain ⟨d, e4, -, w4⟩ := DataW.trod_int Tryz.underlying69 g4
  simp at es e1 e2 e4
  rw [bSort, reach_eq] at hb
  rw [flat_one] at hrow
  exact ⟨(⟨s, a, b, L, d⟩, p, cap), by rw [es, e1, e2, e3, e4]; rfl, ⟨hrow, hb⟩, hs, ⟨wf_i64 w1, wf_i64 w2, wf_i64 w4⟩, hL⟩
end Go.Proofs.YtahdkffijlfmnaaGreatDoor
