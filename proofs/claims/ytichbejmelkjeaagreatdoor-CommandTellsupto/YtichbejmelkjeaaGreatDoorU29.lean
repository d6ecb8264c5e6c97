import Derived.Test.YtichbejmelkjeaaGreatDoorRows
import Derived.WalkKit
import Derived.ProofKit
import Derived.OpenShut
import Derived.ShutString
import Derived.SizedLaws
import Derived.LaidMore
import Derived.Deep.DeepHandedRow
import Derived.Deep.DeepWitnessRowRef
import Derived.Lib.LaidTab
import Derived.Stop.LaidErr
import Derived.Carry
import Derived.Test.YtichbejmelkjeaaGreatDoorU18
import Derived.Test.YtichbejmelkjeaaGreatDoorU23
import Derived.Test.YtichbejmelkjeaaGreatDoorU20
namespace Go.Proofs.YtichbejmelkjeaaGreatDoor
open Go.ChangeShapes Go.WideShapes Go.ChangeAt Go.RowKit

theorem own : ownKnob Tryz.prog.godebug = none := by kernel_rfl
theorem laidOut : laidOutB Tryz.prog = true := by kernel_rfl
theorem list2 {α : Type} {xs : List α} (h : xs.length = 2) : ∃ c0 c1, xs = [c0, c1] := by
  match xs, h with
  | [c0, c1], _ => exact ⟨c0, c1, rfl⟩
theorem laid_two {W : World} {name : String} {D : List (DataW Unit)} {rest : List (String × DataW Unit)} {g n : Nat} {t e : TypeId}
    (hg : Tryz.prog.globalNamed name = some g) (hty : (Tryz.prog.globals[g]?).map (·.type) = some t) (ht : Tryz.prog.underlying t = some (.array n e)) (hce : Tryz.prog.cellsOf e = 2) (hct : Tryz.prog.cellsOf t = n * 2)
    (h : laidMet Tryz.prog ((name, .agg D) :: rest) W) : ∀ k, k < n → ∃ (c0 c1 : Value) (y : DataW Unit × List MemPlace) (fuel base : Nat) (sp : Nat → Bool) (held : Bool) (enc : TypeId × Value → Unit), D[k]? = some y.1 ∧ DataW.trod enc Tryz.prog W base sp held fuel e [c0, c1] = some y ∧ W.cell? ⟨g, k * 2, none⟩ = some c0 ∧ W.cell? ⟨g, k * 2 + 1, none⟩ = some c1 := by
  obtain ⟨ps, ⟨g', t', cs, fuel, p, q, hg', ht', hvar, hd, _, _⟩, _⟩ := h
  obtain rfl := Option.some.inj (hg.symm.trans hg')
  obtain rfl := Option.some.inj (hty.symm.trans ht')
  obtain ⟨xs, m, _, hx, hcl, hxl, hel⟩ := DataW.trod_array ht hd
  rw [hct] at hcl
  simp only [Prod.mk.injEq] at hx
  have hxs := hx.1
  intro k hk
  obtain ⟨x, hxk⟩ : ∃ x, xs[k]? = some x := ⟨_, List.getElem?_eq_getElem (by omega)⟩
  have h1 := hel k (by omega)
  rw [hce, hxk] at h1
  have hl2 : ((cs.toList.drop (k * 2)).take 2).length = 2 := by rw [List.length_take, List.length_drop]; omega
  obtain ⟨c0, c1, hc⟩ := list2 hl2
  rw [hc] at h1
  have hxa : (xs.map (·.1))[k]? = some x.1 := by rw [List.getElem?_map, hxk]; rfl
  simp only [DataW.agg.injEq] at hxs
  rw [← hxs] at hxa
  have cell := fun i => World.var?_cell hg hvar i
  have get : ∀ j, j < 2 → cs[k * 2 + j]? = ([c0, c1] : List Value)[j]? := fun j hj => by
    rw [← hc, List.getElem?_take, if_pos hj, List.getElem?_drop]
    simp
  exact ⟨c0, c1, x, _, _, _, _, _, hxa, h1, (cell _).trans (get 0 (by decide)), (cell _).trans (get 1 (by decide))⟩
theorem cStr : Tryz.prog.cellsOf 9 = 1 := by kernel_rfl
theorem cOpd : Tryz.prog.cellsOf 82 = 1 := by kernel_rfl
theorem tr_row {H : Type} {enc : TypeId × Value → H} {W : World} {base : Nat} {spare : Nat → Bool} {held : Bool} {m : Nat} {c0 c1 : Value} {y} (h : DataW.trod enc Tryz.prog W base spare held m 84 [c0, c1] = some y) :
    ∃ (s : ByteArray) (a : Int), c0 = .string s ∧ c1 = .int .i64 a ∧ y.1 = .agg [.lit (.string s.data.toList), .lit (.int .i64 a)] := by
  obtain ⟨zs, m2, _, hy, _, hlen2, hgs⟩ := DataW.trod_struct Tryz.underlying84 h
  obtain ⟨z0, z1, rfl⟩ := list2 hlen2
  have g0 : DataW.trod enc Tryz.prog W base spare held m2 9 [c0] = some z0 := by have := hgs 0 _ rfl; simpa [cStr] using this
  have g1 : DataW.trod enc Tryz.prog W base spare held m2 82 [c1] = some z1 := by have := hgs 1 _ rfl; simpa [cStr, cOpd] using this
  obtain ⟨s, e0, rfl, -⟩ := DataW.trod_string Tryz.underlying9 g0
  obtain ⟨a, e1, rfl, -⟩ := DataW.trod_int Tryz.underlying82 g1
  simp at e0 e1
  exact ⟨s, a, e0, e1, by rw [hy]; rfl⟩
def wdsB : List ByteArray := rws.map fun r => ⟨r.1.toArray⟩
theorem gSg : Tryz.prog.globalNamed "retrace/lex.signs" = some 10 := by kernel_rfl
theorem gKw2 : Tryz.prog.globalNamed "retrace/retraceref02.keywords" = some 13 := by kernel_rfl
theorem gSg2 : Tryz.prog.globalNamed "retrace/retraceref02.signs" = some 11 := by kernel_rfl
theorem gWd : Tryz.prog.globalNamed "retrace/retraceref23.words" = some 4 := by kernel_rfl
theorem gRw : Tryz.prog.globalNamed "retrace/command.rows" = some 3 := by kernel_rfl
theorem gSyn : Tryz.prog.globalNamed "strconv.ErrSyntax" = some 14 := by kernel_rfl
theorem gRng : Tryz.prog.globalNamed "strconv.ErrRange" = some 15 := by kernel_rfl
theorem gPow : Tryz.prog.globalNamed "internal/strconv.uint64pow10" = some 6 := by kernel_rfl
theorem tKw : (Tryz.prog.globals[12]?).map (·.type) = some 154 := by kernel_rfl
theorem tSg : (Tryz.prog.globals[10]?).map (·.type) = some 151 := by kernel_rfl
theorem tKw2 : (Tryz.prog.globals[13]?).map (·.type) = some 154 := by kernel_rfl
theorem tSg2 : (Tryz.prog.globals[11]?).map (·.type) = some 151 := by kernel_rfl
theorem tWd : (Tryz.prog.globals[4]?).map (·.type) = some 107 := by kernel_rfl
theorem tRw : (Tryz.prog.globals[3]?).map (·.type) = some 85 := by kernel_rfl
theorem tSyn : (Tryz.prog.globals[14]?).map (·.type) = some 102 := by kernel_rfl
theorem tRng : (Tryz.prog.globals[15]?).map (·.type) = some 102 := by kernel_rfl
theorem tPow : (Tryz.prog.globals[6]?).map (·.type) = some 134 := by kernel_rfl
theorem star : "*" ++ "errors.errorString" = "*errors.errorString" := by decide
theorem rowErr (u : TypeId) (h : Tryz.prog.typeName? 3 u = some "*errors.errorString") : u = 167 :=
  typeName_ptr_named (nm := "errors.errorString") (by rw [star]; kernel_rfl) (by kernel_rfl) (by decide) u (by rw [star]; exact h)
theorem laid_in {W : World} {name : String} {d : DataW Unit} {rest : List (String × DataW Unit)} {g : Nat} (hg : Tryz.prog.globalNamed name = some g) (h : laidMet Tryz.prog ((name, d) :: rest) W) : g < W.heap.size := by
  obtain ⟨ps, ⟨g', t', cs, fuel, p, q, hg', ht', hvar, hd, _, _⟩, _⟩ := h
  unfold World.var? at hvar
  rw [hg, Option.bind_some] at hvar
  by_cases q : g < W.heap.size
  · exact q
  · rw [Array.getElem?_eq_none (by omega)] at hvar
    cases hvar
theorem sg_range {w : World} (h : Lx.StrIs Tryz.prog w "retrace/lex.signs" Lx.sgs) : w.rangeAt 10 0 Lx.sgCells := by
  intro j v hv
  have hj : j < Lx.sgs.length := by have := (List.getElem?_eq_some_iff.1 hv).1; simpa [Lx.sgCells] using this
  rw [Nat.zero_add, h.cell gSg j hj]
  simp only [Lx.sgCells, List.getElem?_map, List.getElem?_eq_getElem hj, Option.map_some, Option.some.injEq] at hv
  rw [← hv, List.getD_eq_getElem?_getD, List.getElem?_eq_getElem hj]
  rfl
theorem row_data : (Rows.laid_retrace_command_rows : DataW Unit) = .agg (rws.map fun r => .agg [.lit (.string r.1), .lit (.int .i64 (r.2 : Int))]) := by kernel_rfl
theorem wd_data : (Rows.laid_retrace_retraceref23_words : DataW Unit) = Lx.strData wdsB := by kernel_rfl
theorem rows_of {W : World} {rest : List (String × DataW Unit)} (h : laidMet Tryz.prog (("retrace/command.rows", Rows.laid_retrace_command_rows) :: rest) W) : W.rangeAt 3 0 rwCells := by
  rw [row_data] at h
  have key : ∀ k, k < 23 → W.cell? ⟨3, k * 2, none⟩ = some (.string ⟨(rws.getD k ([], 0)).1.toArray⟩) ∧ W.cell? ⟨3, k * 2 + 1, none⟩ = some (.int .i64 (tks k : Int)) := by
    intro k hk
    obtain ⟨c0, c1, y, _, _, _, _, _, hy, ht, d0, d1⟩ := laid_two gRw tRw Tryz.underlying85 (by kernel_rfl) (by kernel_rfl) h k hk
    obtain ⟨s, a, rfl, rfl, e⟩ := tr_row ht
    have hk' : k < rws.length := hk
    rw [List.getElem?_map, List.getElem?_eq_getElem hk', Option.map_some, Option.some.injEq, e] at hy
    simp only [DataW.agg.injEq, List.cons.injEq, DataW.lit.injEq, Lit.int.injEq, Lit.string.injEq, true_and, and_true] at hy
    obtain ⟨h1, h2⟩ := hy
    have e1 : (⟨(rws.getD k ([], 0)).1.toArray⟩ : ByteArray) = s := by
      refine ByteArray.ext (Array.ext' ?_)
      rw [List.getD_eq_getElem?_getD, List.getElem?_eq_getElem hk']
      exact h1
    have e2 : ((tks k : Nat) : Int) = a := by
      unfold tks
      rw [List.getD_eq_getElem?_getD, List.getElem?_eq_getElem hk']
      exact h2
    rw [e1, e2]
    exact ⟨d0, d1⟩
  intro j v hv
  have hj : j < 46 := (List.getElem?_eq_some_iff.1 hv).1
  rw [Nat.zero_add]
  obtain ⟨k, hk⟩ : ∃ k, j = 2 * k ∨ j = 2 * k + 1 := ⟨j / 2, by omega⟩
  have hk23 : k < 23 := by omega
  obtain ⟨h1, h2⟩ := rw_at k hk23
  obtain ⟨g1, g2⟩ := key k hk23
  rcases hk with rfl | rfl
  · rw [h1] at hv; rw [Nat.mul_comm 2 k, g1, hv]
  · rw [h2] at hv; rw [Nat.mul_comm 2 k, g2, hv]
abbrev laidP : List (String × DataW Unit) := [("math/bits.deBruijn32tab", Rows.laid_math_bits_deBruijn32tab), ("math/bits.deBruijn64tab", Rows.laid_math_bits_deBruijn64tab), ("internal/strconv.uint64pow10", Rows.laid_internal_strconv_uint64pow10), ("strconv.ErrRange", Rows.laid_strconv_ErrRange), ("strconv.ErrSyntax", Rows.laid_strconv_ErrSyntax), ("retrace/retraceref02.keywords", Rows.laid_retrace_retraceref02_keywords), ("retrace/retraceref02.signs", Rows.laid_retrace_retraceref02_signs), ("retrace/retraceref23.words", Rows.laid_retrace_retraceref23_words), ("retrace/lex.keywords", Rows.laid_retrace_lex_keywords), ("retrace/lex.signs", Rows.laid_retrace_lex_signs), ("retrace/command.rows", Rows.laid_retrace_command_rows)]
theorem tabs_of_laid {W : World} (h : laidMet Tryz.prog laidP W) : Tb W ∧ Lx.RTabs W ∧ RW W := by
  have h2 := h.tail.tail
  have h3 := h2.tail
  have h4 := h3.tail
  have h5 := h4.tail
  have h6 := h5.tail
  have h7 := h6.tail
  have h8 := h7.tail
  have h9 := h8.tail
  have h10 := h9.tail
  have hsz : 15 < W.heap.size := laid_in gRng h3
  obtain ⟨a7, _, hv7, _⟩ := laid_sentinel h3 gRng tRng Tryz.underlying102 rowErr Tryz.underlying167 Tryz.underlying169 rfl rfl Tryz.underlying9 (by kernel_rfl) cStr
  obtain ⟨a6, _, hv6, _⟩ := laid_sentinel h4 gSyn tSyn Tryz.underlying102 rowErr Tryz.underlying167 Tryz.underlying169 rfl rfl Tryz.underlying9 (by kernel_rfl) cStr
  have hk2 : Lx.StrIs Tryz.prog W "retrace/retraceref02.keywords" Lx.kws := Lx.strIs_of_head gKw2 tKw2 Tryz.underlying154 Tryz.underlying9 cStr (by kernel_rfl) h5
  have hg2 : Lx.StrIs Tryz.prog W "retrace/retraceref02.signs" Lx.sgs := Lx.strIs_of_head gSg2 tSg2 Tryz.underlying151 Tryz.underlying9 cStr (by kernel_rfl) h6
  rw [wd_data] at h7
  have hw : Lx.StrIs Tryz.prog W "retrace/retraceref23.words" wdsB := Lx.strIs_of_head gWd tWd Tryz.underlying107 Tryz.underlying9 cStr (by kernel_rfl) h7
  have hk : Lx.StrIs Tryz.prog W "retrace/lex.keywords" Lx.kws := Lx.strIs_of_head Lx.gKw tKw Tryz.underlying154 Tryz.underlying9 cStr (by kernel_rfl) h8
  have hg : Lx.StrIs Tryz.prog W "retrace/lex.signs" Lx.sgs := Lx.strIs_of_head gSg tSg Tryz.underlying151 Tryz.underlying9 cStr (by kernel_rfl) h9
  refine ⟨⟨⟨Lx.kw_range hk, sg_range hg, ⟨_, _, World.var?_cell gSyn hv6 0⟩, hsz, ⟨_, _, World.var?_cell gRng hv7 0⟩⟩, rows_of h10, Lib.tabIs_of_head gPow tPow Tryz.underlying134 Tryz.underlying119 (by kernel_rfl) (by kernel_rfl) h2⟩, ⟨fun j hj => hk2.cell gKw2 j hj, hsz, fun j hj => hg2.cell gSg2 j hj⟩, ?_⟩
  intro k hk
  have hk' : k < rws.length := hk
  rw [hw.cell gWd k (by show k < (rws.map _).length; rw [List.length_map]; exact hk')]
  unfold wdsB
  rw [List.getD_eq_getElem?_getD, List.getElem?_map, List.getD_eq_getElem?_getD, List.getElem?_eq_getElem hk']
  rfl
noncomputable def laidWorld (os : Os) : World := World.doorLaid Tryz.prog 167 os
set_option maxRecDepth 100000 in
theorem laid_met (os : Os) (args : Array Value) : laidMet Tryz.prog laidP ((laidWorld os).forCall (fun _ _ => 0) ⟨#[], args, []⟩).memory :=
  laidMet_of_run' 8 (by kernel_rfl) (by kernel_rfl)
set_option maxRecDepth 100000 in
theorem laid_vars (os : Os) (args : Array Value) : ((laidWorld os).forCall (fun _ _ => 0) ⟨#[], args, []⟩).variablesRefB Tryz.checked.prog = true := by kernel_rfl
set_option maxRecDepth 100000 in
theorem laid_heap (os : Os) (args : Array Value) : (((laidWorld os).forCall (fun _ _ => 0) ⟨#[], args, []⟩).heap.toList.drop Tryz.checked.prog.globals.size).take ((begin Tryz.checked.prog (fun _ _ => 0) default).world.heap.size - Tryz.checked.prog.globals.size) =
      (begin Tryz.checked.prog (fun _ _ => 0) default).world.heap.toList.drop Tryz.checked.prog.globals.size := by kernel_rfl
end Go.Proofs.YtichbejmelkjeaaGreatDoor

namespace Go.Proofs.YtichbejmelkjeaaGreatDoor
open Go.ChangeShapes Go.WideShapes Go.ChangeAt Go.RowKit

theorem bulk_pos {H : Type} (d : DataW H) : 1 ≤ Rows.uptoBulk d := by
  cases d with
  | lit l => cases l <;> simp [Rows.uptoBulk]
  | _ => simp [Rows.uptoBulk]
theorem list3 {α : Type} {xs : List α} (h : xs.length = 3) : ∃ c0 c1 c2, xs = [c0, c1, c2] := by
  match xs, h with
  | [c0, c1, c2], _ => exact ⟨c0, c1, c2, rfl⟩
theorem wf_i64 {n : Int} (h : (Lit.int .i64 n).wf = true) : -9223372036854775808 ≤ n ∧ n ≤ 9223372036854775807 := by simpa [Lit.wf, IntKind.min, IntKind.max, IntKind.signed, IntKind.bits] using h
theorem plain_of_cell {w : World} {a : Addr} {v : Value} (h : w.cell? a = some v) : a = ⟨a.block, a.off, none⟩ ∧ a.block < w.heap.size := by
  refine ⟨?_, World.block_lt_of_cell? w a h⟩
  obtain ⟨b, o, sp⟩ := a
  cases sp with
  | none => rfl
  | some q =>
    unfold World.cell? at h
    split at h
    · simp at h
    · cases h
theorem cRsp : Tryz.prog.cellsOf 38 = 5 := by kernel_rfl
theorem cStp : Tryz.prog.cellsOf 30 = 3 := by kernel_rfl
theorem cErn : Tryz.prog.cellsOf 35 = 1 := by kernel_rfl
theorem cStK : Tryz.prog.cellsOf 28 = 1 := by kernel_rfl
theorem cIn : Tryz.prog.cellsOf 3 = 1 := by kernel_rfl
theorem cSl : Tryz.prog.cellsOf 36 = 1 := by kernel_rfl
/-- The text of a datum. -/
def txD {H : Type} (d : DataW H) : List UInt8 := match d with | .lit (.string l) => l | _ => []
section
variable {H : Type} {enc : TypeId × Value → H} {W : World} {base : Nat} {spare : Nat → Bool} {held : Bool}
theorem op_intB {t : TypeId} (ht : Tryz.prog.underlying t = some (.int .i64)) (n : Nat) (c : Value) (y : DataW H × List MemPlace) (h : DataW.trod enc Tryz.prog W base spare held n t [c] = some y) : ∃ a : Int, c = .int .i64 a ∧ -9223372036854775808 ≤ a ∧ a ≤ 9223372036854775807 := by
  obtain ⟨a, e, -, w⟩ := DataW.trod_int ht h
  simp at e
  exact ⟨a, e, wf_i64 w⟩
theorem bulk_sum : ∀ l : List (DataW H), ((l.map txD).map (fun x => x.length + 1)).sum ≤ Rows.uptoBulkAll l := by
  intro l
  induction l with
  | nil => simp
  | cons d l ih =>
    simp only [Rows.uptoBulkAll, List.map_cons, List.sum_cons]
    have h1 : (txD d).length + 1 ≤ Rows.uptoBulk d := by
      have := bulk_pos d
      unfold txD
      split
      · simp [Rows.uptoBulk]
      · simp; omega
    omega
theorem slice_strs {fuel : Nat} {c : Value} {x : DataW H × List MemPlace} (h : DataW.trod enc Tryz.prog W base spare held fuel 36 [c] = some x) : ∃ (q : Option Addr) (cap : Nat) (L : List (List UInt8)), c = .slice q L.length cap ∧ L.length ≤ cap ∧ Row W W.heap.size q L.length (L.map sV) ∧ (L.map (fun x => x.length + 1)).sum ≤ Rows.uptoBulk x.1 := by
  rcases DataW.trod_slice Tryz.underlying36 h with ⟨h0, _⟩ | ⟨a, len, cap, elems, rest, n, _, h0, rfl, _, hlc, _, hlen, hel, _, _⟩
  · exact ⟨none, 0, [], by simpa using h0, Nat.le_refl _, fun h => by simp at h, by simp⟩
  · have str : ∀ i, i < len → ∃ (s : ByteArray) (y : DataW H × List MemPlace), elems[i]? = some y ∧ txD y.1 = s.data.toList ∧ W.cell? (a.add i) = some (.string s) := by
      intro i hi
      have := hel i hi
      rw [cStr, List.getElem?_eq_getElem (by omega), Option.bind_eq_some_iff] at this
      obtain ⟨cs, h1, h2⟩ := this
      obtain ⟨s, rfl, hy, -⟩ := DataW.trod_string Tryz.underlying9 h2
      obtain ⟨_, _, h4⟩ := World.cells?_some h1
      have h5 := h4 0 (by omega)
      refine ⟨s, _, List.getElem?_eq_getElem (by omega), by rw [hy]; rfl, ?_⟩
      rw [Nat.mul_one] at h5
      simpa [Addr.add] using h5
    have hll : ((elems.map (·.1)).map txD).length = len := by rw [List.length_map, List.length_map, hlen]
    refine ⟨some a, cap, (elems.map (·.1)).map txD, by rw [hll]; simpa using h0, by rw [hll]; exact hlc, fun hp => ?_, ?_⟩
    · rw [hll] at hp
      obtain ⟨s0, y0, -, -, c0⟩ := str 0 hp
      have ha0 : a.add 0 = a := by simp [Addr.add]
      rw [ha0] at c0
      obtain ⟨ha, hg⟩ := plain_of_cell c0
      refine ⟨a.block, a.off, congrArg some ha, hg, fun j v hv => ?_⟩
      have hj : j < len := by
        have := (List.getElem?_eq_some_iff.1 hv).1
        rw [List.length_map, hll] at this
        exact this
      obtain ⟨s, y, hy, ht, hc⟩ := str j hj
      rw [List.getElem?_map, List.getElem?_map, List.getElem?_map, hy] at hv
      simp only [Option.map_some, Option.some.injEq] at hv
      rw [ha, Addr.add_mid] at hc
      rw [hc, ← hv, ht]
      rfl
    · have := bulk_sum (elems.map (·.1))
      simp only [Rows.uptoBulk]
      omega
theorem op_resp (n : Nat) (c0 c1 c2 c3 c4 : Value) (y : DataW H × List MemPlace) (h : DataW.trod enc Tryz.prog W base spare held n 38 [c0, c1, c2, c3, c4] = some y) : ∃ (st a1 a2 a3 : Int) (q : Option Addr) (cap : Nat) (L : List (List UInt8)), c0 = .int .i64 st ∧ c1 = .int .i64 a1 ∧ c2 = .int .i64 a2 ∧ c3 = .int .i64 a3 ∧ c4 = .slice q L.length cap ∧ (-9223372036854775808 ≤ st ∧ st ≤ 9223372036854775807) ∧ L.length ≤ cap ∧ Row W W.heap.size q L.length (L.map sV) ∧ (L.map (fun x => x.length + 1)).sum ≤ Rows.uptoBulk y.1 := by
  obtain ⟨zs, m, _, hy, _, hlen, hgs⟩ := DataW.trod_struct Tryz.underlying38 h
  obtain ⟨z0, z1, z2, rfl⟩ := list3 hlen
  have g0 : DataW.trod enc Tryz.prog W base spare held m 35 [c0] = some z0 := by have := hgs 0 _ rfl; simpa [cErn] using this
  have g1 : DataW.trod enc Tryz.prog W base spare held m 30 [c1, c2, c3] = some z1 := by have := hgs 1 _ rfl; simpa [cErn, cStp] using this
  have g2 : DataW.trod enc Tryz.prog W base spare held m 36 [c4] = some z2 := by have := hgs 2 _ rfl; simpa [cErn, cStp, cSl] using this
  obtain ⟨st, rfl, hst⟩ := op_intB Tryz.underlying35 m c0 z0 g0
  obtain ⟨q, cap, L, rfl, hc, hr, hb⟩ := slice_strs g2
  obtain ⟨ws, m2, _, _, _, hlen2, hfs⟩ := DataW.trod_struct Tryz.underlying30 g1
  obtain ⟨w0, w1, w2, rfl⟩ := list3 hlen2
  have k0 : DataW.trod enc Tryz.prog W base spare held m2 28 [c1] = some w0 := by have := hfs 0 _ rfl; simpa [cStK] using this
  have k1 : DataW.trod enc Tryz.prog W base spare held m2 3 [c2] = some w1 := by have := hfs 1 _ rfl; simpa [cStK, cIn] using this
  have k2 : DataW.trod enc Tryz.prog W base spare held m2 3 [c3] = some w2 := by have := hfs 2 _ rfl; simpa [cStK, cIn] using this
  obtain ⟨a1, rfl, -⟩ := op_intB Tryz.underlying28 m2 c1 w0 k0
  obtain ⟨a2, rfl, -⟩ := op_intB Tryz.underlying3 m2 c2 w1 k1
  obtain ⟨a3, rfl, -⟩ := op_intB Tryz.underlying3 m2 c3 w2 k2
  subst hy
  refine ⟨st, a1, a2, a3, q, cap, L, rfl, rfl, rfl, rfl, rfl, hst, hc, hr, ?_⟩
  simp only [List.map_cons, List.map_nil, Rows.uptoBulk, Rows.uptoBulkAll]
  omega
end
end Go.Proofs.YtichbejmelkjeaaGreatDoor

namespace Go.Proofs.YtichbejmelkjeaaGreatDoor
open Go.ChangeShapes Go.WideShapes Go.ChangeAt Go.RowKit

theorem listN4 {α : Type} {xs : List α} (h : xs.length = 4) : ∃ c0 c1 c2 c3, xs = [c0, c1, c2, c3] := by
  match xs, h with
  | [c0, c1, c2, c3], _ => exact ⟨c0, c1, c2, c3, rfl⟩
theorem listN2 {α : Type} {xs : List α} (h : xs.length = 2) : ∃ c0 c1, xs = [c0, c1] := by
  match xs, h with
  | [c0, c1], _ => exact ⟨c0, c1, rfl⟩
theorem cTold : Tryz.prog.cellsOf 40 = 16 := by kernel_rfl
theorem cEvt : Tryz.prog.cellsOf 27 = 6 := by kernel_rfl
theorem cOut : Tryz.prog.cellsOf 34 = 2 := by kernel_rfl
theorem cVal : Tryz.prog.cellsOf 25 = 3 := by kernel_rfl
theorem cEvK : Tryz.prog.cellsOf 22 = 1 := by kernel_rfl
theorem cVaK : Tryz.prog.cellsOf 23 = 1 := by kernel_rfl
theorem cI6 : Tryz.prog.cellsOf 2 = 1 := by kernel_rfl
theorem cPha : Tryz.prog.cellsOf 31 = 1 := by kernel_rfl
theorem cTra : Tryz.prog.cellsOf 32 = 1 := by kernel_rfl
section
variable {H : Type} {enc : TypeId × Value → H} {W : World} {base : Nat} {spare : Nat → Bool} {held : Bool}
abbrev I64 (n : Int) : Prop := -9223372036854775808 ≤ n ∧ n ≤ 9223372036854775807
theorem op_strT (n : Nat) (c : Value) (y : DataW H × List MemPlace) (h : DataW.trod enc Tryz.prog W base spare held n 9 [c] = some y) : ∃ a : ByteArray, c = .string a ∧ a.size + 1 = Rows.uptoBulk y.1 := by
  obtain ⟨a, e, rfl, -⟩ := DataW.trod_string Tryz.underlying9 h
  simp at e
  exact ⟨a, e, by show a.size + 1 = a.data.toList.length + 1; rw [Lib.size_eq]⟩
theorem op_valT (n : Nat) (c0 c1 c2 : Value) (y : DataW H × List MemPlace) (h : DataW.trod enc Tryz.prog W base spare held n 25 [c0, c1, c2] = some y) : ∃ (k m : Int) (s : ByteArray), c0 = .int .i64 k ∧ c1 = .int .i64 m ∧ c2 = .string s ∧ I64 m ∧ s.size ≤ Rows.uptoBulk y.1 := by
  obtain ⟨zs, m, _, hy, _, hlen, hgs⟩ := DataW.trod_struct Tryz.underlying25 h
  obtain ⟨z0, z1, z2, rfl⟩ := list3 hlen
  have g0 : DataW.trod enc Tryz.prog W base spare held m 23 [c0] = some z0 := by have := hgs 0 _ rfl; simpa [cVaK] using this
  have g1 : DataW.trod enc Tryz.prog W base spare held m 2 [c1] = some z1 := by have := hgs 1 _ rfl; simpa [cVaK, cI6] using this
  have g2 : DataW.trod enc Tryz.prog W base spare held m 9 [c2] = some z2 := by have := hgs 2 _ rfl; simpa [cVaK, cI6, cStr] using this
  obtain ⟨k, rfl, -⟩ := op_intB Tryz.underlying23 m c0 z0 g0
  obtain ⟨b, rfl, hb⟩ := op_intB Tryz.underlying2 m c1 z1 g1
  obtain ⟨s, rfl, hs⟩ := op_strT m c2 z2 g2
  subst hy
  refine ⟨k, b, s, rfl, rfl, rfl, hb, ?_⟩
  simp only [List.map_cons, List.map_nil, Rows.uptoBulk, Rows.uptoBulkAll]
  omega
theorem op_evT (n : Nat) (c0 c1 c2 c3 c4 c5 : Value) (y : DataW H × List MemPlace) (h : DataW.trod enc Tryz.prog W base spare held n 27 [c0, c1, c2, c3, c4, c5] = some y) : ∃ (k n vk vn : Int) (nm vs : ByteArray), c0 = .int .i64 k ∧ c1 = .int .i64 n ∧ c2 = .string nm ∧ c3 = .int .i64 vk ∧ c4 = .int .i64 vn ∧ c5 = .string vs ∧ I64 n ∧ I64 vn ∧ nm.size ≤ Rows.uptoBulk y.1 ∧ vs.size ≤ Rows.uptoBulk y.1 := by
  obtain ⟨zs, m, _, hy, _, hlen, hgs⟩ := DataW.trod_struct Tryz.underlying27 h
  obtain ⟨z0, z1, z2, z3, rfl⟩ := listN4 hlen
  have g0 : DataW.trod enc Tryz.prog W base spare held m 22 [c0] = some z0 := by have := hgs 0 _ rfl; simpa [cEvK] using this
  have g1 : DataW.trod enc Tryz.prog W base spare held m 3 [c1] = some z1 := by have := hgs 1 _ rfl; simpa [cEvK, cIn] using this
  have g2 : DataW.trod enc Tryz.prog W base spare held m 9 [c2] = some z2 := by have := hgs 2 _ rfl; simpa [cEvK, cIn, cStr] using this
  have g3 : DataW.trod enc Tryz.prog W base spare held m 25 [c3, c4, c5] = some z3 := by have := hgs 3 _ rfl; simpa [cEvK, cIn, cStr, cVal] using this
  obtain ⟨k, rfl, -⟩ := op_intB Tryz.underlying22 m c0 z0 g0
  obtain ⟨a, rfl, ha⟩ := op_intB Tryz.underlying3 m c1 z1 g1
  obtain ⟨nm, rfl, hs⟩ := op_strT m c2 z2 g2
  obtain ⟨vk, vn, vs, rfl, rfl, rfl, hv, hw⟩ := op_valT m c3 c4 c5 z3 g3
  subst hy
  refine ⟨k, a, vk, vn, nm, vs, rfl, rfl, rfl, rfl, rfl, rfl, ha, hv, ?_, ?_⟩
  all_goals
    simp only [List.map_cons, List.map_nil, Rows.uptoBulk, Rows.uptoBulkAll]
    omega
theorem op_stT (n : Nat) (c0 c1 c2 : Value) (y : DataW H × List MemPlace) (h : DataW.trod enc Tryz.prog W base spare held n 30 [c0, c1, c2] = some y) : ∃ k a p : Int, c0 = .int .i64 k ∧ c1 = .int .i64 a ∧ c2 = .int .i64 p ∧ I64 a ∧ I64 p := by
  obtain ⟨ws, m2, _, _, _, hlen2, hfs⟩ := DataW.trod_struct Tryz.underlying30 h
  obtain ⟨w0, w1, w2, rfl⟩ := list3 hlen2
  have k0 : DataW.trod enc Tryz.prog W base spare held m2 28 [c0] = some w0 := by have := hfs 0 _ rfl; simpa [cStK] using this
  have k1 : DataW.trod enc Tryz.prog W base spare held m2 3 [c1] = some w1 := by have := hfs 1 _ rfl; simpa [cStK, cIn] using this
  have k2 : DataW.trod enc Tryz.prog W base spare held m2 3 [c2] = some w2 := by have := hfs 2 _ rfl; simpa [cStK, cIn] using this
  obtain ⟨a1, rfl, -⟩ := op_intB Tryz.underlying28 m2 c0 w0 k0
  obtain ⟨a2, rfl, h2⟩ := op_intB Tryz.underlying3 m2 c1 w1 k1
  obtain ⟨a3, rfl, h3⟩ := op_intB Tryz.underlying3 m2 c2 w2 k2
  exact ⟨a1, a2, a3, rfl, rfl, rfl, h2, h3⟩
theorem op_ouT (n : Nat) (c0 c1 : Value) (y : DataW H × List MemPlace) (h : DataW.trod enc Tryz.prog W base spare held n 34 [c0, c1] = some y) : ∃ ph t : Int, c0 = .int .i64 ph ∧ c1 = .int .i64 t := by
  obtain ⟨ws, m2, _, _, _, hlen2, hfs⟩ := DataW.trod_struct Tryz.underlying34 h
  obtain ⟨w0, w1, rfl⟩ := listN2 hlen2
  have k0 : DataW.trod enc Tryz.prog W base spare held m2 31 [c0] = some w0 := by have := hfs 0 _ rfl; simpa [cPha] using this
  have k1 : DataW.trod enc Tryz.prog W base spare held m2 32 [c1] = some w1 := by have := hfs 1 _ rfl; simpa [cPha, cTra] using this
  obtain ⟨a1, rfl, -⟩ := op_intB Tryz.underlying31 m2 c0 w0 k0
  obtain ⟨a2, rfl, -⟩ := op_intB Tryz.underlying32 m2 c1 w1 k1
  exact ⟨a1, a2, rfl, rfl⟩
end
end Go.Proofs.YtichbejmelkjeaaGreatDoor

namespace Go.Proofs.YtichbejmelkjeaaGreatDoor
open Go.ChangeShapes Go.WideShapes Go.ChangeAt Go.RowKit

set_option maxRecDepth 100000 in
theorem open_told {H : Type} {enc : TypeId × Value → H} {W : World} {base : Nat} {spare : Nat → Bool} {held : Bool} {b0 : Nat} {r : Reach} {v : Value} {d : DataW H} {p : List MemPlace} (hv : Value.okWide Tryz.prog W r b0 40 v) (h : DataW.Trod enc Tryz.prog W base spare held 40 v d p) (hb : Rows.uptoBulk d ≤ 1048576) :
    ∃ (k n vk vn : Int) (nm vs : ByteArray) (sk sa sp ph t st a1 a2 a3 : Int) (q : Option Addr) (cap : Nat) (L : List (List UInt8)), v = .agg #[.int .i64 k, .int .i64 n, .string nm, .int .i64 vk, .int .i64 vn, .string vs, .int .i64 sk, .int .i64 sa, .int .i64 sp, .int .i64 ph, .int .i64 t, .int .i64 st, .int .i64 a1, .int .i64 a2, .int .i64 a3, .slice q L.length cap] ∧ I64 n ∧ I64 vn ∧ nm.size ≤ 1048576 ∧ vs.size ≤ 1048576 ∧ I64 sa ∧ I64 sp ∧ I64 st ∧ L.length ≤ cap ∧ Row W W.heap.size q L.length (L.map sV) ∧ (L.map (fun x => x.length + 1)).sum ≤ 1048576 := by
  obtain ⟨cs, rfl, hsz⟩ := okWide_struct Tryz.underlying40 hv
  obtain ⟨c0, c1, c2, c3, c4, c5, c6, c7, c8, c9, d0, d1, d2, d3, d4, d5, rfl⟩ : ∃ c0 c1 c2 c3 c4 c5 c6 c7 c8 c9 d0 d1 d2 d3 d4 d5, cs = #[c0, c1, c2, c3, c4, c5, c6, c7, c8, c9, d0, d1, d2, d3, d4, d5] := by
    have h1 : cs.size = 16 := hsz.trans cTold
    obtain ⟨l⟩ := cs
    match l, h1 with
    | [c0, c1, c2, c3, c4, c5, c6, c7, c8, c9, d0, d1, d2, d3, d4, d5], _ => exact ⟨c0, c1, c2, c3, c4, c5, c6, c7, c8, c9, d0, d1, d2, d3, d4, d5, rfl⟩
  obtain ⟨fuel, hf⟩ := h
  obtain ⟨xs, m, _, hx, _, hlen, hfs⟩ := DataW.trod_struct Tryz.underlying40 hf
  obtain ⟨z0, z1, z2, z3, rfl⟩ := listN4 hlen
  have g0 : DataW.trod enc Tryz.prog W base spare held m 27 [c0, c1, c2, c3, c4, c5] = some z0 := by have := hfs 0 _ rfl; simpa [Value.cells, cEvt] using this
  have g1 : DataW.trod enc Tryz.prog W base spare held m 30 [c6, c7, c8] = some z1 := by have := hfs 1 _ rfl; simpa [Value.cells, cEvt, cStp] using this
  have g2 : DataW.trod enc Tryz.prog W base spare held m 34 [c9, d0] = some z2 := by have := hfs 2 _ rfl; simpa [Value.cells, cEvt, cStp, cOut] using this
  have g3 : DataW.trod enc Tryz.prog W base spare held m 38 [d1, d2, d3, d4, d5] = some z3 := by have := hfs 3 _ rfl; simpa [Value.cells, cEvt, cStp, cOut, cRsp] using this
  simp only [Prod.mk.injEq] at hx
  have hd0 := hx.1
  subst hd0
  simp only [List.map_cons, List.map_nil, Rows.uptoBulk, Rows.uptoBulkAll] at hb
  obtain ⟨k, n, vk, vn, nm, vs, rfl, rfl, rfl, rfl, rfl, rfl, h1, h2, h3, h4⟩ := op_evT m c0 c1 c2 c3 c4 c5 z0 g0
  obtain ⟨sk, sa, sp, rfl, rfl, rfl, h5, h6⟩ := op_stT m c6 c7 c8 z1 g1
  obtain ⟨ph, t, rfl, rfl⟩ := op_ouT m c9 d0 z2 g2
  obtain ⟨st, a1, a2, a3, q, cap, L, rfl, rfl, rfl, rfl, rfl, k1, k2, k3, k4⟩ := op_resp m d1 d2 d3 d4 d5 z3 g3
  exact ⟨k, n, vk, vn, nm, vs, sk, sa, sp, ph, t, st, a1, a2, a3, q, cap, L, rfl, h1, h2, by omega, by omega, h5, h6, k1, k2, k3, by omega⟩
end Go.Proofs.YtichbejmelkjeaaGreatDoor
