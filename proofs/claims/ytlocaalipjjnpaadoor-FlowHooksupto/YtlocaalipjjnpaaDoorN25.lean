import Derived.Test.YtlocaalipjjnpaaDoorRows
import Derived.WalkKit
import Derived.ProofKit
import Derived.LaidMore
import Derived.Deep.DeepHandedRow
import Derived.Deep.DeepWitnessRowRef
import Derived.Lib.LaidTab
import Derived.Stop.LaidErr
import Derived.Test.YtlocaalipjjnpaaDoorN24
import Derived.Test.YtlocaalipjjnpaaDoorN22
namespace Go.Proofs.YtlocaalipjjnpaaDoor
open Go.ChangeShapes Go.WideShapes Go.ChangeAt Go.RowKit

theorem own : ownKnob Tryd.prog.godebug = none := by kernel_rfl
theorem g0Type : (Tryd.prog.globals[0]?).map (·.type) = some 105 := by kernel_rfl
theorem g1Type : (Tryd.prog.globals[1]?).map (·.type) = some 105 := by kernel_rfl
theorem gRk : Tryd.prog.globalNamed "retrace/retraceref02.keywords" = some 0 := by kernel_rfl
theorem cells105 : Tryd.prog.cellsOf 105 = 20 := by kernel_rfl
theorem cells9 : Tryd.prog.cellsOf 9 = 1 := by kernel_rfl

abbrev laidF : List (String × DataW Unit) := [("retrace/retraceref02.keywords", Rows.laid_retrace_retraceref02_keywords), ("retrace/lex.keywords", Rows.laid_retrace_lex_keywords)]

theorem tbs_of_laid {W : World} (h : laidMet Tryd.prog laidF W) : Tbs W := by
  have hr : StrIs Tryd.prog W "retrace/retraceref02.keywords" kws := strIs_of_head gRk g0Type Tryd.underlying105 Tryd.underlying9 cells9 cells105 h
  have hk : StrIs Tryd.prog W "retrace/lex.keywords" kws := strIs_of_head (rest := []) gKw g1Type Tryd.underlying105 Tryd.underlying9 cells9 cells105 h.tail
  exact ⟨⟨kw_range hk, World.block_lt_of_cell? W ⟨1, 0, none⟩ (hk.cell gKw 0 (by decide))⟩, fun j hj => hr.cell gRk j hj⟩

noncomputable def laidWorld (os : Os) : World := World.doorLaid Tryd.prog 44 os
set_option maxRecDepth 100000 in
theorem laid_met (os : Os) (args : Array Value) : laidMet Tryd.prog laidF ((laidWorld os).forCall (fun _ _ => 0) ⟨#[], args, []⟩).memory :=
  laidMet_of_run' 8 (by kernel_rfl) (by kernel_rfl)
set_option maxRecDepth 100000 in
theorem laid_vars (os : Os) (args : Array Value) : ((laidWorld os).forCall (fun _ _ => 0) ⟨#[], args, []⟩).variablesRefB Tryd.checked.prog = true := by kernel_rfl
set_option maxRecDepth 100000 in
theorem laid_heap (os : Os) (args : Array Value) : (((laidWorld os).forCall (fun _ _ => 0) ⟨#[], args, []⟩).heap.toList.drop Tryd.checked.prog.globals.size).take ((begin Tryd.checked.prog (fun _ _ => 0) default).world.heap.size - Tryd.checked.prog.globals.size) =
      (begin Tryd.checked.prog (fun _ _ => 0) default).world.heap.toList.drop Tryd.checked.prog.globals.size := by kernel_rfl

theorem wf_i64 {n : Int} (h : (Lit.int .i64 n).wf = true) : n ≤ 9223372036854775807 := by
  have h2 : IntKind.i64.min ≤ n ∧ n ≤ 9223372036854775807 := by simpa [Lit.wf] using h
  exact h2.2

/-- A node, read. -/
theorem nd_cellsR {H : Type} {enc : TypeId × Value → H} {W : World} {base : Nat} {spare : Nat → Bool} {held : Bool} {fuel : Nat} {cs : List Value} {x : DataW H × List MemPlace} (hl : cs.length = 9) (h : DataW.trod enc Tryd.prog W base spare held fuel 39 cs = some x) (hw : Light 39 x.1) :
    ∃ y : Nd, cs = (ndV y).toList ∧ y.name.size ≤ 140737488355328 ∧ y.label.size ≤ 140737488355328 ∧ y.typ.size ≤ 140737488355328 ∧ y.text.size ≤ 140737488355328 ∧ y.pos ≤ 9223372036854775807 ∧ y.int ≤ 9223372036854775807 := by
  obtain ⟨c0, c1, c2, c3, c4, c5, c6, c7, c8, rfl⟩ := list9 hl
  obtain ⟨xs, m, _, hx, _, hlen, hfs⟩ := DataW.trod_struct Tryd.underlying39 h
  obtain ⟨y0, y1, y2, y3, y4, y5, y6, y7, y8, rfl⟩ := list9 hlen
  have f0 : DataW.trod enc Tryd.prog W base spare held m 36 [c0] = some y0 := by have := hfs 0 _ rfl; simpa [bcells25] using this
  have f1 : DataW.trod enc Tryd.prog W base spare held m 3 [c1] = some y1 := by have := hfs 1 _ rfl; simpa [bcells3] using this
  have f2 : DataW.trod enc Tryd.prog W base spare held m 9 [c2] = some y2 := by have := hfs 2 _ rfl; simpa [bcells9] using this
  have f3 : DataW.trod enc Tryd.prog W base spare held m 9 [c3] = some y3 := by have := hfs 3 _ rfl; simpa [bcells9] using this
  have f4 : DataW.trod enc Tryd.prog W base spare held m 9 [c4] = some y4 := by have := hfs 4 _ rfl; simpa [bcells9] using this
  have f5 : DataW.trod enc Tryd.prog W base spare held m 37 [c5] = some y5 := by have := hfs 5 _ rfl; simpa [bcells34] using this
  have f6 : DataW.trod enc Tryd.prog W base spare held m 2 [c6] = some y6 := by have := hfs 6 _ rfl; simpa [bcells2] using this
  have f7 : DataW.trod enc Tryd.prog W base spare held m 9 [c7] = some y7 := by have := hfs 7 _ rfl; simpa [bcells9] using this
  have f8 : DataW.trod enc Tryd.prog W base spare held m 3 [c8] = some y8 := by have := hfs 8 _ rfl; simpa [bcells3] using this
  obtain ⟨a0, e0, _, _⟩ := DataW.trod_int Tryd.underlying36 f0
  obtain ⟨a1, e1, _, wf1⟩ := DataW.trod_int Tryd.underlying3 f1
  obtain ⟨s2, e2, rfl, _⟩ := DataW.trod_string Tryd.underlying9 f2
  obtain ⟨s3, e3, rfl, _⟩ := DataW.trod_string Tryd.underlying9 f3
  obtain ⟨s4, e4, rfl, _⟩ := DataW.trod_string Tryd.underlying9 f4
  obtain ⟨a5, e5, _, _⟩ := DataW.trod_int Tryd.underlying37 f5
  obtain ⟨a6, e6, _, wf6⟩ := DataW.trod_int Tryd.underlying2 f6
  obtain ⟨s7, e7, rfl, _⟩ := DataW.trod_string Tryd.underlying9 f7
  obtain ⟨a8, e8, _, _⟩ := DataW.trod_int Tryd.underlying3 f8
  simp at e0 e1 e2 e3 e4 e5 e6 e7 e8
  subst e0 e1 e2 e3 e4 e5 e6 e7 e8
  have hwt : ∀ (j : Nat) (s : ByteArray), ([36, 3, 9, 9, 9, 37, 2, 9, 3] : List TypeId)[j]? = some 9 → ([y0, y1, (.lit (.string s2.data.toList), []), (.lit (.string s3.data.toList), []), (.lit (.string s4.data.toList), []), y5, y6, (.lit (.string s7.data.toList), []), y8].map (·.1) : List (DataW H))[j]? = some (.lit (.string s.data.toList)) → s.size ≤ 140737488355328 := fun j s h1 h2 => by
    have h3 := DataW.weights_mem_each (P := Tryd.prog) h1 h2 s.data.toList.length (by simp [DataW.weights])
    have h4 := hw s.data.toList.length (by rw [hx]; simp only [DataW.weights, Tryd.underlying39]; exact h3)
    have := reachBytes_lt
    rw [Lib.size_eq]
    omega
  exact ⟨⟨a0, a1, s2, s3, s4, a5, a6, s7, a8⟩, rfl, hwt 2 s2 rfl rfl, hwt 3 s3 rfl rfl, hwt 4 s4 rfl rfl, hwt 7 s7 rfl rfl, wf_i64 wf1, wf_i64 wf6⟩

/-- A list of nodes, read. -/
theorem open_nodesR {H : Type} {enc : TypeId × Value → H} {W : World} {base : Nat} {spare : Nat → Bool} {held : Bool} {fuel : Nat} {c : Value} {x : DataW H × List MemPlace} (h : DataW.trod enc Tryd.prog W base spare held fuel 22 [c] = some x) (hw : Light 22 x.1) :
    ∃ (p : Option Addr) (n cap : Nat) (L : List Nd), c = .slice p n cap ∧ Arg W p n cap L ∧ Rng L ∧ (∀ i, i < L.length → (nd L i).pos ≤ 9223372036854775807) := by
  obtain ⟨p, n, cap, f, rfl, hnil, hn, hel⟩ := slice_at (m := 9) (by omega) Tryd.underlying22 bcells36 h hw
  rw [bbytes36] at hn
  have hr := reachBytes_eq
  have key : ∀ i : Fin n, ∃ y : Nd, (∃ g o, p = some ⟨g, o, none⟩ ∧ g < W.heap.size ∧ ∀ (j : Nat) (v : Value), (ndV y)[j]? = some v → W.cell? ⟨g, o + i.1 * 9 + j, none⟩ = some v) ∧ y.name.size ≤ 140737488355328 ∧ y.label.size ≤ 140737488355328 ∧ y.typ.size ≤ 140737488355328 ∧ y.text.size ≤ 140737488355328 ∧ y.pos ≤ 9223372036854775807 ∧ y.int ≤ 9223372036854775807 := fun i => by
    obtain ⟨g, o, cs, y, hp, hg, hl, hc, hy, hby⟩ := hel i.1 i.2
    obtain ⟨z, rfl, h1, h2, h3, h4, h5, h6⟩ := nd_cellsR hl hy hby
    refine ⟨z, ⟨g, o, hp, hg, fun j v hv => ?_⟩, h1, h2, h3, h4, h5, h6⟩
    have hj : j < 9 := (Array.getElem?_eq_some_iff.1 hv).1
    rw [hc j hj]
    simpa using hv
  obtain ⟨F, hF⟩ := Classical.axiomOfChoice key
  have hnd : ∀ (i : Nat) (hi : i < n), nd (List.ofFn F) i = F ⟨i, hi⟩ := fun i hi => by simp [nd, hi]
  have hlen : (List.ofFn F).length = n := by simp
  refine ⟨p, n, cap, List.ofFn F, rfl, ⟨⟨⟨by rw [hlen]; omega, fun i hi => ?_⟩, hlen, fun hne => ?_⟩, hnil⟩, fun i hi => by rw [hlen] at hi; rw [hnd i hi]; exact (hF ⟨i, hi⟩).2.2.2.2.2.2, fun i hi => by rw [hlen] at hi; rw [hnd i hi]; exact (hF ⟨i, hi⟩).2.2.2.2.2.1⟩
  · rw [hlen] at hi
    rw [hnd i hi]
    obtain ⟨_, h1, h2, h3, h4, _⟩ := hF ⟨i, hi⟩
    exact ⟨h1, h2, h3, h4⟩
  · have h0 : 0 < n := by
      rcases Nat.eq_zero_or_pos n with h | h
      · exact absurd (List.length_eq_zero_iff.1 (hlen.trans h)) hne
      · exact h
    obtain ⟨⟨g, o, hp, hg, _⟩, _⟩ := hF ⟨0, h0⟩
    refine ⟨g, o, hp, hg, fun i hi j v hv => ?_⟩
    rw [hlen] at hi
    rw [hnd i hi] at hv
    obtain ⟨⟨g', o', hp', _, hc⟩, _⟩ := hF ⟨i, hi⟩
    rw [hp] at hp'
    cases hp'
    exact hc j v hv


set_option maxRecDepth 100000 in
theorem open_treeR {H : Type} {enc : TypeId × Value → H} {W : World} {base b0 : Nat} {spare : Nat → Bool} {held : Bool} {r : Reach} {v : Value} {d : DataW H} {p : List MemPlace} (hv : Value.okWide Tryd.prog W r b0 24 v) (h : DataW.Trod enc Tryd.prog W base spare held 24 v d p) (hd : Light 24 d) :
    ∃ (q : Option Addr) (n cap : Nat) (L : List Nd), v = .agg #[.slice q n cap] ∧ Arg W q n cap L ∧ Rng L := by
  obtain ⟨cs, rfl, hsz⟩ := okWide_struct Tryd.underlying24 hv
  obtain ⟨c0, rfl⟩ : ∃ c0, cs = #[c0] := by
    have h1 : cs.size = 1 := hsz.trans bcells24
    obtain ⟨l⟩ := cs
    match l, h1 with
    | [c0], _ => exact ⟨c0, rfl⟩
  obtain ⟨fuel, hf⟩ := h
  obtain ⟨xs, m, _, hx, _, hlen, hfs⟩ := DataW.trod_struct Tryd.underlying24 hf
  obtain ⟨z0, rfl⟩ := list1 hlen
  have g0 : DataW.trod enc Tryd.prog W base spare held m 22 [c0] = some z0 := by have := hfs 0 _ rfl; simpa [Value.cells, bcells22] using this
  simp only [Prod.mk.injEq] at hx
  have hd0 := hx.1
  subst hd0
  have hz : Light 22 z0.1 := fun m hm => hd m (by simp only [DataW.weights, Tryd.underlying24]; exact DataW.weights_mem_each (P := Tryd.prog) (ts := [22]) (ds := [z0].map (·.1)) (j := 0) rfl rfl m hm)
  obtain ⟨q, n, cap, L, rfl, hA, hr, _⟩ := open_nodesR g0 hz
  exact ⟨q, n, cap, L, rfl, hA, hr⟩
end Go.Proofs.YtlocaalipjjnpaaDoor
