import Derived.Test.YtdcioemjmmhbhaaDoorCards
import Derived.Test.YtdcioemjmmhbhaaDoorTie
import Derived.OpenShut
import Derived.ShutString
import Derived.SizedLaws
import Derived.Test.YtdcioemjmmhbhaaDoorOpenC
import Derived.Test.YtdcioemjmmhbhaaDoorPlay
namespace Go.Proofs.YtdcioemjmmhbhaaDoor
open Go.ChangeShapes Go.WideShapes Go.ChangeAt Go.RowKit
set_option maxRecDepth 100000 in
theorem open_play2 {H : Type} {enc : TypeId × Value → H} {W : World} {base b0 : Nat} {spare : Nat → Bool} {held : Bool} {r : Reach} {v : Value} {d : DataW H} {p : List MemPlace} (hv : Value.okWide Tryd.prog W r b0 25 v) (h : DataW.Trod enc Tryd.prog W base spare held 25 v d p) (hd : Light 25 d) :
    ∃ (l0 l1 : Int) (q : Option Addr) (cap : Nat) (S : List Sp), v = .agg #[.int .i64 l0, .int .i64 l1, .slice q S.length cap] ∧ StepsAt W q S ∧ S.length + 10 ≤ 2000000000000 := by
  obtain ⟨cs, rfl, hsz⟩ := okWide_struct Tryd.underlying25 hv
  obtain ⟨c0, c1, c2, rfl⟩ : ∃ c0 c1 c2, cs = #[c0, c1, c2] := by
    have h1 : cs.size = 3 := hsz.trans cPlay
    obtain ⟨l⟩ := cs
    match l, h1 with
    | [c0, c1, c2], _ => exact ⟨c0, c1, c2, rfl⟩
  obtain ⟨fuel, hf⟩ := h
  obtain ⟨xs, m, _, hx, _, hlen, hfs⟩ := DataW.trod_struct Tryd.underlying25 hf
  obtain ⟨z0, z1, rfl⟩ := list2 hlen
  have g0 : DataW.trod enc Tryd.prog W base spare held m 22 [c0, c1] = some z0 := by have := hfs 0 _ rfl; simpa [Value.cells, cPair] using this
  have g1 : DataW.trod enc Tryd.prog W base spare held m 23 [c2] = some z1 := by have := hfs 1 _ rfl; simpa [Value.cells, cSteps] using this
  obtain ⟨ys, m2, _, _, _, hyl, hel⟩ := DataW.trod_array Tryd.underlying22 g0
  obtain ⟨y0, y1, rfl⟩ := list2 hyl
  have i0 : DataW.trod enc Tryd.prog W base spare held m2 3 [c0] = some y0 := by have := hel 0 (by decide); simpa [cN] using this
  have i1 : DataW.trod enc Tryd.prog W base spare held m2 3 [c1] = some y1 := by have := hel 1 (by decide); simpa [cN] using this
  obtain ⟨l0, e0, _, _⟩ := DataW.trod_int Tryd.underlying3 i0
  obtain ⟨l1, e1, _, _⟩ := DataW.trod_int Tryd.underlying3 i1
  simp at e0 e1
  subst e0 e1
  simp only [Prod.mk.injEq] at hx
  have hd0 := hx.1
  subst hd0
  have hz : Light 23 z1.1 := fun m hm => hd m (by simp only [DataW.weights, Tryd.underlying25]; exact DataW.weights_mem_each (P := Tryd.prog) (ts := [22, 23]) (ds := [z0, z1].map (·.1)) (j := 1) rfl rfl m hm)
  obtain ⟨q, n, cap, f, rfl, hn, hst⟩ := slice_at (m := 10) (by omega) Tryd.underlying23 cStep g1 hz
  rw [yStep, reachBytes_eq] at hn
  have key : ∀ i : Fin n, ∃ s : Sp, (∃ g o, q = some ⟨g, o, none⟩ ∧ W.rangeAt g (o + i.1 * 10) (sc s)) ∧ s.r.2.2.size ≤ 9223372036854775807 ∧ s.x.2.2.size ≤ 9223372036854775807 ∧ -9223372036854775808 ≤ s.x.2.1 ∧ s.x.2.1 ≤ 9223372036854775807 := fun i => by
    obtain ⟨g, o, cs, y, hp, _, hl, hc, hy⟩ := hst i.1 i.2
    obtain ⟨s, rfl, h1, h2⟩ := open_step hl hy
    refine ⟨s, ⟨g, o, hp, fun j v hv => ?_⟩, h1, h2⟩
    have hj : j < 10 := (List.getElem?_eq_some_iff.1 hv).1
    rw [hc j hj]
    exact hv
  obtain ⟨F, hF⟩ := Classical.axiomOfChoice key
  have hlenF : (List.ofFn F).length = n := by simp
  refine ⟨l0, l1, q, cap, List.ofFn F, by rw [hlenF], ⟨fun h0 => ?_, fun s hs => ?_, by rw [hlenF]; omega⟩, by rw [hlenF]; omega⟩
  · rw [hlenF] at h0
    obtain ⟨⟨g, o, hp, _⟩, _⟩ := hF ⟨0, h0⟩
    refine ⟨g, o, hp, flat_range fun i hi => ?_⟩
    rw [hlenF] at hi
    obtain ⟨⟨g', o', hp', hc⟩, _⟩ := hF ⟨i, hi⟩
    rw [hp] at hp'
    cases hp'
    simpa using hc
  · obtain ⟨i, rfl⟩ := List.mem_ofFn.1 hs
    exact (hF i).2

noncomputable def laidWorld (os : Os) : World := World.doorLaid Tryd.prog 81 os
set_option maxRecDepth 100000 in
theorem laid_met (os : Os) (args : Array Value) : laidMet Tryd.prog laidC ((laidWorld os).forCall (fun _ _ => 0) ⟨#[], args, []⟩).memory :=
  laidMet_of_run' 8 (by kernel_rfl) (by kernel_rfl)
set_option maxRecDepth 100000 in
theorem laid_vars (os : Os) (args : Array Value) : ((laidWorld os).forCall (fun _ _ => 0) ⟨#[], args, []⟩).variablesRefB Tryd.checked.prog = true := by kernel_rfl
set_option maxRecDepth 100000 in
theorem laid_heap (os : Os) (args : Array Value) : (((laidWorld os).forCall (fun _ _ => 0) ⟨#[], args, []⟩).heap.toList.drop Tryd.checked.prog.globals.size).take ((begin Tryd.checked.prog (fun _ _ => 0) default).world.heap.size - Tryd.checked.prog.globals.size) =
      (begin Tryd.checked.prog (fun _ _ => 0) default).world.heap.toList.drop Tryd.checked.prog.globals.size := by kernel_rfl
end Go.Proofs.YtdcioemjmmhbhaaDoor
namespace Go.Proofs.YtdcioemjmmhbhaaDoor.cellsPlays
open Go.ChangeShapes Go.WideShapes Go.ChangeAt Go.RowKit
open Go.ChangeMaps (open_string shut_string)

set_option maxRecDepth 100000 in
theorem contract (H : Type) (enc : TypeId × Value → H) (W : World) (base : Nat) (args : Array Value) (ds gs : List (DataW H)) (before : List MemPlace)
    (hval : ∀ (j : Nat) t v, Tryd.f7.params[j]? = some t → args[j]? = some v → Value.okWide Tryd.prog W .any base t v)
    (hW : DataW.Whole enc Tryd.prog Tryd.f7.params.toList Rows.cellsPlaysSpec.vars false W args.toList ds gs before) (hk : (DataW.weightsEach Tryd.prog (Tryd.f7.params.toList ++ (OpenSpec.ofChange Rows.cellsPlaysSpec).bare.plain.varTypes Tryd.prog) (ds ++ gs)).all (· ≤ reachBytes) = true) (hL : laidMetH Tryd.prog Rows.cellsPlaysRow.laid W) :
    Calls Tryd.prog 7 args W fun e W' => ∃ v, e = .returned v ∧ Rows.cellsPlaysSpec.post enc Tryd.prog Tryd.f7 false true false false W args v W' := by
  have hW' := hW
  obtain ⟨p, q, hA0, hV, rfl, hfz, hnd⟩ := hW
  have hA : DataW.TrodAll enc Tryd.prog W 0 (fun _ => true) true Tryd.f7.params.toList args.toList ds p := hA0
  rw [Tryd.params7] at hA hval
  obtain ⟨v0, d0, hargs, rfl, h0⟩ := trodAll_one hA
  obtain rfl : args = #[v0] := by cases args; simp_all
  obtain ⟨rfl, rfl⟩ := trodVars_none hV
  have hbd : Light 25 d0 := fun m hm => by
    have h3 := DataW.weights_mem_each (P := Tryd.prog) (ts := Tryd.f7.params.toList ++ (OpenSpec.ofChange Rows.cellsPlaysSpec).bare.plain.varTypes Tryd.prog) (ds := [d0] ++ []) (j := 0) (t := 25) (d := d0) (by rw [Tryd.params7]; rfl) rfl m hm
    simpa using List.all_eq_true.1 hk m h3
  obtain ⟨l0, l1, a, cap, S, rfl, hS, hSl⟩ := open_play2 (hval 0 25 v0 rfl rfl) h0 hbd
  clear hA0 hk
  simp only [List.append_nil] at hW'
  have hlt : ∀ x ∈ p, x.block < W.heap.size := fun x hx => by simpa using hW'.lt x hx
  refine (cellsPlays_any W l0 l1 a cap S hS (zt_of_laid hL) hSl).mono fun e W' ⟨he, hg⟩ => ?_
  subst he
  exact ⟨_, rfl, _, _, _, [], p, [], hW', trodAll_mk1 (shut_bool Tryd.underlying4 true), trodAll_mk1 (Below.trod laidOut (by kernel_rfl) (of_decide_eq_true (by kernel_rfl)) h0 hg hlt), rfl, hg.frame _, fun h => by cases h⟩

theorem reads (os : Os) {H : Type} (enc : TypeId × Value → H) : ∃ places, DataW.whole enc Tryd.prog ((laidWorld os).forCall (fun _ _ => 0) ⟨#[], #[.agg #[.int .i64 0, .int .i64 0, .slice none 0 0]], []⟩).memory Tryd.f7.params.toList Rows.cellsPlaysSpec.vars false #[Value.agg #[.int .i64 0, .int .i64 0, .slice none 0 0]].toList 8 = some ([.agg [.agg [.lit (.int .i64 0), .lit (.int .i64 0)], .nil]], [], places) :=
  ⟨[], by kernel_rfl⟩

set_option maxRecDepth 100000 in
theorem lifted (os : Os) (started : os.Started) (H : Type) (enc : TypeId × Value → H) (F : Stop.Interp) :
    ReturnsInHanded {} Tryd.checked os 7 .any ((OpenSpec.ofChange Rows.cellsPlaysSpec).preRow enc Tryd.prog Tryd.f7 Rows.cellsPlaysRow.domain false Rows.cellsPlaysRow.laid) (((OpenSpec.ofChange Rows.cellsPlaysSpec).at F).post enc Tryd.prog Tryd.f7 false true false false) := by
  obtain ⟨places, hx⟩ := reads os enc
  refine returnsInHanded_of_row (C := Tryd.checked) (s := OpenSpec.ofChange Rows.cellsPlaysSpec) own started (by kernel_rfl) Tryd.func7
    (witness_row_atRef (enc := enc) (C := Tryd.checked) false (laidWorld os) #[.agg #[.int .i64 0, .int .i64 0, .slice none 0 0]] rfl (laid_vars os _) (laid_heap os _) (by kernel_rfl)
      (OpenSpec.preRow_of_cond 8 hx (by kernel_rfl) (fun k hk => by cases hk) (by kernel_rfl) (laid_met os _))) ?_
  intro W base args ds gs before hval hW _ _ hw hL _ _
  exact contract H enc W base args ds gs before hval hW hw hL

theorem said : Rows.CellsPlaysSaid :=
  OpenClaim.holds_of_cond 7 Tryd.f7 rfl rfl rfl rfl rfl rfl rfl ⟨rfl, rfl, rfl, rfl, rfl⟩ rfl rfl rfl rfl rfl (by kernel_rfl) Tryd.func7 (by kernel_rfl)
    (of_decide_eq_true (by kernel_rfl)) (by unfold Func.isWrapper; first | (rw [if_pos (by decide +kernel)]; kernel_rfl) | (rw [if_neg (by decide +kernel)]; exact ⟨rfl, rfl⟩))
    (fun os started H enc _ F => by rw [OpenClaim.pre_eq_preRow]; exact lifted os started H enc F)

theorem plain (f : FuncId) (fn : Func) (hf : Tryd.pinned.checked.prog.funcNamed "retrace/retracelaw10.CellsPlays" = some f) (hfn : Tryd.pinned.checked.prog.funcs[f]? = some fn) :
    false = Tryd.pinned.checked.prog.looks [] ∧ ∀ (j : Nat) t, fn.params[j]? = some t → Tryd.pinned.checked.prog.wantsStandIn t = false := by
  obtain rfl : f = 7 := Option.some.inj ((show Tryd.prog.funcNamed "retrace/retracelaw10.CellsPlays" = some 7 by kernel_rfl).symm.trans hf) |>.symm
  obtain rfl : fn = Tryd.f7 := (Option.some.inj (Tryd.func7.symm.trans hfn)).symm
  refine ⟨by kernel_rfl, fun j t ht => ?_⟩
  rw [Tryd.params7] at ht
  obtain rfl : t = 25 := by simpa using Array.mem_of_getElem? ht
  exact (show Tryd.prog.wantsStandIn 25 = false by kernel_rfl)

theorem card : Rows.CellsPlaysCardSaid :=
  Claim7.holds_tied_plain_at .later [] _ _ _ _ said (fun _ h => by cases h) (by kernel_rfl) (fun _ h => by cases h) cellsPlays_row_tie rfl ⟨rfl, rfl⟩ (by kernel_rfl) rfl plain (by kernel_rfl)
end Go.Proofs.YtdcioemjmmhbhaaDoor.cellsPlays
namespace Go.Proofs.YtdcioemjmmhbhaaDoor
theorem CellsPlays_holds : Rows.CellsPlaysCardSaid := cellsPlays.card
#print axioms CellsPlays_holds
end Go.Proofs.YtdcioemjmmhbhaaDoor
