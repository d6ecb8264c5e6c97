import Derived.Test.YtlocaalipjjnpaaDoorCards
import Derived.Test.YtlocaalipjjnpaaDoorTie
import Derived.OpenShut
import Derived.ShutString
import Derived.SizedLaws
import Derived.Carry
import Derived.Test.YtlocaalipjjnpaaDoorN25
import Derived.Test.YtlocaalipjjnpaaDoorN23
namespace Go.Proofs.YtlocaalipjjnpaaDoor
open Go.ChangeShapes Go.WideShapes Go.ChangeAt Go.RowKit

theorem bulk_pos {H : Type} (d : DataW H) : 1 ≤ Rows.uptoBulk d := by
  cases d with
  | lit l => cases l <;> simp [Rows.uptoBulk]
  | _ => simp [Rows.uptoBulk]
theorem bulk_len {H : Type} : ∀ l : List (DataW H), l.length ≤ Rows.uptoBulkAll l
  | [] => Nat.zero_le _
  | d :: l => by
    have := bulk_len l
    have := bulk_pos d
    simp only [Rows.uptoBulkAll, List.length_cons]
    omega
theorem slice_bulk {H : Type} {enc : TypeId × Value → H} {W : World} {base : Nat} {spare : Nat → Bool} {held : Bool} {fuel : Nat} {t e : TypeId} {p : Option Addr} {len cap : Nat} {x : DataW H × List MemPlace} (ht : Tryd.prog.underlying t = some (.slice e)) (h : DataW.trod enc Tryd.prog W base spare held fuel t [.slice p len cap] = some x) : len ≤ Rows.uptoBulk x.1 := by
  rcases DataW.trod_slice ht h with ⟨h0, _⟩ | ⟨a, len', cap', elems, rest, n, _, h0, rfl, _, _, _, hlen, hel, _, _⟩
  · simp at h0
    omega
  · have hb := bulk_len (elems.map (·.1))
    rw [List.length_map, hlen] at hb
    simp at h0
    simp only [Rows.uptoBulk]
    omega
theorem ints_of {W : World} {p : Option Addr} {len : Nat} (h : ∀ i, i < len → ∃ g o z, p = some ⟨g, o, none⟩ ∧ g < W.heap.size ∧ W.cell? ⟨g, o + i, none⟩ = some (.int .i64 z)) : ∃ I, Ints W p len I := by
  classical
  have hz : ∀ i, ∃ z : Int, i < len → ∃ g o, p = some ⟨g, o, none⟩ ∧ g < W.heap.size ∧ W.cell? ⟨g, o + i, none⟩ = some (.int .i64 z) := fun i => by
    by_cases hi : i < len
    · obtain ⟨g, o, z, h1⟩ := h i hi
      exact ⟨z, fun _ => ⟨g, o, h1⟩⟩
    · exact ⟨0, fun q => absurd q hi⟩
  refine ⟨(List.range len).map fun i => Classical.choose (hz i), by simp, fun j hj => ?_⟩
  have hj' : j < len := by simpa using hj
  have := Classical.choose_spec (hz j) hj'
  simpa using this
theorem cells27 : Tryd.prog.cellsOf 27 = 3 := by kernel_rfl
theorem cells25 : Tryd.prog.cellsOf 25 = 1 := by kernel_rfl
theorem cells24 : Tryd.prog.cellsOf 24 = 1 := by kernel_rfl
theorem cells22 : Tryd.prog.cellsOf 22 = 1 := by kernel_rfl
theorem cells3 : Tryd.prog.cellsOf 3 = 1 := by kernel_rfl
theorem hlist3 {α : Type} {xs : List α} (h : xs.length = 3) : ∃ c0 c1 c2, xs = [c0, c1, c2] := by
  match xs, h with
  | [c0, c1, c2], _ => exact ⟨c0, c1, c2, rfl⟩
theorem hlist1 {α : Type} {xs : List α} (h : xs.length = 1) : ∃ c0, xs = [c0] := by
  match xs, h with
  | [c0], _ => exact ⟨c0, rfl⟩
theorem open_ints {H : Type} {enc : TypeId × Value → H} {W : World} {base : Nat} {spare : Nat → Bool} {held : Bool} {fuel : Nat} {c : Value} {x : DataW H × List MemPlace} (h : DataW.trod enc Tryd.prog W base spare held fuel 25 [c] = some x) (hw : Light 25 x.1) : ∃ q n k I, c = .slice q n k ∧ Ints W q n I ∧ n ≤ Rows.uptoBulk x.1 := by
  obtain ⟨q, n, k, f, rfl, -, -, hel⟩ := slice_at (m := 1) (by omega) Tryd.underlying25 cells3 h hw
  obtain ⟨I, hI⟩ := ints_of (W := W) (p := q) (len := n) fun i hi => by
    obtain ⟨g, o, cs, y, h1, h2, h3, h4, h5, -⟩ := hel i hi
    obtain ⟨c0, rfl⟩ := hlist1 h3
    obtain ⟨z, e0, _, _⟩ := DataW.trod_int Tryd.underlying3 h5
    simp at e0
    subst e0
    have := h4 0 (by omega)
    rw [Nat.mul_one, Nat.add_zero] at this
    exact ⟨g, o, z, h1, h2, this⟩
  exact ⟨q, n, k, I, rfl, hI, slice_bulk Tryd.underlying25 h⟩
set_option maxRecDepth 100000 in
theorem open_hooked {H : Type} {enc : TypeId × Value → H} {W : World} {base b0 : Nat} {spare : Nat → Bool} {held : Bool} {r : Reach} {v : Value} {d : DataW H} {p : List MemPlace} (hv : Value.okWide Tryd.prog W r b0 27 v) (h : DataW.Trod enc Tryd.prog W base spare held 27 v d p) (hd : Light 27 d) (hb : Rows.uptoBulk d ≤ 1048576) :
    ∃ (q q1 q2 : Option Addr) (n cap n1 k1 n2 k2 : Nat) (L : List Nd) (I J : List Int), v = .agg #[.slice q n cap, .slice q1 n1 k1, .slice q2 n2 k2] ∧ Arg W q n cap L ∧ Rng L ∧ Ints W q1 n1 I ∧ Ints W q2 n2 J ∧ n ≤ 1048576 ∧ n1 ≤ 1048576 ∧ n2 ≤ 1048576 := by
  obtain ⟨cs, rfl, hsz⟩ := okWide_struct Tryd.underlying27 hv
  obtain ⟨c0, c1, c2, rfl⟩ : ∃ c0 c1 c2, cs = #[c0, c1, c2] := by
    have h1 : cs.size = 3 := hsz.trans cells27
    obtain ⟨l⟩ := cs
    match l, h1 with
    | [c0, c1, c2], _ => exact ⟨c0, c1, c2, rfl⟩
  obtain ⟨fuel, hf⟩ := h
  obtain ⟨xs, m, _, hx, _, hlen, hfs⟩ := DataW.trod_struct Tryd.underlying27 hf
  obtain ⟨z0, z1, z2, rfl⟩ := hlist3 hlen
  have g0 : DataW.trod enc Tryd.prog W base spare held m 24 [c0] = some z0 := by have := hfs 0 _ rfl; simpa [Value.cells, cells24] using this
  have g1 : DataW.trod enc Tryd.prog W base spare held m 25 [c1] = some z1 := by have := hfs 1 _ rfl; simpa [Value.cells, cells25, cells24] using this
  have g2 : DataW.trod enc Tryd.prog W base spare held m 25 [c2] = some z2 := by have := hfs 2 _ rfl; simpa [Value.cells, cells25, cells24] using this
  simp only [Prod.mk.injEq] at hx
  have hd0 := hx.1
  subst hd0
  have hz : ∀ (j : Nat) (t : TypeId) (z : DataW H × List MemPlace), [24, 25, 25][j]? = some t → [z0, z1, z2][j]? = some z → Light t z.1 := fun j t z ht hzj m hm => hd m (by
    simp only [DataW.weights, Tryd.underlying27]
    exact DataW.weights_mem_each (P := Tryd.prog) (ts := [24, 25, 25]) (ds := [z0, z1, z2].map (·.1)) (j := j) ht (by rw [List.getElem?_map, hzj]; rfl) m hm)
  simp only [List.map_cons, List.map_nil, Rows.uptoBulk, Rows.uptoBulkAll] at hb
  obtain ⟨ys, m', _, hy, _, hlen', hfs'⟩ := DataW.trod_struct Tryd.underlying24 g0
  obtain ⟨y0, rfl⟩ := hlist1 hlen'
  have g00 : DataW.trod enc Tryd.prog W base spare held m' 22 [c0] = some y0 := by have := hfs' 0 _ rfl; simpa [Value.cells, cells22] using this
  have hl0 : Light 22 y0.1 := fun m hm => hz 0 24 z0 rfl rfl m (by
    rw [hy]
    simp only [DataW.weights, Tryd.underlying24]
    exact DataW.weights_mem_each (P := Tryd.prog) (ts := [22]) (ds := [y0].map (·.1)) (j := 0) rfl rfl m hm)
  have hb0 : Rows.uptoBulk y0.1 ≤ Rows.uptoBulk z0.1 := by
    rw [hy]
    simp only [List.map_cons, List.map_nil, Rows.uptoBulk, Rows.uptoBulkAll]
    omega
  obtain ⟨q, n, cap, L, rfl, hA, hr, _⟩ := open_nodesR g00 hl0
  have hn := slice_bulk Tryd.underlying22 g00
  obtain ⟨q1, n1, k1, I, rfl, hI, hn1⟩ := open_ints g1 (hz 1 25 z1 rfl rfl)
  obtain ⟨q2, n2, k2, J, rfl, hJ, hn2⟩ := open_ints g2 (hz 2 25 z2 rfl rfl)
  exact ⟨q, q1, q2, n, cap, n1, k1, n2, k2, L, I, J, rfl, hA, hr, hI, hJ, by omega, by omega, by omega⟩
end Go.Proofs.YtlocaalipjjnpaaDoor
namespace Go.Proofs.YtlocaalipjjnpaaDoor.flowHooks
open Go.ChangeShapes Go.WideShapes Go.ChangeAt Go.RowKit
open Go.ChangeMaps (open_string shut_string)

set_option maxRecDepth 100000 in
theorem contract (H : Type) (enc : TypeId × Value → H) (W : World) (base : Nat) (args : Array Value) (ds gs : List (DataW H)) (before : List MemPlace)
    (hval : ∀ (j : Nat) t v, Tryd.f3.params[j]? = some t → args[j]? = some v → Value.okWide Tryd.prog W .any base t v)
    (hW : DataW.Whole enc Tryd.prog Tryd.f3.params.toList Rows.flowHooksSpec.vars false W args.toList ds gs before) (hk : Rows.uptoBulkAll (ds ++ gs) ≤ 1048576) (hkw : (DataW.weightsEach Tryd.prog (Tryd.f3.params.toList ++ (Rows.OpenSpec.upto Rows.flowHooksSpec).bare.plain.varTypes Tryd.prog) (ds ++ gs)).all (· ≤ reachBytes) = true) (hL : laidMetH Tryd.prog Rows.flowHooksUptoRow.laid W) :
    Calls Tryd.prog 3 args W fun e W' => ∃ v, e = .returned v ∧ Rows.flowHooksSpec.post enc Tryd.prog Tryd.f3 false true false false W args v W' := by
  have hW' := hW
  obtain ⟨p, q, hA0, hV, rfl, hfz, hnd⟩ := hW
  have hA : DataW.TrodAll enc Tryd.prog W 0 (fun _ => true) true Tryd.f3.params.toList args.toList ds p := hA0
  rw [Tryd.params3] at hA hval
  obtain ⟨v0, d0, hargs, rfl, h0⟩ := trodAll_one hA
  obtain rfl : args = #[v0] := by cases args; simp_all
  obtain ⟨rfl, rfl⟩ := trodVars_none hV
  have hbd : Light 27 d0 := fun m hm => by
    have h3 := DataW.weights_mem_each (P := Tryd.prog) (ts := Tryd.f3.params.toList ++ (Rows.OpenSpec.upto Rows.flowHooksSpec).bare.plain.varTypes Tryd.prog) (ds := [d0] ++ []) (j := 0) (t := 27) (d := d0) (by rw [Tryd.params3]; rfl) rfl m hm
    simpa using List.all_eq_true.1 hkw m h3
  have hbk : Rows.uptoBulk d0 ≤ 1048576 := by
    simp only [List.append_nil, Rows.uptoBulkAll] at hk
    omega
  obtain ⟨a, q1, q2, n, cap, n1, k1, n2, k2, L, I, J, rfl, hArg, hr1, hI, hJ, b0, b1, b2⟩ := open_hooked (hval 0 27 v0 rfl rfl) h0 hbd hbk
  clear hA0 hk hkw
  simp only [List.append_nil] at hW'
  have hlt : ∀ x ∈ p, x.block < W.heap.size := fun x hx => by simpa using hW'.lt x hx
  refine (flowHooks_any W a q1 q2 n cap n1 k1 n2 k2 L I J hArg hr1 (tbs_of_laid hL) hI hJ (by omega) (by omega)).mono fun e W' ⟨he, hg⟩ => ?_
  subst he
  exact ⟨_, rfl, _, _, _, [], p, [], hW', trodAll_mk1 (shut_bool Tryd.underlying4 true), trodAll_mk1 (Below.trod laidOut (by kernel_rfl) (of_decide_eq_true (by kernel_rfl)) h0 hg hlt), rfl, hg.frame _, fun h => by cases h⟩

theorem reads (os : Os) {H : Type} (enc : TypeId × Value → H) : ∃ places, DataW.whole enc Tryd.prog ((laidWorld os).forCall (fun _ _ => 0) ⟨#[], #[.agg #[.slice none 0 0, .slice none 0 0, .slice none 0 0]], []⟩).memory Tryd.f3.params.toList Rows.flowHooksSpec.vars false #[Value.agg #[.slice none 0 0, .slice none 0 0, .slice none 0 0]].toList 8 = some ([.agg [.agg [.nil], .nil, .nil]], [], places) :=
  ⟨[], by kernel_rfl⟩

set_option maxRecDepth 100000 in
theorem lifted (os : Os) (started : os.Started) (H : Type) (enc : TypeId × Value → H) (F : Stop.Interp) :
    ReturnsInHanded {} Tryd.checked os 3 .any ((Rows.OpenSpec.upto Rows.flowHooksSpec).preRow enc Tryd.prog Tryd.f3 Rows.flowHooksUptoRow.domain false Rows.flowHooksUptoRow.laid) (((Rows.OpenSpec.upto Rows.flowHooksSpec).at F).post enc Tryd.prog Tryd.f3 false true false false) := by
  obtain ⟨places, hx⟩ := reads os enc
  refine returnsInHanded_of_row (C := Tryd.checked) (s := Rows.OpenSpec.upto Rows.flowHooksSpec) own started (by kernel_rfl) Tryd.func3
    (witness_row_atRef (enc := enc) (C := Tryd.checked) false (laidWorld os) #[.agg #[.slice none 0 0, .slice none 0 0, .slice none 0 0]] rfl (laid_vars os _) (laid_heap os _) (by kernel_rfl)
      (OpenSpec.preRow_of_cond 8 hx (by kernel_rfl) (fun k hk => by cases hk; kernel_rfl) (by kernel_rfl) (laid_met os _))) ?_
  intro W base args ds gs before hval hW _ hcond hw hL _ _
  exact contract H enc W base args ds gs before hval hW (of_decide_eq_true (hcond _ rfl)) hw hL

theorem said : Rows.FlowHooksUptoSaid :=
  OpenClaim.holds_of_cond 3 Tryd.f3 rfl rfl rfl rfl rfl rfl rfl ⟨rfl, rfl, rfl, rfl, rfl⟩ rfl rfl rfl rfl rfl (by kernel_rfl) Tryd.func3 (by kernel_rfl)
    (of_decide_eq_true (by kernel_rfl)) (by unfold Func.isWrapper; first | (rw [if_pos (by decide +kernel)]; kernel_rfl) | (rw [if_neg (by decide +kernel)]; exact ⟨rfl, rfl⟩))
    (fun os started H enc _ F => by rw [OpenClaim.pre_eq_preRow]; exact lifted os started H enc F)

theorem plain (f : FuncId) (fn : Func) (hf : Tryd.pinned.checked.prog.funcNamed "retrace/retracelaw08.FlowHooks" = some f) (hfn : Tryd.pinned.checked.prog.funcs[f]? = some fn) :
    false = Tryd.pinned.checked.prog.looks [] ∧ ∀ (j : Nat) t, fn.params[j]? = some t → Tryd.pinned.checked.prog.wantsStandIn t = false := by
  obtain rfl : f = 3 := Option.some.inj ((show Tryd.prog.funcNamed "retrace/retracelaw08.FlowHooks" = some 3 by kernel_rfl).symm.trans hf) |>.symm
  obtain rfl : fn = Tryd.f3 := (Option.some.inj (Tryd.func3.symm.trans hfn)).symm
  refine ⟨by kernel_rfl, fun j t ht => ?_⟩
  rw [Tryd.params3] at ht
  obtain rfl : t = 27 := by simpa using Array.mem_of_getElem? ht
  exact (show Tryd.prog.wantsStandIn 27 = false by kernel_rfl)

theorem card : Rows.FlowHooksUptoCardSaid :=
  Claim7.holds_tied_plain_at .later [] _ _ _ _ said (fun _ h => by cases h) (by kernel_rfl) (fun _ h => by cases h) flowHooksUpto_row_tie rfl ⟨rfl, rfl⟩ (by kernel_rfl) rfl plain (by kernel_rfl)
end Go.Proofs.YtlocaalipjjnpaaDoor.flowHooks
namespace Go.Proofs.YtlocaalipjjnpaaDoor
theorem FlowHooks_holds : Rows.FlowHooksUptoCardSaid := flowHooks.card
#print axioms FlowHooks_holds
end Go.Proofs.YtlocaalipjjnpaaDoor
