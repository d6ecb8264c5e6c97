import Derived.Test.YtdcaonfnhdjibaaDoorVDl
import Derived.Test.YtdcaonfnhdjibaaDoorCOp
namespace Go.Proofs.YtdcaonfnhdjibaaDoor
open Go.ChangeShapes Go.WideShapes Go.ChangeAt Go.RowKit

/-! The argument, opened: as COp has it, and that no list is longer than its room. -/
def CapOk (y : Em) : Prop := y.1.sorts.length ≤ y.2.2 ∧ (y.2.1 = none → y.1.sorts.length = 0)
theorem list2D {α : Type} {xs : List α} (h : xs.length = 2) : ∃ c0 c1, xs = [c0, c1] := by
  match xs, h with
  | [c0, c1], _ => exact ⟨c0, c1, rfl⟩
theorem op_ent_cap {H : Type} {enc : TypeId × Value → H} {W : World} {base : Nat} {spare : Nat → Bool} {held : Bool} (n : Nat) (cs : List Value) (y : DataW H × List MemPlace) (hl : cs.length = 5) (h : DataW.trod enc Tryd.prog W base spare held n 47 cs = some y) (hw : Light 47 y.1) : ∃ a : Em, cs = ec a ∧ EmOk W a ∧ CapOk a := by
  obtain ⟨a, rfl, ha⟩ := op_ent n cs y hl h hw
  refine ⟨a, rfl, ha, ?_⟩
  obtain ⟨zs, m2, _, hy, _, hlen2, hgs⟩ := DataW.trod_struct Tryd.underlying47 h
  obtain ⟨z0, z1, z2, z3, z4, rfl⟩ := list5 hlen2
  have g3 : DataW.trod enc Tryd.prog W base spare held m2 35 [.slice a.2.1 a.1.sorts.length a.2.2] = some z3 := by have := hgs 3 _ rfl; simpa [ec, cStr, cNum, cLs] using this
  rcases DataW.trod_slice Tryd.underlying35 g3 with ⟨h0, _⟩ | ⟨p, len, cap, elems, rest, n, _, h0, _, _, hle, _⟩
  · simp only [List.cons.injEq, Value.slice.injEq, and_true] at h0
    unfold CapOk
    rw [h0.2.1]
    exact ⟨Nat.zero_le _, fun _ => rfl⟩
  · simp only [List.cons.injEq, Value.slice.injEq, and_true] at h0
    unfold CapOk
    rw [h0.2.1, h0.2.2, h0.1]
    exact ⟨hle, fun h => by cases h⟩
theorem open_code_cap {H : Type} {enc : TypeId × Value → H} {W : World} {base : Nat} {spare : Nat → Bool} {held : Bool} {fuel : Nat} {c0 c1 c2 c3 : Value} {x : DataW H × List MemPlace} (hf : DataW.trod enc Tryd.prog W base spare held fuel 26 [c0, c1, c2, c3] = some x) (hd : Light 26 x.1) :
    ∃ (iq eq tq : Option Addr) (ia ea ta : Nat) (Es : List Em) (c : Cd), (c0 = .slice iq c.ins.length ia ∧ c1 = .slice eq c.ens.length ea ∧ c2 = .slice tq c.txs.length ta ∧ c3 = .int .i64 c.main) ∧ ArgC W iq eq tq Es c ∧ (∀ y ∈ Es, y.1.sorts.length ≤ y.2.2 ∧ (y.2.1 = none → y.1.sorts.length = 0)) := by
  obtain ⟨xs, m, _, hx, _, hlen, hfs⟩ := DataW.trod_struct Tryd.underlying26 hf
  obtain ⟨z0, z1, z2, z3, rfl⟩ := list4 hlen
  have g0 : DataW.trod enc Tryd.prog W base spare held m 22 [c0] = some z0 := by have := hfs 0 _ rfl; simpa [Value.cells, cLi] using this
  have g1 : DataW.trod enc Tryd.prog W base spare held m 23 [c1] = some z1 := by have := hfs 1 _ rfl; simpa [Value.cells, cLi, cLe] using this
  have g2 : DataW.trod enc Tryd.prog W base spare held m 24 [c2] = some z2 := by have := hfs 2 _ rfl; simpa [Value.cells, cLi, cLe, cLt] using this
  have g3 : DataW.trod enc Tryd.prog W base spare held m 3 [c3] = some z3 := by have := hfs 3 _ rfl; simpa [Value.cells, cLi, cLe, cLt, cNum] using this
  obtain ⟨x1, x2⟩ := x
  simp only [Prod.mk.injEq] at hx
  have hd0 := hx.1
  subst hd0
  have hz : ∀ (j : Nat) (t : TypeId) (z : DataW H), ([22, 23, 24, 3] : List TypeId)[j]? = some t → ([z0, z1, z2, z3].map (·.1))[j]? = some z → Light t z := fun j t z h1 h2 k hk => hd k (by
    simp only [DataW.weights, Tryd.underlying26]
    exact DataW.weights_mem_each (P := Tryd.prog) (ts := [22, 23, 24, 3]) (ds := [z0, z1, z2, z3].map (·.1)) (j := j) h1 h2 k hk)
  obtain ⟨iq, ia, I, e0, ib, irow, hI⟩ := slice_row (m := 3) (by omega) ic (fun _ => rfl) (fun a : In => i64 a.1 ∧ i64 a.2.1 ∧ i64 a.2.2) Tryd.underlying22 cIns g0 (hz 0 _ _ rfl rfl) op_ins
  obtain ⟨eq, ea, E, e1, eb, erow, hE2⟩ := slice_row (m := 5) (by omega) ec (fun _ => rfl) (fun y => EmOk W y ∧ CapOk y) Tryd.underlying23 cEnt g1 (hz 1 _ _ rfl rfl) op_ent_cap
  obtain ⟨tq, ta, T, e2, tb, trow, hT⟩ := slice_row (m := 1) (by omega) (fun a : ByteArray => [Value.string a]) (fun _ => rfl) (fun a : ByteArray => a.size ≤ 140737488351232) Tryd.underlying24 cStr g2 (hz 2 _ _ rfl rfl) op_str
  obtain ⟨mn, e3, -, w3⟩ := DataW.trod_int Tryd.underlying3 g3
  simp at e3
  rw [bIns, reach_eq] at ib
  rw [bEnt, reach_eq] at eb
  rw [bStr, reach_eq] at tb
  rw [flat_one] at trow
  have hE : ∀ x ∈ E, EmOk W x := fun x hx => (hE2 x hx).1
  have hlE : (E.map (·.1)).length = E.length := List.length_map ..
  refine ⟨iq, eq, tq, ia, ea, ta, E, ⟨I, E.map (·.1), T, mn⟩, ?_, ⟨⟨rfl, irow, ?_, trow, fun x hx => ⟨(hE x hx).1.1, ?_, ?_⟩, ?_, ?_, ?_, fun t ht => ?_⟩, ib, ?_, tb, hE, hI, hT, wf_i64 w3⟩, fun y hy => (hE2 y hy).2⟩
  · simp only; rw [hlE]
    exact ⟨e0, e1, e2, e3⟩
  · simp only; rw [hlE]; exact erow
  · have := (hE x hx).2.1; omega
  · have := (hE x hx).1.2; omega
  · simp only; omega
  · simp only; rw [hlE]; omega
  · simp only; omega
  · have := hT t ht; omega
  · simp only; rw [hlE]; exact eb
theorem cDead : Tryd.prog.cellsOf 28 = 5 := by kernel_rfl
set_option maxRecDepth 100000 in
theorem open_dead {H : Type} {enc : TypeId × Value → H} {W : World} {base b0 : Nat} {spare : Nat → Bool} {held : Bool} {r : Reach} {v : Value} {d : DataW H} {p : List MemPlace} (hv : Value.okWide Tryd.prog W r b0 28 v) (h : DataW.Trod enc Tryd.prog W base spare held 28 v d p) (hd : Light 28 d) :
    ∃ (iq eq tq nq : Option Addr) (ia ea ta nc : Nat) (Es : List Em) (c : Cd) (N : List In), v = .agg #[.slice iq c.ins.length ia, .slice eq c.ens.length ea, .slice tq c.txs.length ta, .int .i64 c.main, .slice nq N.length nc] ∧ ArgC W iq eq tq Es c ∧ (∀ y ∈ Es, y.1.sorts.length ≤ y.2.2 ∧ (y.2.1 = none → y.1.sorts.length = 0)) ∧ Row W W.heap.size nq N.length (N.flatMap ic) ∧ N.length * 24 ≤ 140737488351232 := by
  obtain ⟨cs, rfl, hsz⟩ := okWide_struct Tryd.underlying28 hv
  obtain ⟨c0, c1, c2, c3, c4, rfl⟩ : ∃ c0 c1 c2 c3 c4, cs = #[c0, c1, c2, c3, c4] := by
    have h1 : cs.size = 5 := hsz.trans cDead
    obtain ⟨l⟩ := cs
    match l, h1 with
    | [c0, c1, c2, c3, c4], _ => exact ⟨c0, c1, c2, c3, c4, rfl⟩
  obtain ⟨fuel, hf⟩ := h
  obtain ⟨xs, m, _, hx, _, hlen, hfs⟩ := DataW.trod_struct Tryd.underlying28 hf
  obtain ⟨z0, z1, rfl⟩ := list2D hlen
  have g0 : DataW.trod enc Tryd.prog W base spare held m 26 [c0, c1, c2, c3] = some z0 := by have := hfs 0 _ rfl; simpa [Value.cells, cCode] using this
  have g1 : DataW.trod enc Tryd.prog W base spare held m 22 [c4] = some z1 := by have := hfs 1 _ rfl; simpa [Value.cells, cCode, cLi] using this
  simp only [Prod.mk.injEq] at hx
  have hd0 := hx.1
  subst hd0
  have hz : ∀ (j : Nat) (t : TypeId) (z : DataW H), ([26, 22] : List TypeId)[j]? = some t → ([z0, z1].map (·.1))[j]? = some z → Light t z := fun j t z h1 h2 k hk => hd k (by
    simp only [DataW.weights, Tryd.underlying28]
    exact DataW.weights_mem_each (P := Tryd.prog) (ts := [26, 22]) (ds := [z0, z1].map (·.1)) (j := j) h1 h2 k hk)
  obtain ⟨iq, eq, tq, ia, ea, ta, Es, c, e0, hC, hcp⟩ := open_code_cap g0 (hz 0 _ _ rfl rfl)
  obtain ⟨nq, nc, N, e1, nb, nrow, -⟩ := slice_row (m := 3) (by omega) ic (fun _ => rfl) (fun a : In => i64 a.1 ∧ i64 a.2.1 ∧ i64 a.2.2) Tryd.underlying22 cIns g1 (hz 1 _ _ rfl rfl) op_ins
  rw [bIns, reach_eq] at nb
  refine ⟨iq, eq, tq, nq, ia, ea, ta, nc, Es, c, N, ?_, hC, hcp, nrow, nb⟩
  obtain ⟨rfl, rfl, rfl, rfl⟩ := e0
  rw [e1]
end Go.Proofs.YtdcaonfnhdjibaaDoor
