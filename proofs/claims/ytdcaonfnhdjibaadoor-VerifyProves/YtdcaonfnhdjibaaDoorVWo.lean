import Derived.Test.YtdcaonfnhdjibaaDoorVOp
namespace Go.Proofs.YtdcaonfnhdjibaaDoor
open Go.ChangeShapes Go.WideShapes Go.ChangeAt Go.RowKit

/-! VerifyWays' argument, opened. -/
theorem cWay : Tryd.prog.cellsOf 44 = 6 := by kernel_rfl
theorem cInt : Tryd.prog.cellsOf 3 = 1 := by kernel_rfl
theorem bInt : Tryd.prog.bytesOf 3 = 8 := by kernel_rfl
theorem cLn : Tryd.prog.cellsOf 42 = 1 := by kernel_rfl
theorem op_int {H : Type} {enc : TypeId × Value → H} {W : World} {base : Nat} {spare : Nat → Bool} {held : Bool} (n : Nat) (cs : List Value) (y : DataW H × List MemPlace) (hl : cs.length = 1) (h : DataW.trod enc Tryd.prog W base spare held n 3 cs = some y) (_ : Light 3 y.1) : ∃ a : Int, cs = [.int .i64 a] ∧ i64 a := by
  obtain ⟨c0, rfl⟩ := list1 hl
  obtain ⟨a, e, -, w⟩ := DataW.trod_int Tryd.underlying3 h
  simp at e
  exact ⟨a, by rw [e], wf_i64 w⟩
theorem flat_sv (l : List Int) : l.flatMap (fun a : Int => [Value.int .i64 a]) = sv l := (sv_flatI l).symm
set_option maxRecDepth 100000 in
theorem open_way {H : Type} {enc : TypeId × Value → H} {W : World} {base b0 : Nat} {spare : Nat → Bool} {held : Bool} {r : Reach} {v : Value} {d : DataW H} {p : List MemPlace} (hv : Value.okWide Tryd.prog W r b0 44 v) (h : DataW.Trod enc Tryd.prog W base spare held 44 v d p) (hd : Light 44 d) :
    ∃ (iq eq tq tu : Option Addr) (ia ea ta uc : Nat) (F : Int) (Es : List Em) (c : Cd) (T : List Int), v = .agg #[.slice iq c.ins.length ia, .slice eq c.ens.length ea, .slice tq c.txs.length ta, .int .i64 c.main, .int .i64 F, .slice tu T.length uc] ∧ ArgC W iq eq tq Es c ∧ (∀ y ∈ Es, y.1.sorts.length ≤ y.2.2 ∧ (y.2.1 = none → y.1.sorts.length = 0)) ∧ Row W W.heap.size tu T.length (sv T) ∧ T.length * 8 ≤ 140737488351232 := by
  obtain ⟨cs, rfl, hsz⟩ := okWide_struct Tryd.underlying44 hv
  obtain ⟨c0, c1, c2, c3, c4, c5, rfl⟩ : ∃ c0 c1 c2 c3 c4 c5, cs = #[c0, c1, c2, c3, c4, c5] := by
    have h1 : cs.size = 6 := hsz.trans cWay
    obtain ⟨l⟩ := cs
    match l, h1 with
    | [c0, c1, c2, c3, c4, c5], _ => exact ⟨c0, c1, c2, c3, c4, c5, rfl⟩
  obtain ⟨fuel, hf⟩ := h
  obtain ⟨xs, m, _, hx, _, hlen, hfs⟩ := DataW.trod_struct Tryd.underlying44 hf
  obtain ⟨z0, z1, z2, rfl⟩ := list3 hlen
  have g0 : DataW.trod enc Tryd.prog W base spare held m 26 [c0, c1, c2, c3] = some z0 := by have := hfs 0 _ rfl; simpa [Value.cells, cCode] using this
  have g1 : DataW.trod enc Tryd.prog W base spare held m 3 [c4] = some z1 := by have := hfs 1 _ rfl; simpa [Value.cells, cCode, cInt] using this
  have g2 : DataW.trod enc Tryd.prog W base spare held m 42 [c5] = some z2 := by have := hfs 2 _ rfl; simpa [Value.cells, cCode, cInt, cLn] using this
  simp only [Prod.mk.injEq] at hx
  have hd0 := hx.1
  subst hd0
  have hz : ∀ (j : Nat) (t : TypeId) (z : DataW H), ([26, 3, 42] : List TypeId)[j]? = some t → ([z0, z1, z2].map (·.1))[j]? = some z → Light t z := fun j t z h1 h2 k hk => hd k (by
    simp only [DataW.weights, Tryd.underlying44]
    exact DataW.weights_mem_each (P := Tryd.prog) (ts := [26, 3, 42]) (ds := [z0, z1, z2].map (·.1)) (j := j) h1 h2 k hk)
  obtain ⟨iq, eq, tq, ia, ea, ta, Es, c, e0, hC, hcp⟩ := open_code_cap g0 (hz 0 _ _ rfl rfl)
  obtain ⟨F, e1, hF⟩ := op_int _ _ _ rfl g1 (hz 1 _ _ rfl rfl)
  obtain ⟨tu, uc, T, e2, tb, trow, -⟩ := slice_row (m := 1) (by omega) (fun a : Int => [Value.int .i64 a]) (fun _ => rfl) i64 Tryd.underlying42 cInt g2 (hz 2 _ _ rfl rfl) op_int
  rw [bInt, reach_eq] at tb
  rw [flat_sv] at trow
  refine ⟨iq, eq, tq, tu, ia, ea, ta, uc, F, Es, c, T, ?_, hC, hcp, trow, tb⟩
  obtain ⟨rfl, rfl, rfl, rfl⟩ := e0
  rw [e2]
  simp only [List.cons.injEq, and_true] at e1
  rw [e1]
end Go.Proofs.YtdcaonfnhdjibaaDoor
