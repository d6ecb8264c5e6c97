import Derived.Test.YtnecnchdffmhbaaDoorU04
namespace Go.Proofs.YtnecnchdffmhbaaDoor
open Go.ChangeShapes Go.WideShapes Go.ChangeAt Go.RowKit
theorem list7 {α : Type} {xs : List α} (h : xs.length = 7) : ∃ c0 c1 c2 c3 c4 c5 c6, xs = [c0, c1, c2, c3, c4, c5, c6] := by
  match xs, h with
  | [c0, c1, c2, c3, c4, c5, c6], _ => exact ⟨c0, c1, c2, c3, c4, c5, c6, rfl⟩
theorem cCut : Tryd.prog.cellsOf 39 = 7 := by kernel_rfl
theorem cU8 : Tryd.prog.cellsOf 5 = 1 := by kernel_rfl
section
variable {H : Type} {enc : TypeId × Value → H} {W : World} {base : Nat} {spare : Nat → Bool} {held : Bool}
theorem op_rec (n : Nat) (c0 c1 c2 c3 c4 : Value) (y : DataW H × List MemPlace) (h : DataW.trod enc Tryd.prog W base spare held n 28 [c0, c1, c2, c3, c4] = some y) (hd : Light 28 y.1) :
    ∃ (ph tr : Int) (out : ByteArray) (inp : Int) (q : Option Addr) (cap : Nat) (L : List Ev), [c0, c1, c2, c3, c4] = [.int .i64 ph, .int .i64 tr, .string out, .int .i64 inp, .slice q L.length cap] ∧ RcIn W q cap L ∧ L.length * 64 ≤ 140737488351232 ∧ out.size ≤ 140737488351232 := by
  obtain ⟨xs, m, _, hx, _, hlen, hfs⟩ := DataW.trod_struct Tryd.underlying28 h
  obtain ⟨z0, z1, z2, z3, rfl⟩ := list4 hlen
  have g0 : DataW.trod enc Tryd.prog W base spare held m 25 [c0, c1] = some z0 := by have := hfs 0 _ rfl; simpa [cOut] using this
  have g1 : DataW.trod enc Tryd.prog W base spare held m 9 [c2] = some z1 := by have := hfs 1 _ rfl; simpa [cOut, cSt] using this
  have g2 : DataW.trod enc Tryd.prog W base spare held m 3 [c3] = some z2 := by have := hfs 2 _ rfl; simpa [cOut, cSt, cIn] using this
  have g3 : DataW.trod enc Tryd.prog W base spare held m 26 [c4] = some z3 := by have := hfs 3 _ rfl; simpa [cOut, cSt, cIn, cEvL] using this
  subst hx
  have hw : ∀ k, k ∈ DataW.weightsEach Tryd.prog [25, 9, 3, 26] ([z0, z1, z2, z3].map (·.1)) → k ≤ reachBytes := fun k hk => hd k (by simp only [DataW.weights, Tryd.underlying28]; exact hk)
  obtain ⟨xs, m2, _, hx, _, hlen, hgs⟩ := DataW.trod_struct Tryd.underlying25 g0
  obtain ⟨y0, y1, rfl⟩ := list2 hlen
  have k0 : DataW.trod enc Tryd.prog W base spare held m2 22 [c0] = some y0 := by have := hgs 0 _ rfl; simpa [cPh] using this
  have k1 : DataW.trod enc Tryd.prog W base spare held m2 23 [c1] = some y1 := by have := hgs 1 _ rfl; simpa [cPh, cTp] using this
  obtain ⟨ph, e0, -, -⟩ := DataW.trod_int Tryd.underlying22 k0
  obtain ⟨tr, e1, -, -⟩ := DataW.trod_int Tryd.underlying23 k1
  obtain ⟨out, e2, ho⟩ := op_str m [c2] z1 rfl g1 (light_in hw 1 z1 rfl rfl)
  obtain ⟨inp, e3, -, -⟩ := DataW.trod_int Tryd.underlying3 g2
  obtain ⟨q, cap, L, e4, hc, b0, r0, n0⟩ := slice_row (m := 6) (by omega) ec ec_len EvRd Tryd.underlying26 cEv g3 (light_in hw 3 z3 rfl rfl) op_ev
  rw [bEv, reach_eq] at b0
  simp at e0 e1 e2 e3
  exact ⟨ph, tr, out, inp, q, cap, L, by rw [e0, e1, e2, e3, e4], ⟨r0, hc, fun e he => (n0 e he).1, fun e he => (n0 e he).2, by omega⟩, b0, ho⟩
set_option maxRecDepth 100000 in
theorem open_cut {b0 : Nat} {r : Reach} {v : Value} {d : DataW H} {p : List MemPlace} (hv : Value.okWide Tryd.prog W r b0 39 v) (h : DataW.Trod enc Tryd.prog W base spare held 39 v d p) (hd : Light 39 d) :
    ∃ (ph tr : Int) (out : ByteArray) (inp : Int) (q : Option Addr) (cap : Nat) (L : List Ev) (a t : Int), v = .agg #[.int .i64 ph, .int .i64 tr, .string out, .int .i64 inp, .slice q L.length cap, .int .i64 a, .int .u8 t] ∧ RcIn W q cap L ∧ L.length * 64 ≤ 140737488351232 ∧ out.size ≤ 140737488351232 ∧ (-9223372036854775808 ≤ a ∧ a ≤ 9223372036854775807) ∧ (0 ≤ t ∧ t ≤ 255) := by
  obtain ⟨cs, rfl, hsz⟩ := okWide_struct Tryd.underlying39 hv
  obtain ⟨c0, c1, c2, c3, c4, c5, c6, rfl⟩ : ∃ c0 c1 c2 c3 c4 c5 c6, cs = #[c0, c1, c2, c3, c4, c5, c6] := by
    have h1 : cs.size = 7 := hsz.trans cCut
    obtain ⟨l⟩ := cs
    match l, h1 with
    | [c0, c1, c2, c3, c4, c5, c6], _ => exact ⟨c0, c1, c2, c3, c4, c5, c6, rfl⟩
  obtain ⟨fuel, hf⟩ := h
  obtain ⟨xs, m, _, hx, _, hlen, hfs⟩ := DataW.trod_struct Tryd.underlying39 hf
  obtain ⟨z0, z1, z2, rfl⟩ := list3 hlen
  have g0 : DataW.trod enc Tryd.prog W base spare held m 28 [c0, c1, c2, c3, c4] = some z0 := by have := hfs 0 _ rfl; simpa [Value.cells, cRec] using this
  have g1 : DataW.trod enc Tryd.prog W base spare held m 3 [c5] = some z1 := by have := hfs 1 _ rfl; simpa [Value.cells, cRec, cIn] using this
  have g2 : DataW.trod enc Tryd.prog W base spare held m 5 [c6] = some z2 := by have := hfs 2 _ rfl; simpa [Value.cells, cRec, cIn, cU8] using this
  simp only [Prod.mk.injEq] at hx
  have hd0 := hx.1
  subst hd0
  have hw : ∀ k, k ∈ DataW.weightsEach Tryd.prog [28, 3, 5] ([z0, z1, z2].map (·.1)) → k ≤ reachBytes := fun k hk => hd k (by simp only [DataW.weights, Tryd.underlying39]; exact hk)
  obtain ⟨ph, tr, out, inp, q, cap, L, e0, k1, k2, k3⟩ := op_rec m c0 c1 c2 c3 c4 z0 g0 (light_in hw 0 z0 rfl rfl)
  obtain ⟨a, e1, -, w1⟩ := DataW.trod_int Tryd.underlying3 g1
  obtain ⟨t, e2, -, w2⟩ := DataW.trod_int Tryd.underlying5 g2
  simp at e0 e1 e2
  obtain ⟨e00, e01, e02, e03, e04⟩ := e0
  exact ⟨ph, tr, out, inp, q, cap, L, a, t, by rw [e00, e01, e02, e03, e04, e1, e2], k1, k2, k3, wf_i64 w1, by simpa [Lit.wf, IntKind.min, IntKind.max, IntKind.signed, IntKind.bits] using w2⟩
end
end Go.Proofs.YtnecnchdffmhbaaDoor
