import Derived.Test.YtchinflkjcebjaaGreatDoorCOp
namespace Go.Proofs.YtchinflkjcebjaaGreatDoor
open Go.ChangeShapes Go.WideShapes Go.ChangeAt Go.RowKit

theorem list2 {α : Type} {xs : List α} (h : xs.length = 2) : ∃ c0 c1, xs = [c0, c1] := by
  match xs, h with
  | [c0, c1], _ => exact ⟨c0, c1, rfl⟩
theorem cMore : Tryz.prog.cellsOf 23 = 2 := by kernel_rfl
set_option maxRecDepth 100000 in
theorem open_more {H : Type} {enc : TypeId × Value → H} {W : World} {base b0 : Nat} {spare : Nat → Bool} {held : Bool} {r : Reach} {v : Value} {d : DataW H} {p : List MemPlace} (hv : Value.okWide Tryz.prog W r b0 23 v) (h : DataW.Trod enc Tryz.prog W base spare held 23 v d p) (hd : Light 23 d) :
    ∃ a b : ByteArray, v = .agg #[.string a, .string b] ∧ a.size ≤ 140737488351232 ∧ b.size ≤ 140737488351232 := by
  obtain ⟨cs, rfl, hsz⟩ := okWide_struct Tryz.underlying23 hv
  obtain ⟨c0, c1, rfl⟩ : ∃ c0 c1, cs = #[c0, c1] := by
    have h1 : cs.size = 2 := hsz.trans cMore
    obtain ⟨l⟩ := cs
    match l, h1 with
    | [c0, c1], _ => exact ⟨c0, c1, rfl⟩
  obtain ⟨fuel, hf⟩ := h
  obtain ⟨xs, m, _, hx, _, hlen, hfs⟩ := DataW.trod_struct Tryz.underlying23 hf
  obtain ⟨z0, z1, rfl⟩ := list2 hlen
  have g0 : DataW.trod enc Tryz.prog W base spare held m 9 [c0] = some z0 := by have := hfs 0 _ rfl; simpa [Value.cells, cStr] using this
  have g1 : DataW.trod enc Tryz.prog W base spare held m 9 [c1] = some z1 := by have := hfs 1 _ rfl; simpa [Value.cells, cStr] using this
  simp only [Prod.mk.injEq] at hx
  have hd0 := hx.1
  subst hd0
  have hz : ∀ (j : Nat) (t : TypeId) (z : DataW H), ([9, 9] : List TypeId)[j]? = some t → ([z0, z1].map (·.1))[j]? = some z → Light t z := fun j t z h1 h2 k hk => hd k (by
    simp only [DataW.weights, Tryz.underlying23]
    exact DataW.weights_mem_each (P := Tryz.prog) (ts := [9, 9]) (ds := [z0, z1].map (·.1)) (j := j) h1 h2 k hk)
  obtain ⟨a, e0, ha⟩ := op_str m [c0] z0 rfl g0 (hz 0 _ _ rfl rfl)
  obtain ⟨b, e1, hb⟩ := op_str m [c1] z1 rfl g1 (hz 1 _ _ rfl rfl)
  simp at e0 e1
  exact ⟨a, b, by rw [e0, e1], ha, hb⟩
end Go.Proofs.YtchinflkjcebjaaGreatDoor
