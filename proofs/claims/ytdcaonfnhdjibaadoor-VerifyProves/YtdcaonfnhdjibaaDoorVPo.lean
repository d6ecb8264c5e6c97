import Derived.Test.YtdcaonfnhdjibaaDoorVWo
import Derived.Test.YtdcaonfnhdjibaaDoorVPh
namespace Go.Proofs.YtdcaonfnhdjibaaDoor
open Go.ChangeShapes Go.WideShapes Go.ChangeAt Go.RowKit

/-! VerifyProves' argument, opened. -/
theorem cClaim : Tryd.prog.cellsOf 58 = 5 := by kernel_rfl
theorem cSrtP : Tryd.prog.cellsOf 45 = 1 := by kernel_rfl
theorem bSrtP : Tryd.prog.bytesOf 45 = 8 := by kernel_rfl
theorem cLsP : Tryd.prog.cellsOf 35 = 1 := by kernel_rfl
theorem bLsP : Tryd.prog.bytesOf 35 = 24 := by kernel_rfl
theorem cLlP : Tryd.prog.cellsOf 30 = 1 := by kernel_rfl
theorem op_srtP {H : Type} {enc : TypeId × Value → H} {W : World} {base : Nat} {spare : Nat → Bool} {held : Bool} (n : Nat) (cs : List Value) (y : DataW H × List MemPlace) (hl : cs.length = 1) (h : DataW.trod enc Tryd.prog W base spare held n 45 cs = some y) (_ : Light 45 y.1) : ∃ a : Int, cs = [.int .i64 a] ∧ i64 a := by
  obtain ⟨c0, rfl⟩ := list1 hl
  obtain ⟨a, e, -, w⟩ := DataW.trod_int Tryd.underlying45 h
  simp at e
  exact ⟨a, by rw [e], wf_i64 w⟩
theorem op_stk {H : Type} {enc : TypeId × Value → H} {W : World} {base : Nat} {spare : Nat → Bool} {held : Bool} (n : Nat) (cs : List Value) (y : DataW H × List MemPlace) (hl : cs.length = 1) (h : DataW.trod enc Tryd.prog W base spare held n 35 cs = some y) (hy : Light 35 y.1) : ∃ a : Value × Option (List Int), cs = [a.1] ∧ ElM W a.2 a.1 := by
  obtain ⟨c0, rfl⟩ := list1 hl
  obtain ⟨p, cap, L, e, hb, hrow, h64⟩ := slice_row (m := 1) (by omega) (fun a : Int => [Value.int .i64 a]) (fun _ => rfl) i64 Tryd.underlying35 cSrtP h hy op_srtP
  rw [bSrtP, reach_eq] at hb
  rw [flat_sv] at hrow
  rcases DataW.trod_slice Tryd.underlying35 h with ⟨h0, _⟩ | ⟨p2, len, cap2, elems, rest, n2, _, h0, _, _, hle, _⟩
  · simp only [List.cons.injEq, and_true] at h0
    exact ⟨(.slice none 0 0, none), by rw [h0], rfl⟩
  · simp only [List.cons.injEq, and_true] at h0
    rw [h0] at e
    simp only [Value.slice.injEq] at e
    obtain ⟨e1, rfl, rfl⟩ := e
    subst e1
    refine ⟨(.slice (some p2) L.length cap2, some L), by rw [h0], p2, cap2, rfl, ⟨hle, fun h => (by cases h), fun a ha h1 => ?_⟩, fun z hz => ?_, hb⟩
    · cases ha
      obtain ⟨g, o, hq, hg, hr⟩ := hrow h1
      cases hq
      exact ⟨g, o, rfl, hg, hr⟩
    · have := h64 z hz
      unfold i64 at this
      omega
theorem flat_fst (L : List (Value × Option (List Int))) (i : Nat) (hi : i < L.length) : (L.flatMap fun a => [a.1])[i]? = some (L[i]).1 := by
  have := flat_at (fun a : Value × Option (List Int) => [a.1]) 1 (fun _ => rfl) L i 0 hi (by decide)
  rw [Nat.mul_one, Nat.add_zero] at this
  rw [this]
  rfl
set_option maxRecDepth 100000 in
theorem open_claim {H : Type} {enc : TypeId × Value → H} {W : World} {base b0 : Nat} {spare : Nat → Bool} {held : Bool} {r : Reach} {v : Value} {d : DataW H} {p : List MemPlace} (hv : Value.okWide Tryd.prog W r b0 58 v) (h : DataW.Trod enc Tryd.prog W base spare held 58 v d p) (hd : Light 58 d) :
    ∃ (iq eq tq lq : Option Addr) (ia ea ta lc : Nat) (Es : List Em) (c : Cd) (K : Kn), v = .agg #[.slice iq c.ins.length ia, .slice eq c.ens.length ea, .slice tq c.txs.length ta, .int .i64 c.main, .slice lq K.length lc] ∧ ArgC W iq eq tq Es c ∧ (∀ y ∈ Es, y.1.sorts.length ≤ y.2.2 ∧ (y.2.1 = none → y.1.sorts.length = 0)) ∧ LlM W (.slice lq K.length lc) K ∧ K.length * 24 ≤ 140737488351232 := by
  obtain ⟨cs, rfl, hsz⟩ := okWide_struct Tryd.underlying58 hv
  obtain ⟨c0, c1, c2, c3, c4, rfl⟩ : ∃ c0 c1 c2 c3 c4, cs = #[c0, c1, c2, c3, c4] := by
    have h1 : cs.size = 5 := hsz.trans cClaim
    obtain ⟨l⟩ := cs
    match l, h1 with
    | [c0, c1, c2, c3, c4], _ => exact ⟨c0, c1, c2, c3, c4, rfl⟩
  obtain ⟨fuel, hf⟩ := h
  obtain ⟨xs, m, _, hx, _, hlen, hfs⟩ := DataW.trod_struct Tryd.underlying58 hf
  obtain ⟨z0, z1, rfl⟩ := list2D hlen
  have g0 : DataW.trod enc Tryd.prog W base spare held m 26 [c0, c1, c2, c3] = some z0 := by have := hfs 0 _ rfl; simpa [Value.cells, cCode] using this
  have g1 : DataW.trod enc Tryd.prog W base spare held m 30 [c4] = some z1 := by have := hfs 1 _ rfl; simpa [Value.cells, cCode, cLlP] using this
  simp only [Prod.mk.injEq] at hx
  have hd0 := hx.1
  subst hd0
  have hz : ∀ (j : Nat) (t : TypeId) (z : DataW H), ([26, 30] : List TypeId)[j]? = some t → ([z0, z1].map (·.1))[j]? = some z → Light t z := fun j t z h1 h2 k hk => hd k (by
    simp only [DataW.weights, Tryd.underlying58]
    exact DataW.weights_mem_each (P := Tryd.prog) (ts := [26, 30]) (ds := [z0, z1].map (·.1)) (j := j) h1 h2 k hk)
  obtain ⟨iq, eq, tq, ia, ea, ta, Es, c, e0, hC, hcp⟩ := open_code_cap g0 (hz 0 _ _ rfl rfl)
  obtain ⟨lq, lc, L, e1, lb, lrow, hE⟩ := slice_row (m := 1) (by omega) (fun a : Value × Option (List Int) => [a.1]) (fun _ => rfl) (fun a => ElM W a.2 a.1) Tryd.underlying30 cLsP g1 (hz 1 _ _ rfl rfl) op_stk
  rw [bLsP, reach_eq] at lb
  have hl : (L.map (·.2)).length = L.length := List.length_map ..
  refine ⟨iq, eq, tq, lq, ia, ea, ta, lc, Es, c, L.map (·.2), ?_, hC, hcp, ⟨lq, lc, rfl, fun i hi => ?_⟩, by rw [hl]; exact lb⟩
  · obtain ⟨rfl, rfl, rfl, rfl⟩ := e0
    rw [e1, hl]
  · rw [hl] at hi
    obtain ⟨g, o, hq, hg, hr⟩ := lrow (by omega)
    refine ⟨g, o, (L[i]).1, hq, hg, hr i _ (flat_fst L i hi), ?_⟩
    have e : (L.map (·.2)).getD i none = (L[i]).2 := by
      rw [List.getD_eq_getElem?_getD, List.getElem?_map, List.getElem?_eq_getElem hi]
      rfl
    rw [e]
    exact hE _ (List.getElem_mem hi)
end Go.Proofs.YtdcaonfnhdjibaaDoor
