import Derived.Test.YtlocaalipjjnpaaDoorRows
import Derived.WalkKit
import Derived.ProofKit
import Derived.OpenShut
import Derived.ShutString
import Derived.SizedLaws
import Derived.Below
import Derived.Lib.Strings
import Derived.Test.YtlocaalipjjnpaaDoorN12
namespace Go.Proofs.YtlocaalipjjnpaaDoor
open Go.ChangeShapes Go.WideShapes Go.ChangeAt Go.RowKit

theorem weightsAll_mem {H : Type} {P : Program} {e : TypeId} {d : DataW H} : ∀ {l : List (DataW H)}, d ∈ l → ∀ m ∈ d.weights P e, m ∈ DataW.weightsAll P e l
  | x :: l, h, m, hm => by
    simp only [DataW.weightsAll, List.mem_append]
    rcases List.mem_cons.1 h with rfl | h
    · exact .inl hm
    · exact .inr (weightsAll_mem h m hm)

/-- No text and no list in it takes more than a machine has. -/
def Light {H : Type} (t : TypeId) (d : DataW H) : Prop := ∀ m ∈ d.weights Tryd.prog t, m ≤ reachBytes

theorem plain_of_cell {w : World} {a : Addr} {v : Value} (h : w.cell? a = some v) : a = ⟨a.block, a.off, none⟩ ∧ a.block < w.heap.size := by
  refine ⟨?_, World.block_lt_of_cell? w a h⟩
  obtain ⟨b, o, sp⟩ := a
  cases sp with
  | none => rfl
  | some q =>
    unfold World.cell? at h
    split at h
    · simp at h
    · cases h

/-- A slice, opened as far as it reaches: its elements' cells, each read. -/
theorem slice_at {H : Type} {enc : TypeId × Value → H} {W : World} {base : Nat} {spare : Nat → Bool} {held : Bool} {fuel : Nat} {t e : TypeId} {c : Value} {x : DataW H × List MemPlace} {m : Nat} (hm : 0 < m)
    (ht : Tryd.prog.underlying t = some (.slice e)) (hc : Tryd.prog.cellsOf e = m) (h : DataW.trod enc Tryd.prog W base spare held fuel t [c] = some x) (hw : Light t x.1) :
    ∃ (p : Option Addr) (len cap n : Nat), c = .slice p len cap ∧ (p = none → len = 0 ∧ cap = 0) ∧ len * Tryd.prog.bytesOf e ≤ reachBytes ∧ ∀ i, i < len → ∃ g o cs y, p = some ⟨g, o, none⟩ ∧ g < W.heap.size ∧ cs.length = m ∧ (∀ j, j < m → W.cell? ⟨g, o + i * m + j, none⟩ = cs[j]?) ∧ DataW.trod enc Tryd.prog W base spare held n e cs = some y ∧ Light e y.1 := by
  rcases DataW.trod_slice ht h with ⟨h0, _⟩ | ⟨a, len, cap, elems, rest, n, _, h0, rfl, _, _, _, hlen, hel, _, _⟩
  · exact ⟨none, 0, 0, 0, by simpa using h0, fun _ => ⟨rfl, rfl⟩, by rw [Nat.zero_mul]; exact Nat.zero_le _, fun i hi => by omega⟩
  · have hw1 := hw ((elems.map (·.1)).length + (rest.map (·.1)).length |> (· * Tryd.prog.bytesOf e)) (by simp [DataW.weights, ht])
    have hb : len * Tryd.prog.bytesOf e ≤ reachBytes := by
      refine Nat.le_trans (Nat.mul_le_mul_right _ ?_) hw1
      rw [List.length_map, hlen]
      omega
    refine ⟨some a, len, cap, n, by simpa using h0, (fun e => by cases e), hb, fun i hi => ?_⟩
    have key : ∀ i, i < len → ∃ cs y, elems[i]? = some y ∧ W.cells? base (a.add (i * m)) m = some cs ∧ DataW.trod enc Tryd.prog W base spare held n e cs = some y := by
      intro i hi
      have := hel i hi
      rw [hc, List.getElem?_eq_getElem (by omega), Option.bind_eq_some_iff] at this
      obtain ⟨cs, h1, h2⟩ := this
      exact ⟨cs, _, List.getElem?_eq_getElem (by omega), h1, h2⟩
    obtain ⟨cs0, _, _, hz, _⟩ := key 0 (by omega)
    obtain ⟨_, hz1, hz2⟩ := World.cells?_some hz
    have hp := hz2 0 hm
    rw [Nat.zero_mul, show (a.add 0).add 0 = a from by simp [Addr.add], List.getElem?_eq_getElem (by omega)] at hp
    obtain ⟨ha, hg⟩ := plain_of_cell hp
    obtain ⟨cs, y, hy, h1, h2⟩ := key i hi
    obtain ⟨_, h3, h4⟩ := World.cells?_some h1
    refine ⟨a.block, a.off, cs, y, congrArg some ha, hg, h3, fun j hj => ?_, h2, ?_⟩
    · have := h4 j hj
      rw [ha, add_plain, add_plain] at this
      exact this
    · intro m' hm'
      refine hw m' ?_
      have := weightsAll_mem (List.mem_map_of_mem (f := (·.1)) (List.mem_of_getElem? hy)) m' hm'
      simp only [DataW.weights, ht, List.mem_cons, List.mem_append]
      exact .inr (.inl this)

theorem bcells36 : Tryd.prog.cellsOf 39 = 9 := by kernel_rfl
theorem bcells24 : Tryd.prog.cellsOf 24 = 1 := by kernel_rfl
theorem bcells22 : Tryd.prog.cellsOf 22 = 1 := by kernel_rfl
theorem bcells25 : Tryd.prog.cellsOf 36 = 1 := by kernel_rfl
theorem bcells34 : Tryd.prog.cellsOf 37 = 1 := by kernel_rfl
theorem bcells9 : Tryd.prog.cellsOf 9 = 1 := by kernel_rfl
theorem bcells3 : Tryd.prog.cellsOf 3 = 1 := by kernel_rfl
theorem bcells2 : Tryd.prog.cellsOf 2 = 1 := by kernel_rfl
theorem bbytes36 : Tryd.prog.bytesOf 39 = 104 := by kernel_rfl
theorem reachBytes_eq : reachBytes = 140737488351232 := by decide
theorem laidOut : laidOutB Tryd.prog = true := by kernel_rfl

theorem list1 {α : Type} {xs : List α} (h : xs.length = 1) : ∃ c0, xs = [c0] := by
  match xs, h with
  | [c0], _ => exact ⟨c0, rfl⟩
theorem list6 {α : Type} {xs : List α} (h : xs.length = 6) : ∃ c0 c1 c2 c3 c4 c5, xs = [c0, c1, c2, c3, c4, c5] := by
  match xs, h with
  | [c0, c1, c2, c3, c4, c5], _ => exact ⟨c0, c1, c2, c3, c4, c5, rfl⟩
theorem list9 {α : Type} {xs : List α} (h : xs.length = 9) : ∃ c0 c1 c2 c3 c4 c5 c6 c7 c8, xs = [c0, c1, c2, c3, c4, c5, c6, c7, c8] := by
  match xs, h with
  | [c0, c1, c2, c3, c4, c5, c6, c7, c8], _ => exact ⟨c0, c1, c2, c3, c4, c5, c6, c7, c8, rfl⟩
theorem array6 {α : Type} {cs : Array α} (h : cs.size = 6) : ∃ c0 c1 c2 c3 c4 c5, cs = #[c0, c1, c2, c3, c4, c5] := by
  obtain ⟨l⟩ := cs
  match l, h with
  | [c0, c1, c2, c3, c4, c5], _ => exact ⟨c0, c1, c2, c3, c4, c5, rfl⟩

/-- A node, read. -/
theorem nd_cells {H : Type} {enc : TypeId × Value → H} {W : World} {base : Nat} {spare : Nat → Bool} {held : Bool} {fuel : Nat} {cs : List Value} {x : DataW H × List MemPlace} (hl : cs.length = 9) (h : DataW.trod enc Tryd.prog W base spare held fuel 39 cs = some x) (hw : Light 39 x.1) :
    ∃ y : Nd, cs = (ndV y).toList ∧ y.name.size ≤ 140737488355328 ∧ y.label.size ≤ 140737488355328 ∧ y.typ.size ≤ 140737488355328 ∧ y.text.size ≤ 140737488355328 := by
  obtain ⟨c0, c1, c2, c3, c4, c5, c6, c7, c8, rfl⟩ := list9 hl
  obtain ⟨xs, m, _, hx, _, hlen, hfs⟩ := DataW.trod_struct Tryd.underlying39 h
  obtain ⟨y0, y1, y2, y3, y4, y5, y6, y7, y8, rfl⟩ := list9 hlen
  have f0 : DataW.trod enc Tryd.prog W base spare held m 36 [c0] = some y0 := by have := hfs 0 _ rfl; simpa [bcells25] using this
  have f1 : DataW.trod enc Tryd.prog W base spare held m 3 [c1] = some y1 := by have := hfs 1 _ rfl; simpa [bcells3] using this
  have f2 : DataW.trod enc Tryd.prog W base spare held m 9 [c2] = some y2 := by have := hfs 2 _ rfl; simpa [bcells9] using this
  have f3 : DataW.trod enc Tryd.prog W base spare held m 9 [c3] = some y3 := by have := hfs 3 _ rfl; simpa [bcells9] using this
  have f4 : DataW.trod enc Tryd.prog W base spare held m 9 [c4] = some y4 := by have := hfs 4 _ rfl; simpa [bcells9] using this
  have f5 : DataW.trod enc Tryd.prog W base spare held m 37 [c5] = some y5 := by have := hfs 5 _ rfl; simpa [bcells34] using this
  have f6 : DataW.trod enc Tryd.prog W base spare held m 2 [c6] = some y6 := by have := hfs 6 _ rfl; simpa [bcells2] using this
  have f7 : DataW.trod enc Tryd.prog W base spare held m 9 [c7] = some y7 := by have := hfs 7 _ rfl; simpa [bcells9] using this
  have f8 : DataW.trod enc Tryd.prog W base spare held m 3 [c8] = some y8 := by have := hfs 8 _ rfl; simpa [bcells3] using this
  obtain ⟨a0, e0, _, _⟩ := DataW.trod_int Tryd.underlying36 f0
  obtain ⟨a1, e1, _, _⟩ := DataW.trod_int Tryd.underlying3 f1
  obtain ⟨s2, e2, rfl, _⟩ := DataW.trod_string Tryd.underlying9 f2
  obtain ⟨s3, e3, rfl, _⟩ := DataW.trod_string Tryd.underlying9 f3
  obtain ⟨s4, e4, rfl, _⟩ := DataW.trod_string Tryd.underlying9 f4
  obtain ⟨a5, e5, _, _⟩ := DataW.trod_int Tryd.underlying37 f5
  obtain ⟨a6, e6, _, _⟩ := DataW.trod_int Tryd.underlying2 f6
  obtain ⟨s7, e7, rfl, _⟩ := DataW.trod_string Tryd.underlying9 f7
  obtain ⟨a8, e8, _, _⟩ := DataW.trod_int Tryd.underlying3 f8
  simp at e0 e1 e2 e3 e4 e5 e6 e7 e8
  subst e0 e1 e2 e3 e4 e5 e6 e7 e8
  have hwt : ∀ (j : Nat) (s : ByteArray), ([36, 3, 9, 9, 9, 37, 2, 9, 3] : List TypeId)[j]? = some 9 → ([y0, y1, (.lit (.string s2.data.toList), []), (.lit (.string s3.data.toList), []), (.lit (.string s4.data.toList), []), y5, y6, (.lit (.string s7.data.toList), []), y8].map (·.1) : List (DataW H))[j]? = some (.lit (.string s.data.toList)) → s.size ≤ 140737488355328 := fun j s h1 h2 => by
    have h3 := DataW.weights_mem_each (P := Tryd.prog) h1 h2 s.data.toList.length (by simp [DataW.weights])
    have h4 := hw s.data.toList.length (by rw [hx]; simp only [DataW.weights, Tryd.underlying39]; exact h3)
    have := reachBytes_lt
    rw [Lib.size_eq]
    omega
  exact ⟨⟨a0, a1, s2, s3, s4, a5, a6, s7, a8⟩, rfl, hwt 2 s2 rfl rfl, hwt 3 s3 rfl rfl, hwt 4 s4 rfl rfl, hwt 7 s7 rfl rfl⟩

/-- A list of nodes, read. -/
theorem open_nodes {H : Type} {enc : TypeId × Value → H} {W : World} {base : Nat} {spare : Nat → Bool} {held : Bool} {fuel : Nat} {c : Value} {x : DataW H × List MemPlace} (h : DataW.trod enc Tryd.prog W base spare held fuel 22 [c] = some x) (hw : Light 22 x.1) :
    ∃ (p : Option Addr) (n cap : Nat) (L : List Nd), c = .slice p n cap ∧ Arg W p n cap L := by
  obtain ⟨p, n, cap, f, rfl, hnil, hn, hel⟩ := slice_at (m := 9) (by omega) Tryd.underlying22 bcells36 h hw
  rw [bbytes36] at hn
  have hr := reachBytes_eq
  have key : ∀ i : Fin n, ∃ y : Nd, (∃ g o, p = some ⟨g, o, none⟩ ∧ g < W.heap.size ∧ ∀ (j : Nat) (v : Value), (ndV y)[j]? = some v → W.cell? ⟨g, o + i.1 * 9 + j, none⟩ = some v) ∧ y.name.size ≤ 140737488355328 ∧ y.label.size ≤ 140737488355328 ∧ y.typ.size ≤ 140737488355328 ∧ y.text.size ≤ 140737488355328 := fun i => by
    obtain ⟨g, o, cs, y, hp, hg, hl, hc, hy, hby⟩ := hel i.1 i.2
    obtain ⟨z, rfl, h1, h2, h3, h4⟩ := nd_cells hl hy hby
    refine ⟨z, ⟨g, o, hp, hg, fun j v hv => ?_⟩, h1, h2, h3, h4⟩
    have hj : j < 9 := (Array.getElem?_eq_some_iff.1 hv).1
    rw [hc j hj]
    simpa using hv
  obtain ⟨F, hF⟩ := Classical.axiomOfChoice key
  have hnd : ∀ (i : Nat) (hi : i < n), nd (List.ofFn F) i = F ⟨i, hi⟩ := fun i hi => by simp [nd, hi]
  have hlen : (List.ofFn F).length = n := by simp
  refine ⟨p, n, cap, List.ofFn F, rfl, ⟨⟨by rw [hlen]; omega, fun i hi => ?_⟩, hlen, fun hne => ?_⟩, hnil⟩
  · rw [hlen] at hi
    rw [hnd i hi]
    exact (hF ⟨i, hi⟩).2
  · have h0 : 0 < n := by
      rcases Nat.eq_zero_or_pos n with h | h
      · exact absurd (List.length_eq_zero_iff.1 (hlen.trans h)) hne
      · exact h
    obtain ⟨⟨g, o, hp, hg, _⟩, _⟩ := hF ⟨0, h0⟩
    refine ⟨g, o, hp, hg, fun i hi j v hv => ?_⟩
    rw [hlen] at hi
    rw [hnd i hi] at hv
    obtain ⟨⟨g', o', hp', _, hc⟩, _⟩ := hF ⟨i, hi⟩
    rw [hp] at hp'
    cases hp'
    exact hc j v hv

end Go.Proofs.YtlocaalipjjnpaaDoor
