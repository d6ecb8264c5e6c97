import Derived.Test.YtaeigpfcfodmdaaEVd
import Derived.Test.YtaeigpfcfodmdaaRows
import Derived.OpenShut
import Derived.ShutString
import Derived.SizedLaws
import Derived.Lib.Strings
import Derived.ChangeArms
namespace Go.Proofs.Ytaeigpfcfodmdaa
open Go.ChangeShapes Go.WideShapes Go.ChangeAt Go.RowKit

/-! EventsReads' argument, opened; the row. -/
theorem own : ownKnob Try.prog.godebug = none := by kernel_rfl
theorem laidOut : laidOutB Try.prog = true := by kernel_rfl
theorem weightsAll_mem {H : Type} {P : Program} {e : TypeId} {d : DataW H} : ∀ {l : List (DataW H)}, d ∈ l → ∀ m ∈ d.weights P e, m ∈ DataW.weightsAll P e l
  | x :: l, h, m, hm => by
    simp only [DataW.weightsAll, List.mem_append]
    rcases List.mem_cons.1 h with rfl | h
    · exact .inl hm
    · exact .inr (weightsAll_mem h m hm)
/-- No text and no list in it takes more than a machine has. -/
def Light {H : Type} (t : TypeId) (d : DataW H) : Prop := ∀ m ∈ d.weights Try.prog t, m ≤ reachBytes
theorem plain_of_cell {w : World} {a : Addr} {v : Value} (h : w.cell? a = some v) : a = ⟨a.block, a.off, none⟩ ∧ a.block < w.heap.size := by
  refine ⟨?_, World.block_lt_of_cell? w a h⟩
  obtain ⟨b, o, sp⟩ := a
  cases sp with
  | none => rfl
  | some q =>
    unfold World.cell? at h
    split at h
    · simp at h
    · cases h
/-- A slice, opened as far as it reaches: its elements' cells, each read. -/
theorem slice_at {H : Type} {enc : TypeId × Value → H} {W : World} {base : Nat} {spare : Nat → Bool} {held : Bool} {fuel : Nat} {t e : TypeId} {c : Value} {x : DataW H × List MemPlace} {m : Nat} (hm : 0 < m)
    (ht : Try.prog.underlying t = some (.slice e)) (hc : Try.prog.cellsOf e = m) (h : DataW.trod enc Try.prog W base spare held fuel t [c] = some x) (hw : Light t x.1) :
    ∃ (p : Option Addr) (len cap n : Nat), c = .slice p len cap ∧ len * Try.prog.bytesOf e ≤ reachBytes ∧ ∀ i, i < len → ∃ g o cs y, p = some ⟨g, o, none⟩ ∧ g < W.heap.size ∧ cs.length = m ∧ (∀ j, j < m → W.cell? ⟨g, o + i * m + j, none⟩ = cs[j]?) ∧ DataW.trod enc Try.prog W base spare held n e cs = some y ∧ Light e y.1 := by
  rcases DataW.trod_slice ht h with ⟨h0, _⟩ | ⟨a, len, cap, elems, rest, n, _, h0, rfl, _, _, _, hlen, hel, _, _⟩
  · exact ⟨none, 0, 0, 0, by simpa using h0, by rw [Nat.zero_mul]; exact Nat.zero_le _, fun i hi => by omega⟩
  · have hw1 := hw ((elems.map (·.1)).length + (rest.map (·.1)).length |> (· * Try.prog.bytesOf e)) (by simp [DataW.weights, ht])
    have hb : len * Try.prog.bytesOf e ≤ reachBytes := by
      refine Nat.le_trans (Nat.mul_le_mul_right _ ?_) hw1
      rw [List.length_map, hlen]
      omega
    refine ⟨some a, len, cap, n, by simpa using h0, hb, fun i hi => ?_⟩
    have key : ∀ i, i < len → ∃ cs y, elems[i]? = some y ∧ W.cells? base (a.add (i * m)) m = some cs ∧ DataW.trod enc Try.prog W base spare held n e cs = some y := by
      intro i hi
      have := hel i hi
      rw [hc, List.getElem?_eq_getElem (by omega), Option.bind_eq_some_iff] at this
      obtain ⟨cs, h1, h2⟩ := this
      exact ⟨cs, _, List.getElem?_eq_getElem (by omega), h1, h2⟩
    obtain ⟨cs0, _, _, hz, _⟩ := key 0 (by omega)
    obtain ⟨_, hz1, hz2⟩ := World.cells?_some hz
    have hp := hz2 0 hm
    rw [Nat.zero_mul, show (a.add 0).add 0 = a from by simp [Addr.add], List.getElem?_eq_getElem (by omega)] at hp
    obtain ⟨ha, hg⟩ := plain_of_cell hp
    obtain ⟨cs, y, hy, h1, h2⟩ := key i hi
    obtain ⟨_, h3, h4⟩ := World.cells?_some h1
    refine ⟨a.block, a.off, cs, y, congrArg some ha, hg, h3, fun j hj => ?_, h2, fun k hk => hw k ?_⟩
    · have := h4 j hj
      rw [ha, Addr.add_mid, Addr.add_mid] at this
      exact this
    · have hmem : y.1 ∈ elems.map (·.1) := List.mem_map.2 ⟨y, List.mem_of_getElem? hy, rfl⟩
      simp only [DataW.weights, ht, List.mem_cons, List.mem_append]
      exact .inr (.inl (weightsAll_mem hmem k hk))
theorem reach_eq : reachBytes = 140737488351232 := by decide
theorem list1 {α : Type} {xs : List α} (h : xs.length = 1) : ∃ c0, xs = [c0] := by
  match xs, h with
  | [c0], _ => exact ⟨c0, rfl⟩
/-- The elements of a slice, one reading each, as one row. -/
theorem slice_row {α : Type} {H : Type} {enc : TypeId × Value → H} {W : World} {base : Nat} {spare : Nat → Bool} {held : Bool} {fuel : Nat} {t e : TypeId} {c : Value} {x : DataW H × List MemPlace} {m : Nat} (hm : 0 < m) (f : α → List Value) (hf : ∀ a, (f a).length = m) (R : α → Prop)
    (ht : Try.prog.underlying t = some (.slice e)) (hc : Try.prog.cellsOf e = m) (h : DataW.trod enc Try.prog W base spare held fuel t [c] = some x) (hw : Light t x.1)
    (hr : ∀ (n : Nat) (cs : List Value) (y : DataW H × List MemPlace), cs.length = m → DataW.trod enc Try.prog W base spare held n e cs = some y → Light e y.1 → ∃ a, cs = f a ∧ R a) :
    ∃ (p : Option Addr) (cap : Nat) (L : List α), c = .slice p L.length cap ∧ L.length * Try.prog.bytesOf e ≤ reachBytes ∧ Row W W.heap.size p L.length (L.flatMap f) ∧ ∀ a ∈ L, R a := by
  obtain ⟨p, len, cap, n, hcv, hb, hst⟩ := slice_at hm ht hc h hw
  have key : ∀ i : Fin len, ∃ a : α, (∃ g o, p = some ⟨g, o, none⟩ ∧ g < W.heap.size ∧ W.rangeAt g (o + i.1 * m) (f a)) ∧ R a := fun i => by
    obtain ⟨g, o, cs, y, hp, hg, hl, hcc, hy, hyl⟩ := hst i.1 i.2
    obtain ⟨a, rfl, ha⟩ := hr n cs y hl hy hyl
    refine ⟨a, ⟨g, o, hp, hg, fun j v hv => ?_⟩, ha⟩
    have hj : j < m := by have := (List.getElem?_eq_some_iff.1 hv).1; omega
    rw [hcc j hj]
    exact hv
  obtain ⟨F, hF⟩ := Classical.axiomOfChoice key
  have hlenF : (List.ofFn F).length = len := by simp
  refine ⟨p, cap, List.ofFn F, by rw [hlenF]; exact hcv, by rw [hlenF]; exact hb, fun h0 => ?_, fun a ha => ?_⟩
  · rw [hlenF] at h0
    obtain ⟨⟨g, o, hp, hg, _⟩, _⟩ := hF ⟨0, h0⟩
    refine ⟨g, o, hp, hg, fun j v hv => ?_⟩
    have hl : ((List.ofFn F).flatMap f).length = len * m := by
      rw [List.length_flatMap]
      have : ∀ (l : List α), (l.map fun a => (f a).length).sum = l.length * m := by
        intro l
        induction l with
        | nil => simp
        | cons a l ih => rw [List.map_cons, List.sum_cons, ih, hf, List.length_cons, Nat.succ_mul]; omega
      rw [this, hlenF]
    have hj : j < len * m := by rw [← hl]; exact (List.getElem?_eq_some_iff.1 hv).1
    have hd : j / m < len := Nat.div_lt_of_lt_mul (by rw [Nat.mul_comm]; exact hj)
    have hmod : j % m < m := Nat.mod_lt _ hm
    have h2 := flat_at f m hf (List.ofFn F) (j / m) (j % m) (by rw [hlenF]; exact hd) hmod
    rw [show j / m * m + j % m = j by rw [Nat.mul_comm]; exact Nat.div_add_mod j m, hv] at h2
    obtain ⟨⟨g', o', hp', _, hcc⟩, _⟩ := hF ⟨j / m, hd⟩
    rw [hp] at hp'
    cases hp'
    have h3 := hcc (j % m) v (by rw [h2]; simp)
    rwa [Nat.add_assoc, show j / m * m + j % m = j by rw [Nat.mul_comm]; exact Nat.div_add_mod j m] at h3
  · obtain ⟨i, rfl⟩ := List.mem_ofFn.1 ha
    exact (hF i).2
theorem list2 {α : Type} {xs : List α} (h : xs.length = 2) : ∃ c0 c1, xs = [c0, c1] := by
  match xs, h with
  | [c0, c1], _ => exact ⟨c0, c1, rfl⟩
theorem list3 {α : Type} {xs : List α} (h : xs.length = 3) : ∃ c0 c1 c2, xs = [c0, c1, c2] := by
  match xs, h with
  | [c0, c1, c2], _ => exact ⟨c0, c1, c2, rfl⟩
theorem list5 {α : Type} {xs : List α} (h : xs.length = 5) : ∃ c0 c1 c2 c3 c4, xs = [c0, c1, c2, c3, c4] := by
  match xs, h with
  | [c0, c1, c2, c3, c4], _ => exact ⟨c0, c1, c2, c3, c4, rfl⟩
theorem wf_i64 {n : Int} (h : (Lit.int .i64 n).wf = true) : -9223372036854775808 ≤ n ∧ n ≤ 9223372036854775807 := by simpa [Lit.wf, IntKind.min, IntKind.max, IntKind.signed, IntKind.bits] using h
theorem cAsk : Try.prog.cellsOf 25 = 2 := by kernel_rfl
theorem cHkL : Try.prog.cellsOf 22 = 1 := by kernel_rfl
theorem cYdL : Try.prog.cellsOf 23 = 1 := by kernel_rfl
theorem cHk : Try.prog.cellsOf 28 = 3 := by kernel_rfl
theorem cYd : Try.prog.cellsOf 38 = 5 := by kernel_rfl
theorem cVl : Try.prog.cellsOf 31 = 3 := by kernel_rfl
theorem cEk : Try.prog.cellsOf 26 = 1 := by kernel_rfl
theorem cVk : Try.prog.cellsOf 29 = 1 := by kernel_rfl
theorem cI6 : Try.prog.cellsOf 2 = 1 := by kernel_rfl
theorem cIn : Try.prog.cellsOf 3 = 1 := by kernel_rfl
theorem cBo : Try.prog.cellsOf 4 = 1 := by kernel_rfl
theorem cSt : Try.prog.cellsOf 9 = 1 := by kernel_rfl
theorem bHk : Try.prog.bytesOf 28 = 32 := by kernel_rfl
theorem bYd : Try.prog.bytesOf 38 = 48 := by kernel_rfl
theorem op_str {H : Type} {enc : TypeId × Value → H} {W : World} {base : Nat} {spare : Nat → Bool} {held : Bool} (n : Nat) (cs : List Value) (y : DataW H × List MemPlace) (hl : cs.length = 1) (h : DataW.trod enc Try.prog W base spare held n 9 cs = some y) (hy : Light 9 y.1) : ∃ a : ByteArray, cs = [.string a] ∧ a.size ≤ 140737488351232 := by
  obtain ⟨c0, rfl⟩ := list1 hl
  obtain ⟨a, e, rfl, -⟩ := DataW.trod_string Try.underlying9 h
  simp at e
  refine ⟨a, by rw [e], ?_⟩
  have := hy a.size (by simp only [DataW.weights]; exact List.mem_singleton.2 (Array.length_toList (xs := a.data)).symm)
  rwa [reach_eq] at this
section
variable {H : Type} {enc : TypeId × Value → H} {W : World} {base : Nat} {spare : Nat → Bool} {held : Bool}
theorem light_in {t : TypeId} {fs : List TypeId} {xs : List (DataW H × List MemPlace)} (h : ∀ m, m ∈ DataW.weightsEach Try.prog fs (xs.map (·.1)) → m ≤ reachBytes) (j : Nat) (y : DataW H × List MemPlace) (h1 : fs[j]? = some t) (h2 : xs[j]? = some y) : Light t y.1 := fun k hk => h k (DataW.weights_mem_each (P := Try.prog) (ts := fs) (ds := xs.map (·.1)) (j := j) h1 (by rw [List.getElem?_map, h2]; rfl) k hk)
theorem op_hook (n : Nat) (cs : List Value) (y : DataW H × List MemPlace) (hl : cs.length = 3) (h : DataW.trod enc Try.prog W base spare held n 28 cs = some y) (hy : Light 28 y.1) : ∃ a : Hk, cs = hc a ∧ a.2.2.size ≤ 140737488351232 := by
  obtain ⟨c0, c1, c2, rfl⟩ := list3 hl
  obtain ⟨xs, m, _, hx, _, hlen, hfs⟩ := DataW.trod_struct Try.underlying28 h
  obtain ⟨z0, z1, z2, rfl⟩ := list3 hlen
  have g0 : DataW.trod enc Try.prog W base spare held m 26 [c0] = some z0 := by have := hfs 0 _ rfl; simpa [cEk] using this
  have g1 : DataW.trod enc Try.prog W base spare held m 3 [c1] = some z1 := by have := hfs 1 _ rfl; simpa [cEk, cIn] using this
  have g2 : DataW.trod enc Try.prog W base spare held m 9 [c2] = some z2 := by have := hfs 2 _ rfl; simpa [cEk, cIn, cSt] using this
  subst hx
  obtain ⟨a0, e0, -, -⟩ := DataW.trod_int Try.underlying26 g0
  obtain ⟨a1, e1, -, -⟩ := DataW.trod_int Try.underlying3 g1
  obtain ⟨s, e2, hs⟩ := op_str m [c2] z2 rfl g2 (light_in (fs := [26, 3, 9]) (xs := [z0, z1, z2]) (fun k hk => hy k (by simp only [DataW.weights, Try.underlying28]; exact hk)) 2 z2 rfl rfl)
  simp at e0 e1 e2
  exact ⟨(a0, a1, s), by rw [e0, e1, e2]; rfl, hs⟩
theorem op_yield (n : Nat) (cs : List Value) (y : DataW H × List MemPlace) (hl : cs.length = 5) (h : DataW.trod enc Try.prog W base spare held n 38 cs = some y) (hy : Light 38 y.1) : ∃ a : Yd, cs = yc a ∧ (a.2.2.2.2.size ≤ 140737488351232 ∧ -9223372036854775808 ≤ a.1) := by
  obtain ⟨c0, c1, c2, c3, c4, rfl⟩ := list5 hl
  obtain ⟨xs, m, _, hx, _, hlen, hfs⟩ := DataW.trod_struct Try.underlying38 h
  obtain ⟨z0, z1, z2, rfl⟩ := list3 hlen
  have g0 : DataW.trod enc Try.prog W base spare held m 3 [c0] = some z0 := by have := hfs 0 _ rfl; simpa [cIn] using this
  have g1 : DataW.trod enc Try.prog W base spare held m 4 [c1] = some z1 := by have := hfs 1 _ rfl; simpa [cIn, cBo] using this
  have g2 : DataW.trod enc Try.prog W base spare held m 31 [c2, c3, c4] = some z2 := by have := hfs 2 _ rfl; simpa [cIn, cBo, cVl] using this
  subst hx
  have l2 : Light 31 z2.1 := light_in (fs := [3, 4, 31]) (xs := [z0, z1, z2]) (fun k hk => hy k (by simp only [DataW.weights, Try.underlying38]; exact hk)) 2 z2 rfl rfl
  obtain ⟨a0, e0, -, w0⟩ := DataW.trod_int Try.underlying3 g0
  obtain ⟨b1, e1, -⟩ := DataW.trod_bool Try.underlying4 g1
  obtain ⟨xs, m2, _, hx, _, hlen, hgs⟩ := DataW.trod_struct Try.underlying31 g2
  obtain ⟨y0, y1, y2, rfl⟩ := list3 hlen
  have k0 : DataW.trod enc Try.prog W base spare held m2 29 [c2] = some y0 := by have := hgs 0 _ rfl; simpa [cVk] using this
  have k1 : DataW.trod enc Try.prog W base spare held m2 2 [c3] = some y1 := by have := hgs 1 _ rfl; simpa [cVk, cI6] using this
  have k2 : DataW.trod enc Try.prog W base spare held m2 9 [c4] = some y2 := by have := hgs 2 _ rfl; simpa [cVk, cI6, cSt] using this
  subst hx
  obtain ⟨a2, e2, -, -⟩ := DataW.trod_int Try.underlying29 k0
  obtain ⟨a3, e3, -, -⟩ := DataW.trod_int Try.underlying2 k1
  obtain ⟨s, e4, hs⟩ := op_str m2 [c4] y2 rfl k2 (light_in (fs := [29, 2, 9]) (xs := [y0, y1, y2]) (fun k hk => l2 k (by simp only [DataW.weights, Try.underlying31]; exact hk)) 2 y2 rfl rfl)
  simp at e0 e1 e2 e3 e4
  exact ⟨(a0, b1, a2, a3, s), by rw [e0, e1, e2, e3, e4]; rfl, hs, (wf_i64 w0).1⟩
set_option maxRecDepth 100000 in
theorem open_asked {b0 : Nat} {r : Reach} {v : Value} {d : DataW H} {p : List MemPlace} (hv : Value.okWide Try.prog W r b0 25 v) (h : DataW.Trod enc Try.prog W base spare held 25 v d p) (hd : Light 25 d) :
    ∃ (tq yq : Option Addr) (tc ycp : Nat) (HT : List Hk) (YL : List Yd), v = .agg #[.slice tq HT.length tc, .slice yq YL.length ycp] ∧ Row W W.heap.size tq HT.length (HT.flatMap hc) ∧ Row W W.heap.size yq YL.length (YL.flatMap yc) ∧ HT.length * 32 ≤ 140737488351232 ∧ YL.length * 48 ≤ 140737488351232 ∧ (∀ x ∈ HT, x.2.2.size ≤ 140737488351232) ∧ (∀ y ∈ YL, y.2.2.2.2.size ≤ 140737488351232 ∧ -9223372036854775808 ≤ y.1) := by
  obtain ⟨cs, rfl, hsz⟩ := okWide_struct Try.underlying25 hv
  obtain ⟨c0, c1, rfl⟩ : ∃ c0 c1, cs = #[c0, c1] := by
    have h1 : cs.size = 2 := hsz.trans cAsk
    obtain ⟨l⟩ := cs
    match l, h1 with
    | [c0, c1], _ => exact ⟨c0, c1, rfl⟩
  obtain ⟨fuel, hf⟩ := h
  obtain ⟨xs, m, _, hx, _, hlen, hfs⟩ := DataW.trod_struct Try.underlying25 hf
  obtain ⟨z0, z1, rfl⟩ := list2 hlen
  have g0 : DataW.trod enc Try.prog W base spare held m 22 [c0] = some z0 := by have := hfs 0 _ rfl; simpa [Value.cells, cHkL] using this
  have g1 : DataW.trod enc Try.prog W base spare held m 23 [c1] = some z1 := by have := hfs 1 _ rfl; simpa [Value.cells, cHkL, cYdL] using this
  simp only [Prod.mk.injEq] at hx
  have hd0 := hx.1
  subst hd0
  have hw : ∀ k, k ∈ DataW.weightsEach Try.prog [22, 23] ([z0, z1].map (·.1)) → k ≤ reachBytes := fun k hk => hd k (by simp only [DataW.weights, Try.underlying25]; exact hk)
  obtain ⟨tq, tc, HT, e0, b0, r0, n0⟩ := slice_row (m := 3) (by omega) hc (fun _ => rfl) (fun a : Hk => a.2.2.size ≤ 140737488351232) Try.underlying22 cHk g0 (light_in hw 0 z0 rfl rfl) op_hook
  obtain ⟨yq, ycp, YL, e1, b1, r1, n1⟩ := slice_row (m := 5) (by omega) yc (fun _ => rfl) (fun a : Yd => a.2.2.2.2.size ≤ 140737488351232 ∧ -9223372036854775808 ≤ a.1) Try.underlying23 cYd g1 (light_in hw 1 z1 rfl rfl) op_yield
  rw [bHk, reach_eq] at b0
  rw [bYd, reach_eq] at b1
  exact ⟨tq, yq, tc, ycp, HT, YL, by rw [e0, e1], r0, r1, b0, b1, n0, n1⟩
end
end Go.Proofs.Ytaeigpfcfodmdaa
