import Derived.Test.YtdmiciblfbkndaaDoorF00
import Derived.Test.YtdmiciblfbkndaaDoorRows
import Derived.OpenShut
import Derived.ShutString
import Derived.SizedLaws
import Derived.Lib.Strings
import Derived.ChangeArms
namespace Go.Proofs.YtdmiciblfbkndaaDoor
open Go.ChangeShapes Go.WideShapes Go.ChangeAt Go.RowKit

/-! A record, opened. -/
theorem weightsAll_mem {H : Type} {P : Program} {e : TypeId} {d : DataW H} : ∀ {l : List (DataW H)}, d ∈ l → ∀ m ∈ d.weights P e, m ∈ DataW.weightsAll P e l
  | x :: l, h, m, hm => by
    simp only [DataW.weightsAll, List.mem_append]
    rcases List.mem_cons.1 h with rfl | h
    · exact .inl hm
    · exact .inr (weightsAll_mem h m hm)
/-- No text and no list in it takes more than a machine has. -/
def Light {H : Type} (t : TypeId) (d : DataW H) : Prop := ∀ m ∈ d.weights Tryd.prog t, m ≤ reachBytes
theorem plain_of_cell {w : World} {a : Addr} {v : Value} (h : w.cell? a = some v) : a = ⟨a.block, a.off, none⟩ ∧ a.block < w.heap.size := by
  refine ⟨?_, World.block_lt_of_cell? w a h⟩
  obtain ⟨b, o, sp⟩ := a
  cases sp with
  | none => rfl
  | some q =>
    unfold World.cell? at h
    split at h
    · simp at h
    · cases h
/-- A slice, opened as far as it reaches: its elements' cells, each read. -/
theorem slice_at {H : Type} {enc : TypeId × Value → H} {W : World} {base : Nat} {spare : Nat → Bool} {held : Bool} {fuel : Nat} {t e : TypeId} {c : Value} {x : DataW H × List MemPlace} {m : Nat} (hm : 0 < m)
    (ht : Tryd.prog.underlying t = some (.slice e)) (hc : Tryd.prog.cellsOf e = m) (h : DataW.trod enc Tryd.prog W base spare held fuel t [c] = some x) (hw : Light t x.1) :
    ∃ (p : Option Addr) (len cap n : Nat), c = .slice p len cap ∧ len ≤ cap ∧ len * Tryd.prog.bytesOf e ≤ reachBytes ∧ ∀ i, i < len → ∃ g o cs y, p = some ⟨g, o, none⟩ ∧ g < W.heap.size ∧ cs.length = m ∧ (∀ j, j < m → W.cell? ⟨g, o + i * m + j, none⟩ = cs[j]?) ∧ DataW.trod enc Tryd.prog W base spare held n e cs = some y ∧ Light e y.1 := by
  rcases DataW.trod_slice ht h with ⟨h0, _⟩ | ⟨a, len, cap, elems, rest, n, _, h0, rfl, _, hlc, _, hlen, hel, _, _⟩
  · exact ⟨none, 0, 0, 0, by simpa using h0, Nat.le_refl _, by rw [Nat.zero_mul]; exact Nat.zero_le _, fun i hi => by omega⟩
  · have hw1 := hw ((elems.map (·.1)).length + (rest.map (·.1)).length |> (· * Tryd.prog.bytesOf e)) (by simp [DataW.weights, ht])
    have hb : len * Tryd.prog.bytesOf e ≤ reachBytes := by
      refine Nat.le_trans (Nat.mul_le_mul_right _ ?_) hw1
      rw [List.length_map, hlen]
      omega
    refine ⟨some a, len, cap, n, by simpa using h0, hlc, hb, fun i hi => ?_⟩
    have key : ∀ i, i < len → ∃ cs y, elems[i]? = some y ∧ W.cells? base (a.add (i * m)) m = some cs ∧ DataW.trod enc Tryd.prog W base spare held n e cs = some y := by
      intro i hi
      have := hel i hi
      rw [hc, List.getElem?_eq_getElem (by omega), Option.bind_eq_some_iff] at this
      obtain ⟨cs, h1, h2⟩ := this
      exact ⟨cs, _, List.getElem?_eq_getElem (by omega), h1, h2⟩
    obtain ⟨cs0, _, _, hz, _⟩ := key 0 (by omega)
    obtain ⟨_, hz1, hz2⟩ := World.cells?_some hz
    have hp := hz2 0 hm
    rw [Nat.zero_mul, show (a.add 0).add 0 = a from by simp [Addr.add], List.getElem?_eq_getElem (by omega)] at hp
    obtain ⟨ha, hg⟩ := plain_of_cell hp
    obtain ⟨cs, y, hy, h1, h2⟩ := key i hi
    obtain ⟨_, h3, h4⟩ := World.cells?_some h1
    refine ⟨a.block, a.off, cs, y, congrArg some ha, hg, h3, fun j hj => ?_, h2, fun k hk => hw k ?_⟩
    · have := h4 j hj
      rw [ha, Addr.add_mid, Addr.add_mid] at this
      exact this
    · have hmem : y.1 ∈ elems.map (·.1) := List.mem_map.2 ⟨y, List.mem_of_getElem? hy, rfl⟩
      simp only [DataW.weights, ht, List.mem_cons, List.mem_append]
      exact .inr (.inl (weightsAll_mem hmem k hk))
theorem reach_eq : reachBytes = 140737488351232 := by decide
theorem list1 {α : Type} {xs : List α} (h : xs.length = 1) : ∃ c0, xs = [c0] := by
  match xs, h with
  | [c0], _ => exact ⟨c0, rfl⟩
/-- The elements of a slice, one reading each, as one row. -/
theorem slice_row {α : Type} {H : Type} {enc : TypeId × Value → H} {W : World} {base : Nat} {spare : Nat → Bool} {held : Bool} {fuel : Nat} {t e : TypeId} {c : Value} {x : DataW H × List MemPlace} {m : Nat} (hm : 0 < m) (f : α → List Value) (hf : ∀ a, (f a).length = m) (R : α → Prop)
    (ht : Tryd.prog.underlying t = some (.slice e)) (hc : Tryd.prog.cellsOf e = m) (h : DataW.trod enc Tryd.prog W base spare held fuel t [c] = some x) (hw : Light t x.1)
    (hr : ∀ (n : Nat) (cs : List Value) (y : DataW H × List MemPlace), cs.length = m → DataW.trod enc Tryd.prog W base spare held n e cs = some y → Light e y.1 → ∃ a, cs = f a ∧ R a) :
    ∃ (p : Option Addr) (cap : Nat) (L : List α), c = .slice p L.length cap ∧ L.length ≤ cap ∧ L.length * Tryd.prog.bytesOf e ≤ reachBytes ∧ Row W W.heap.size p L.length (L.flatMap f) ∧ ∀ a ∈ L, R a := by
  obtain ⟨p, len, cap, n, hcv, hlc, hb, hst⟩ := slice_at hm ht hc h hw
  have key : ∀ i : Fin len, ∃ a : α, (∃ g o, p = some ⟨g, o, none⟩ ∧ g < W.heap.size ∧ W.rangeAt g (o + i.1 * m) (f a)) ∧ R a := fun i => by
    obtain ⟨g, o, cs, y, hp, hg, hl, hcc, hy, hyl⟩ := hst i.1 i.2
    obtain ⟨a, rfl, ha⟩ := hr n cs y hl hy hyl
    refine ⟨a, ⟨g, o, hp, hg, fun j v hv => ?_⟩, ha⟩
    have hj : j < m := by have := (List.getElem?_eq_some_iff.1 hv).1; omega
    rw [hcc j hj]
    exact hv
  obtain ⟨F, hF⟩ := Classical.axiomOfChoice key
  have hlenF : (List.ofFn F).length = len := by simp
  refine ⟨p, cap, List.ofFn F, by rw [hlenF]; exact hcv, by rw [hlenF]; exact hlc, by rw [hlenF]; exact hb, fun h0 => ?_, fun a ha => ?_⟩
  · rw [hlenF] at h0
    obtain ⟨⟨g, o, hp, hg, _⟩, _⟩ := hF ⟨0, h0⟩
    refine ⟨g, o, hp, hg, fun j v hv => ?_⟩
    have hl : ((List.ofFn F).flatMap f).length = len * m := by
      rw [List.length_flatMap]
      have : ∀ (l : List α), (l.map fun a => (f a).length).sum = l.length * m := by
        intro l
        induction l with
        | nil => simp
        | cons a l ih => rw [List.map_cons, List.sum_cons, ih, hf, List.length_cons, Nat.succ_mul]; omega
      rw [this, hlenF]
    have hj : j < len * m := by rw [← hl]; exact (List.getElem?_eq_some_iff.1 hv).1
    have hd : j / m < len := Nat.div_lt_of_lt_mul (by rw [Nat.mul_comm]; exact hj)
    have hmod : j % m < m := Nat.mod_lt _ hm
    have h2 := flat_at f m hf (List.ofFn F) (j / m) (j % m) (by rw [hlenF]; exact hd) hmod
    rw [show j / m * m + j % m = j by rw [Nat.mul_comm]; exact Nat.div_add_mod j m, hv] at h2
    obtain ⟨⟨g', o', hp', _, hcc⟩, _⟩ := hF ⟨j / m, hd⟩
    rw [hp] at hp'
    cases hp'
    have h3 := hcc (j % m) v (by rw [h2]; simp)
    rwa [Nat.add_assoc, show j / m * m + j % m = j by rw [Nat.mul_comm]; exact Nat.div_add_mod j m] at h3
  · obtain ⟨i, rfl⟩ := List.mem_ofFn.1 ha
    exact (hF i).2
theorem list2 {α : Type} {xs : List α} (h : xs.length = 2) : ∃ c0 c1, xs = [c0, c1] := by
  match xs, h with
  | [c0, c1], _ => exact ⟨c0, c1, rfl⟩
theorem list3 {α : Type} {xs : List α} (h : xs.length = 3) : ∃ c0 c1 c2, xs = [c0, c1, c2] := by
  match xs, h with
  | [c0, c1, c2], _ => exact ⟨c0, c1, c2, rfl⟩
theorem list5 {α : Type} {xs : List α} (h : xs.length = 5) : ∃ c0 c1 c2 c3 c4, xs = [c0, c1, c2, c3, c4] := by
  match xs, h with
  | [c0, c1, c2, c3, c4], _ => exact ⟨c0, c1, c2, c3, c4, rfl⟩
theorem wf_i64 {n : Int} (h : (Lit.int .i64 n).wf = true) : -9223372036854775808 ≤ n ∧ n ≤ 9223372036854775807 := by simpa [Lit.wf, IntKind.min, IntKind.max, IntKind.signed, IntKind.bits] using h

theorem list4 {α : Type} {xs : List α} (h : xs.length = 4) : ∃ c0 c1 c2 c3, xs = [c0, c1, c2, c3] := by
  match xs, h with
  | [c0, c1, c2, c3], _ => exact ⟨c0, c1, c2, c3, rfl⟩
theorem list6 {α : Type} {xs : List α} (h : xs.length = 6) : ∃ c0 c1 c2 c3 c4 c5, xs = [c0, c1, c2, c3, c4, c5] := by
  match xs, h with
  | [c0, c1, c2, c3, c4, c5], _ => exact ⟨c0, c1, c2, c3, c4, c5, rfl⟩
theorem cRec : Tryd.prog.cellsOf 28 = 5 := by kernel_rfl
theorem cOut : Tryd.prog.cellsOf 25 = 2 := by kernel_rfl
theorem cPh : Tryd.prog.cellsOf 22 = 1 := by kernel_rfl
theorem cTp : Tryd.prog.cellsOf 23 = 1 := by kernel_rfl
theorem cEvL : Tryd.prog.cellsOf 26 = 1 := by kernel_rfl
theorem cEv : Tryd.prog.cellsOf 37 = 6 := by kernel_rfl
theorem cVl : Tryd.prog.cellsOf 35 = 3 := by kernel_rfl
theorem cEk : Tryd.prog.cellsOf 32 = 1 := by kernel_rfl
theorem cVk : Tryd.prog.cellsOf 33 = 1 := by kernel_rfl
theorem cI6 : Tryd.prog.cellsOf 2 = 1 := by kernel_rfl
theorem cIn : Tryd.prog.cellsOf 3 = 1 := by kernel_rfl
theorem cSt : Tryd.prog.cellsOf 9 = 1 := by kernel_rfl
theorem bEv : Tryd.prog.bytesOf 37 = 64 := by kernel_rfl
theorem op_str {H : Type} {enc : TypeId × Value → H} {W : World} {base : Nat} {spare : Nat → Bool} {held : Bool} (n : Nat) (cs : List Value) (y : DataW H × List MemPlace) (hl : cs.length = 1) (h : DataW.trod enc Tryd.prog W base spare held n 9 cs = some y) (hy : Light 9 y.1) : ∃ a : ByteArray, cs = [.string a] ∧ a.size ≤ 140737488351232 := by
  obtain ⟨c0, rfl⟩ := list1 hl
  obtain ⟨a, e, rfl, -⟩ := DataW.trod_string Tryd.underlying9 h
  simp at e
  refine ⟨a, by rw [e], ?_⟩
  have := hy a.size (by simp only [DataW.weights]; exact List.mem_singleton.2 (Array.length_toList (xs := a.data)).symm)
  rwa [reach_eq] at this
section
variable {H : Type} {enc : TypeId × Value → H} {W : World} {base : Nat} {spare : Nat → Bool} {held : Bool}
theorem light_in {t : TypeId} {fs : List TypeId} {xs : List (DataW H × List MemPlace)} (h : ∀ m, m ∈ DataW.weightsEach Tryd.prog fs (xs.map (·.1)) → m ≤ reachBytes) (j : Nat) (y : DataW H × List MemPlace) (h1 : fs[j]? = some t) (h2 : xs[j]? = some y) : Light t y.1 := fun k hk => h k (DataW.weights_mem_each (P := Tryd.prog) (ts := fs) (ds := xs.map (·.1)) (j := j) h1 (by rw [List.getElem?_map, h2]; rfl) k hk)
theorem op_ev (n : Nat) (cs : List Value) (y : DataW H × List MemPlace) (hl : cs.length = 6) (h : DataW.trod enc Tryd.prog W base spare held n 37 cs = some y) (hy : Light 37 y.1) : ∃ a : Ev, cs = ec a ∧ EvRd a := by
  obtain ⟨c0, c1, c2, c3, c4, c5, rfl⟩ := list6 hl
  obtain ⟨xs, m, _, hx, _, hlen, hfs⟩ := DataW.trod_struct Tryd.underlying37 h
  obtain ⟨z0, z1, z2, z3, rfl⟩ := list4 hlen
  have g0 : DataW.trod enc Tryd.prog W base spare held m 32 [c0] = some z0 := by have := hfs 0 _ rfl; simpa [cEk] using this
  have g1 : DataW.trod enc Tryd.prog W base spare held m 3 [c1] = some z1 := by have := hfs 1 _ rfl; simpa [cEk, cIn] using this
  have g2 : DataW.trod enc Tryd.prog W base spare held m 9 [c2] = some z2 := by have := hfs 2 _ rfl; simpa [cEk, cIn, cSt] using this
  have g3 : DataW.trod enc Tryd.prog W base spare held m 35 [c3, c4, c5] = some z3 := by have := hfs 3 _ rfl; simpa [cEk, cIn, cSt, cVl] using this
  subst hx
  have hw : ∀ k, k ∈ DataW.weightsEach Tryd.prog [32, 3, 9, 35] ([z0, z1, z2, z3].map (·.1)) → k ≤ reachBytes := fun k hk => hy k (by simp only [DataW.weights, Tryd.underlying37]; exact hk)
  have l3 : Light 35 z3.1 := light_in hw 3 z3 rfl rfl
  obtain ⟨a0, e0, -, -⟩ := DataW.trod_int Tryd.underlying32 g0
  obtain ⟨a1, e1, -, -⟩ := DataW.trod_int Tryd.underlying3 g1
  obtain ⟨s, e2, hs⟩ := op_str m [c2] z2 rfl g2 (light_in hw 2 z2 rfl rfl)
  obtain ⟨xs, m2, _, hx, _, hlen, hgs⟩ := DataW.trod_struct Tryd.underlying35 g3
  obtain ⟨y0, y1, y2, rfl⟩ := list3 hlen
  have k0 : DataW.trod enc Tryd.prog W base spare held m2 33 [c3] = some y0 := by have := hgs 0 _ rfl; simpa [cVk] using this
  have k1 : DataW.trod enc Tryd.prog W base spare held m2 2 [c4] = some y1 := by have := hgs 1 _ rfl; simpa [cVk, cI6] using this
  have k2 : DataW.trod enc Tryd.prog W base spare held m2 9 [c5] = some y2 := by have := hgs 2 _ rfl; simpa [cVk, cI6, cSt] using this
  subst hx
  obtain ⟨a3, e3, -, -⟩ := DataW.trod_int Tryd.underlying33 k0
  obtain ⟨a4, e4, -, w4⟩ := DataW.trod_int Tryd.underlying2 k1
  obtain ⟨t, e5, ht⟩ := op_str m2 [c5] y2 rfl k2 (light_in (fs := [33, 2, 9]) (xs := [y0, y1, y2]) (fun k hk => l3 k (by simp only [DataW.weights, Tryd.underlying35]; exact hk)) 2 y2 rfl rfl)
  simp at e0 e1 e2 e3 e4 e5
  refine ⟨⟨a0, a1, s.data.toList, a3, a4, t.data.toList⟩, ?_, ⟨?_, ?_⟩, wf_i64 w4⟩
  · unfold ec
    rw [e0, e1, e2, e3, e4, e5, sV_at (x := s) rfl, sV_at (x := t) rfl]
  · show s.data.toList.length ≤ _
    rw [← Lib.size_eq]
    omega
  · show t.data.toList.length ≤ _
    rw [← Lib.size_eq]
    omega
set_option maxRecDepth 100000 in
theorem open_rec {b0 : Nat} {r : Reach} {v : Value} {d : DataW H} {p : List MemPlace} (hv : Value.okWide Tryd.prog W r b0 28 v) (h : DataW.Trod enc Tryd.prog W base spare held 28 v d p) (hd : Light 28 d) :
    ∃ (ph tr : Int) (out : ByteArray) (inp : Int) (q : Option Addr) (cap : Nat) (L : List Ev), v = .agg (recC ph tr out inp q L.length cap) ∧ RcIn W q cap L ∧ L.length * 64 ≤ 140737488351232 ∧ out.size ≤ 140737488351232 := by
  obtain ⟨cs, rfl, hsz⟩ := okWide_struct Tryd.underlying28 hv
  obtain ⟨c0, c1, c2, c3, c4, rfl⟩ : ∃ c0 c1 c2 c3 c4, cs = #[c0, c1, c2, c3, c4] := by
    have h1 : cs.size = 5 := hsz.trans cRec
    obtain ⟨l⟩ := cs
    match l, h1 with
    | [c0, c1, c2, c3, c4], _ => exact ⟨c0, c1, c2, c3, c4, rfl⟩
  obtain ⟨fuel, hf⟩ := h
  obtain ⟨xs, m, _, hx, _, hlen, hfs⟩ := DataW.trod_struct Tryd.underlying28 hf
  obtain ⟨z0, z1, z2, z3, rfl⟩ := list4 hlen
  have g0 : DataW.trod enc Tryd.prog W base spare held m 25 [c0, c1] = some z0 := by have := hfs 0 _ rfl; simpa [Value.cells, cOut] using this
  have g1 : DataW.trod enc Tryd.prog W base spare held m 9 [c2] = some z1 := by have := hfs 1 _ rfl; simpa [Value.cells, cOut, cSt] using this
  have g2 : DataW.trod enc Tryd.prog W base spare held m 3 [c3] = some z2 := by have := hfs 2 _ rfl; simpa [Value.cells, cOut, cSt, cIn] using this
  have g3 : DataW.trod enc Tryd.prog W base spare held m 26 [c4] = some z3 := by have := hfs 3 _ rfl; simpa [Value.cells, cOut, cSt, cIn, cEvL] using this
  simp only [Prod.mk.injEq] at hx
  have hd0 := hx.1
  subst hd0
  have hw : ∀ k, k ∈ DataW.weightsEach Tryd.prog [25, 9, 3, 26] ([z0, z1, z2, z3].map (·.1)) → k ≤ reachBytes := fun k hk => hd k (by simp only [DataW.weights, Tryd.underlying28]; exact hk)
  obtain ⟨xs, m2, _, hx, _, hlen, hgs⟩ := DataW.trod_struct Tryd.underlying25 g0
  obtain ⟨y0, y1, rfl⟩ := list2 hlen
  have k0 : DataW.trod enc Tryd.prog W base spare held m2 22 [c0] = some y0 := by have := hgs 0 _ rfl; simpa [cPh] using this
  have k1 : DataW.trod enc Tryd.prog W base spare held m2 23 [c1] = some y1 := by have := hgs 1 _ rfl; simpa [cPh, cTp] using this
  obtain ⟨ph, e0, -, -⟩ := DataW.trod_int Tryd.underlying22 k0
  obtain ⟨tr, e1, -, -⟩ := DataW.trod_int Tryd.underlying23 k1
  obtain ⟨out, e2, ho⟩ := op_str m [c2] z1 rfl g1 (light_in hw 1 z1 rfl rfl)
  obtain ⟨inp, e3, -, -⟩ := DataW.trod_int Tryd.underlying3 g2
  obtain ⟨q, cap, L, e4, hc, b0, r0, n0⟩ := slice_row (m := 6) (by omega) ec ec_len EvRd Tryd.underlying26 cEv g3 (light_in hw 3 z3 rfl rfl) op_ev
  rw [bEv, reach_eq] at b0
  simp at e0 e1 e2 e3
  exact ⟨ph, tr, out, inp, q, cap, L, by rw [e0, e1, e2, e3, e4], ⟨r0, hc, fun e he => (n0 e he).1, fun e he => (n0 e he).2, by omega⟩, b0, ho⟩
end
end Go.Proofs.YtdmiciblfbkndaaDoor
