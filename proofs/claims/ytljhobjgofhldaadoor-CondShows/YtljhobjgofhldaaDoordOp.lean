import Derived.Test.YtljhobjgofhldaaDoordLaw
import Derived.Test.YtljhobjgofhldaaDoorRows
import Derived.OpenShut
import Derived.ShutString
import Derived.SizedLaws
import Derived.Lib.Strings
import Derived.ChangeArms
namespace Go.Proofs.YtljhobjgofhldaaDoor
open Go.ChangeShapes Go.WideShapes Go.ChangeAt Go.RowKit

/-! CondShows' argument, opened. -/
def Row (w : World) (B : Nat) (q : Option Addr) (n : Nat) (xs : List Value) : Prop := 0 < n → ∃ g o, q = some ⟨g, o, none⟩ ∧ g < B ∧ w.rangeAt g o xs
theorem own : ownKnob Tryd.prog.godebug = none := by kernel_rfl
theorem laidOut : laidOutB Tryd.prog = true := by kernel_rfl
theorem weightsAll_mem {H : Type} {P : Program} {e : TypeId} {d : DataW H} : ∀ {l : List (DataW H)}, d ∈ l → ∀ m ∈ d.weights P e, m ∈ DataW.weightsAll P e l
  | x :: l, h, m, hm => by
    simp only [DataW.weightsAll, List.mem_append]
    rcases List.mem_cons.1 h with rfl | h
    · exact .inl hm
    · exact .inr (weightsAll_mem h m hm)
/-- No text and no list in it takes more than a machine has. -/
def Light {H : Type} (t : TypeId) (d : DataW H) : Prop := ∀ m ∈ d.weights Tryd.prog t, m ≤ reachBytes
theorem plain_of_cell {w : World} {a : Addr} {v : Value} (h : w.cell? a = some v) : a = ⟨a.block, a.off, none⟩ ∧ a.block < w.heap.size := by
  refine ⟨?_, World.block_lt_of_cell? w a h⟩
  obtain ⟨b, o, sp⟩ := a
  cases sp with
  | none => rfl
  | some q =>
    unfold World.cell? at h
    split at h
    · simp at h
    · cases h
/-- A slice, opened as far as it reaches: its elements' cells, each read. -/
theorem slice_at {H : Type} {enc : TypeId × Value → H} {W : World} {base : Nat} {spare : Nat → Bool} {held : Bool} {fuel : Nat} {t e : TypeId} {c : Value} {x : DataW H × List MemPlace} {m : Nat} (hm : 0 < m)
    (ht : Tryd.prog.underlying t = some (.slice e)) (hc : Tryd.prog.cellsOf e = m) (h : DataW.trod enc Tryd.prog W base spare held fuel t [c] = some x) (hw : Light t x.1) :
    ∃ (p : Option Addr) (len cap n : Nat), c = .slice p len cap ∧ len ≤ cap ∧ len * Tryd.prog.bytesOf e ≤ reachBytes ∧ ∀ i, i < len → ∃ g o cs y, p = some ⟨g, o, none⟩ ∧ g < W.heap.size ∧ cs.length = m ∧ (∀ j, j < m → W.cell? ⟨g, o + i * m + j, none⟩ = cs[j]?) ∧ DataW.trod enc Tryd.prog W base spare held n e cs = some y ∧ Light e y.1 := by
  rcases DataW.trod_slice ht h with ⟨h0, _⟩ | ⟨a, len, cap, elems, rest, n, _, h0, rfl, _, hlc, _, hlen, hel, _, _⟩
  · exact ⟨none, 0, 0, 0, by simpa using h0, Nat.le_refl _, by rw [Nat.zero_mul]; exact Nat.zero_le _, fun i hi => by omega⟩
  · have hw1 := hw ((elems.map (·.1)).length + (rest.map (·.1)).length |> (· * Tryd.prog.bytesOf e)) (by simp [DataW.weights, ht])
    have hb : len * Tryd.prog.bytesOf e ≤ reachBytes := by
      refine Nat.le_trans (Nat.mul_le_mul_right _ ?_) hw1
      rw [List.length_map, hlen]
      omega
    refine ⟨some a, len, cap, n, by simpa using h0, hlc, hb, fun i hi => ?_⟩
    have key : ∀ i, i < len → ∃ cs y, elems[i]? = some y ∧ W.cells? base (a.add (i * m)) m = some cs ∧ DataW.trod enc Tryd.prog W base spare held n e cs = some y := by
      intro i hi
      have := hel i hi
      rw [hc, List.getElem?_eq_getElem (by omega), Option.bind_eq_some_iff] at this
      obtain ⟨cs, h1, h2⟩ := this
      exact ⟨cs, _, List.getElem?_eq_getElem (by omega), h1, h2⟩
    obtain ⟨cs0, _, _, hz, _⟩ := key 0 (by omega)
    obtain ⟨_, hz1, hz2⟩ := World.cells?_some hz
    have hp := hz2 0 hm
    rw [Nat.zero_mul, show (a.add 0).add 0 = a from by simp [Addr.add], List.getElem?_eq_getElem (by omega)] at hp
    obtain ⟨ha, hg⟩ := plain_of_cell hp
    obtain ⟨cs, y, hy, h1, h2⟩ := key i hi
    obtain ⟨_, h3, h4⟩ := World.cells?_some h1
    refine ⟨a.block, a.off, cs, y, congrArg some ha, hg, h3, fun j hj => ?_, h2, fun k hk => hw k ?_⟩
    · have := h4 j hj
      rw [ha, Addr.add_mid, Addr.add_mid] at this
      exact this
    · have hmem : y.1 ∈ elems.map (·.1) := List.mem_map.2 ⟨y, List.mem_of_getElem? hy, rfl⟩
      simp only [DataW.weights, ht, List.mem_cons, List.mem_append]
      exact .inr (.inl (weightsAll_mem hmem k hk))
theorem reach_eq : reachBytes = 140737488351232 := by decide
theorem list1 {α : Type} {xs : List α} (h : xs.length = 1) : ∃ c0, xs = [c0] := by
  match xs, h with
  | [c0], _ => exact ⟨c0, rfl⟩
/-- The elements of a slice, one reading each, as one row. -/
theorem slice_row {α : Type} {H : Type} {enc : TypeId × Value → H} {W : World} {base : Nat} {spare : Nat → Bool} {held : Bool} {fuel : Nat} {t e : TypeId} {c : Value} {x : DataW H × List MemPlace} {m : Nat} (hm : 0 < m) (f : α → List Value) (hf : ∀ a, (f a).length = m) (R : α → Prop)
    (ht : Tryd.prog.underlying t = some (.slice e)) (hc : Tryd.prog.cellsOf e = m) (h : DataW.trod enc Tryd.prog W base spare held fuel t [c] = some x) (hw : Light t x.1)
    (hr : ∀ (n : Nat) (cs : List Value) (y : DataW H × List MemPlace), cs.length = m → DataW.trod enc Tryd.prog W base spare held n e cs = some y → Light e y.1 → ∃ a, cs = f a ∧ R a) :
    ∃ (p : Option Addr) (cap : Nat) (L : List α), c = .slice p L.length cap ∧ L.length ≤ cap ∧ L.length * Tryd.prog.bytesOf e ≤ reachBytes ∧ Row W W.heap.size p L.length (L.flatMap f) ∧ ∀ a ∈ L, R a := by
  obtain ⟨p, len, cap, n, hcv, hlc, hb, hst⟩ := slice_at hm ht hc h hw
  have key : ∀ i : Fin len, ∃ a : α, (∃ g o, p = some ⟨g, o, none⟩ ∧ g < W.heap.size ∧ W.rangeAt g (o + i.1 * m) (f a)) ∧ R a := fun i => by
    obtain ⟨g, o, cs, y, hp, hg, hl, hcc, hy, hyl⟩ := hst i.1 i.2
    obtain ⟨a, rfl, ha⟩ := hr n cs y hl hy hyl
    refine ⟨a, ⟨g, o, hp, hg, fun j v hv => ?_⟩, ha⟩
    have hj : j < m := by have := (List.getElem?_eq_some_iff.1 hv).1; omega
    rw [hcc j hj]
    exact hv
  obtain ⟨F, hF⟩ := Classical.axiomOfChoice key
  have hlenF : (List.ofFn F).length = len := by simp
  refine ⟨p, cap, List.ofFn F, by rw [hlenF]; exact hcv, by rw [hlenF]; exact hlc, by rw [hlenF]; exact hb, fun h0 => ?_, fun a ha => ?_⟩
  · rw [hlenF] at h0
    obtain ⟨⟨g, o, hp, hg, _⟩, _⟩ := hF ⟨0, h0⟩
    refine ⟨g, o, hp, hg, fun j v hv => ?_⟩
    have hl : ((List.ofFn F).flatMap f).length = len * m := by
      rw [List.length_flatMap]
      have : ∀ (l : List α), (l.map fun a => (f a).length).sum = l.length * m := by
        intro l
        induction l with
        | nil => simp
        | cons a l ih => rw [List.map_cons, List.sum_cons, ih, hf, List.length_cons, Nat.succ_mul]; omega
      rw [this, hlenF]
    have hj : j < len * m := by rw [← hl]; exact (List.getElem?_eq_some_iff.1 hv).1
    have hd : j / m < len := Nat.div_lt_of_lt_mul (by rw [Nat.mul_comm]; exact hj)
    have hmod : j % m < m := Nat.mod_lt _ hm
    have h2 := flat_at f m hf (List.ofFn F) (j / m) (j % m) (by rw [hlenF]; exact hd) hmod
    rw [show j / m * m + j % m = j by rw [Nat.mul_comm]; exact Nat.div_add_mod j m, hv] at h2
    obtain ⟨⟨g', o', hp', _, hcc⟩, _⟩ := hF ⟨j / m, hd⟩
    rw [hp] at hp'
    cases hp'
    have h3 := hcc (j % m) v (by rw [h2]; simp)
    rwa [Nat.add_assoc, show j / m * m + j % m = j by rw [Nat.mul_comm]; exact Nat.div_add_mod j m] at h3
  · obtain ⟨i, rfl⟩ := List.mem_ofFn.1 ha
    exact (hF i).2
theorem list2 {α : Type} {xs : List α} (h : xs.length = 2) : ∃ c0 c1, xs = [c0, c1] := by
  match xs, h with
  | [c0, c1], _ => exact ⟨c0, c1, rfl⟩
theorem list3 {α : Type} {xs : List α} (h : xs.length = 3) : ∃ c0 c1 c2, xs = [c0, c1, c2] := by
  match xs, h with
  | [c0, c1, c2], _ => exact ⟨c0, c1, c2, rfl⟩
theorem list5 {α : Type} {xs : List α} (h : xs.length = 5) : ∃ c0 c1 c2 c3 c4, xs = [c0, c1, c2, c3, c4] := by
  match xs, h with
  | [c0, c1, c2, c3, c4], _ => exact ⟨c0, c1, c2, c3, c4, rfl⟩
theorem wf_i64 {n : Int} (h : (Lit.int .i64 n).wf = true) : -9223372036854775808 ≤ n ∧ n ≤ 9223372036854775807 := by simpa [Lit.wf, IntKind.min, IntKind.max, IntKind.signed, IntKind.bits] using h
theorem list4 {α : Type} {xs : List α} (h : xs.length = 4) : ∃ c0 c1 c2 c3, xs = [c0, c1, c2, c3] := by
  match xs, h with
  | [c0, c1, c2, c3], _ => exact ⟨c0, c1, c2, c3, rfl⟩
theorem list7 {α : Type} {xs : List α} (h : xs.length = 7) : ∃ c0 c1 c2 c3 c4 c5 c6, xs = [c0, c1, c2, c3, c4, c5, c6] := by
  match xs, h with
  | [c0, c1, c2, c3, c4, c5, c6], _ => exact ⟨c0, c1, c2, c3, c4, c5, c6, rfl⟩
theorem cAsk : Tryd.prog.cellsOf 28 = 7 := by kernel_rfl
theorem cShL : Tryd.prog.cellsOf 22 = 1 := by kernel_rfl
theorem cVlLL : Tryd.prog.cellsOf 23 = 1 := by kernel_rfl
theorem cVlL : Tryd.prog.cellsOf 35 = 1 := by kernel_rfl
theorem cSh : Tryd.prog.cellsOf 48 = 7 := by kernel_rfl
theorem cVr : Tryd.prog.cellsOf 46 = 4 := by kernel_rfl
theorem cVl : Tryd.prog.cellsOf 26 = 3 := by kernel_rfl
theorem cVk : Tryd.prog.cellsOf 24 = 1 := by kernel_rfl
theorem cI6 : Tryd.prog.cellsOf 2 = 1 := by kernel_rfl
theorem cIn : Tryd.prog.cellsOf 3 = 1 := by kernel_rfl
theorem cSt : Tryd.prog.cellsOf 9 = 1 := by kernel_rfl
theorem bSh : Tryd.prog.bytesOf 48 = 80 := by kernel_rfl
theorem bVlL : Tryd.prog.bytesOf 35 = 24 := by kernel_rfl
theorem bVl : Tryd.prog.bytesOf 26 = 32 := by kernel_rfl
theorem op_str {H : Type} {enc : TypeId × Value → H} {W : World} {base : Nat} {spare : Nat → Bool} {held : Bool} (n : Nat) (cs : List Value) (y : DataW H × List MemPlace) (hl : cs.length = 1) (h : DataW.trod enc Tryd.prog W base spare held n 9 cs = some y) (hy : Light 9 y.1) : ∃ a : ByteArray, cs = [.string a] ∧ a.size ≤ 140737488351232 := by
  obtain ⟨c0, rfl⟩ := list1 hl
  obtain ⟨a, e, rfl, -⟩ := DataW.trod_string Tryd.underlying9 h
  simp at e
  refine ⟨a, by rw [e], ?_⟩
  have := hy a.size (by simp only [DataW.weights]; exact List.mem_singleton.2 (Array.length_toList (xs := a.data)).symm)
  rwa [reach_eq] at this
section
variable {H : Type} {enc : TypeId × Value → H} {W : World} {base : Nat} {spare : Nat → Bool} {held : Bool}
theorem light_in {t : TypeId} {fs : List TypeId} {xs : List (DataW H × List MemPlace)} (h : ∀ m, m ∈ DataW.weightsEach Tryd.prog fs (xs.map (·.1)) → m ≤ reachBytes) (j : Nat) (y : DataW H × List MemPlace) (h1 : fs[j]? = some t) (h2 : xs[j]? = some y) : Light t y.1 := fun k hk => h k (DataW.weights_mem_each (P := Tryd.prog) (ts := fs) (ds := xs.map (·.1)) (j := j) h1 (by rw [List.getElem?_map, h2]; rfl) k hk)
theorem op_value (n : Nat) (cs : List Value) (y : DataW H × List MemPlace) (hl : cs.length = 3) (h : DataW.trod enc Tryd.prog W base spare held n 26 cs = some y) (hy : Light 26 y.1) : ∃ a : V, cs = vc a ∧ vIn a := by
  obtain ⟨c0, c1, c2, rfl⟩ := list3 hl
  obtain ⟨xs, m, _, hx, _, hlen, hfs⟩ := DataW.trod_struct Tryd.underlying26 h
  obtain ⟨z0, z1, z2, rfl⟩ := list3 hlen
  have g0 : DataW.trod enc Tryd.prog W base spare held m 24 [c0] = some z0 := by have := hfs 0 _ rfl; simpa [cVk] using this
  have g1 : DataW.trod enc Tryd.prog W base spare held m 2 [c1] = some z1 := by have := hfs 1 _ rfl; simpa [cVk, cI6] using this
  have g2 : DataW.trod enc Tryd.prog W base spare held m 9 [c2] = some z2 := by have := hfs 2 _ rfl; simpa [cVk, cI6, cSt] using this
  subst hx
  obtain ⟨a0, e0, -, -⟩ := DataW.trod_int Tryd.underlying24 g0
  obtain ⟨a1, e1, -, w1⟩ := DataW.trod_int Tryd.underlying2 g1
  obtain ⟨s, e2, hs⟩ := op_str m [c2] z2 rfl g2 (light_in (fs := [24, 2, 9]) (xs := [z0, z1, z2]) (fun k hk => hy k (by simp only [DataW.weights, Tryd.underlying26]; exact hk)) 2 z2 rfl rfl)
  simp at e0 e1 e2
  exact ⟨(a0, a1, s), by rw [e0, e1, e2]; rfl, wf_i64 w1, by show s.size ≤ _; omega⟩
/-- A list that was handed in: its place, its room, what it holds. -/
abbrev Al := Option Addr × Nat × List V
def al (a : Al) : List Value := [.slice a.1 a.2.2.length a.2.1]
theorem op_list (n : Nat) (cs : List Value) (y : DataW H × List MemPlace) (hl : cs.length = 1) (h : DataW.trod enc Tryd.prog W base spare held n 35 cs = some y) (hy : Light 35 y.1) : ∃ a : Al, cs = al a ∧ (a.2.2.length ≤ a.2.1 ∧ a.2.2.length * 32 ≤ 140737488351232 ∧ Row W W.heap.size a.1 a.2.2.length (a.2.2.flatMap vc) ∧ ∀ v ∈ a.2.2, vIn v) := by
  obtain ⟨c0, rfl⟩ := list1 hl
  obtain ⟨p, cap, L, e, hc, hb, hr, hv⟩ := slice_row (m := 3) (by omega) vc (fun _ => rfl) vIn Tryd.underlying35 cVl h hy op_value
  rw [bVl, reach_eq] at hb
  exact ⟨(p, cap, L), by rw [e]; rfl, hc, hb, hr, hv⟩
theorem op_shown (n : Nat) (cs : List Value) (y : DataW H × List MemPlace) (hl : cs.length = 7) (h : DataW.trod enc Tryd.prog W base spare held n 48 cs = some y) (hy : Light 48 y.1) : ∃ a : Sw, cs = sc a ∧ True := by
  obtain ⟨c0, c1, c2, c3, c4, c5, c6, rfl⟩ := list7 hl
  obtain ⟨xs, m, _, hx, _, hlen, hfs⟩ := DataW.trod_struct Tryd.underlying48 h
  obtain ⟨z0, z1, rfl⟩ := list2 hlen
  have g0 : DataW.trod enc Tryd.prog W base spare held m 46 [c0, c1, c2, c3] = some z0 := by have := hfs 0 _ rfl; simpa [cVr] using this
  have g1 : DataW.trod enc Tryd.prog W base spare held m 26 [c4, c5, c6] = some z1 := by have := hfs 1 _ rfl; simpa [cVr, cVl] using this
  subst hx
  have lw : ∀ k, k ∈ DataW.weightsEach Tryd.prog [46, 26] ([z0, z1].map (·.1)) → k ≤ reachBytes := fun k hk => hy k (by simp only [DataW.weights, Tryd.underlying48]; exact hk)
  obtain ⟨v, ev, -⟩ := op_value m [c4, c5, c6] z1 rfl g1 (light_in lw 1 z1 rfl rfl)
  have l0 : Light 46 z0.1 := light_in lw 0 z0 rfl rfl
  obtain ⟨xs, m2, _, hx, _, hlen, hgs⟩ := DataW.trod_struct Tryd.underlying46 g0
  obtain ⟨y0, y1, y2, y3, rfl⟩ := list4 hlen
  have k0 : DataW.trod enc Tryd.prog W base spare held m2 9 [c0] = some y0 := by have := hgs 0 _ rfl; simpa [cSt] using this
  have k1 : DataW.trod enc Tryd.prog W base spare held m2 9 [c1] = some y1 := by have := hgs 1 _ rfl; simpa [cSt] using this
  have k2 : DataW.trod enc Tryd.prog W base spare held m2 3 [c2] = some y2 := by have := hgs 2 _ rfl; simpa [cSt, cIn] using this
  have k3 : DataW.trod enc Tryd.prog W base spare held m2 3 [c3] = some y3 := by have := hgs 3 _ rfl; simpa [cSt, cIn] using this
  obtain ⟨s0, e0, -, -⟩ := DataW.trod_string Tryd.underlying9 k0
  obtain ⟨s1, e1, -, -⟩ := DataW.trod_string Tryd.underlying9 k1
  obtain ⟨a2, e2, -, -⟩ := DataW.trod_int Tryd.underlying3 k2
  obtain ⟨a3, e3, -, -⟩ := DataW.trod_int Tryd.underlying3 k3
  simp [vc] at e0 e1 e2 e3 ev
  exact ⟨(s0, s1, a2, a3, v.1, v.2.1, v.2.2), by rw [e0, e1, e2, e3, ev.1, ev.2.1, ev.2.2]; rfl, trivial⟩
theorem shAt_of {q : Option Addr} {L : List Sw} (h : Row W W.heap.size q L.length (L.flatMap sc)) : ShAt W W.heap.size q L := fun j hj => by
  obtain ⟨g, o, hq, hg, hr⟩ := h (by omega)
  have k : ∀ t v, t < 7 → (sc L[j])[t]? = some v → W.cell? ⟨g, o + j * 7 + t, none⟩ = some v := fun t v ht hv => by
    have := hr (j * 7 + t) v ((flat_at sc 7 (fun _ => rfl) L j t hj ht).trans hv)
    rwa [← Nat.add_assoc] at this
  exact ⟨g, o, hq, hg, k 0 _ (by omega) rfl, k 1 _ (by omega) rfl, k 2 _ (by omega) rfl, k 3 _ (by omega) rfl, k 4 _ (by omega) rfl, k 5 _ (by omega) rfl, k 6 _ (by omega) rfl⟩
theorem arrAt_of {q : Option Addr} {As : List Al} (h : Row W W.heap.size q As.length (As.flatMap al)) (hr : ∀ a ∈ As, a.2.2.length ≤ a.2.1 ∧ a.2.2.length * 32 ≤ 140737488351232 ∧ Row W W.heap.size a.1 a.2.2.length (a.2.2.flatMap vc) ∧ ∀ v ∈ a.2.2, vIn v) : ArrAt W W.heap.size q (As.map (·.2.2)) := fun n hn => by
  rw [List.length_map] at hn
  obtain ⟨g, o, hq, hg, hc⟩ := h (by omega)
  obtain ⟨h1, -, h3, h4⟩ := hr As[n] (List.getElem_mem hn)
  have e : (As.map (·.2.2))[n]'(by rw [List.length_map]; exact hn) = As[n].2.2 := List.getElem_map ..
  rw [e]
  refine ⟨g, o, As[n].1, As[n].2.1, hq, hg, ?_, h1, fun j hj => ?_⟩
  · have := flat_at al 1 (fun _ => rfl) As n 0 hn (by omega)
    rw [Nat.mul_one, Nat.add_zero] at this
    exact hc n _ (this.trans rfl)
  · obtain ⟨b, r, hp, hb, hx⟩ := h3 (by omega)
    have k : ∀ t v, t < 3 → (vc As[n].2.2[j])[t]? = some v → W.cell? ⟨b, r + 3 * j + t, none⟩ = some v := fun t v ht hv => by
      have := hx (j * 3 + t) v ((flat_at vc 3 (fun _ => rfl) As[n].2.2 j t hj ht).trans hv)
      rwa [← Nat.add_assoc, Nat.mul_comm j 3] at this
    exact ⟨b, r, hp, hb, h4 _ (List.getElem_mem hj), k 0 _ (by omega) rfl, k 1 _ (by omega) rfl, k 2 _ (by omega) rfl⟩
set_option maxRecDepth 100000 in
theorem open_ask {b0 : Nat} {r : Reach} {v : Value} {d : DataW H} {p : List MemPlace} (hv : Value.okWide Tryd.prog W r b0 28 v) (h : DataW.Trod enc Tryd.prog W base spare held 28 v d p) (hd : Light 28 d) :
    ∃ (tx s : ByteArray) (vq aq : Option Addr) (vcp acp : Nat) (k n dp : Int) (Vs : List Sw) (Ls : List (List V)), v = .agg #[.string tx, .slice vq Vs.length vcp, .slice aq Ls.length acp, .int .i64 k, .int .i64 n, .string s, .int .i64 dp] ∧ ShAt W W.heap.size vq Vs ∧ ArrAt W W.heap.size aq Ls ∧ vIn (k, n, s) ∧ Vs.length * 80 ≤ 140737488351232 ∧ Ls.length * 24 ≤ 140737488351232 ∧ ∀ L ∈ Ls, L.length * 32 ≤ 140737488351232 := by
  obtain ⟨cs, rfl, hsz⟩ := okWide_struct Tryd.underlying28 hv
  obtain ⟨c0, c1, c2, c3, c4, c5, c6, rfl⟩ : ∃ c0 c1 c2 c3 c4 c5 c6, cs = #[c0, c1, c2, c3, c4, c5, c6] := by
    have h1 : cs.size = 7 := hsz.trans cAsk
    obtain ⟨l⟩ := cs
    match l, h1 with
    | [c0, c1, c2, c3, c4, c5, c6], _ => exact ⟨c0, c1, c2, c3, c4, c5, c6, rfl⟩
  obtain ⟨fuel, hf⟩ := h
  obtain ⟨xs, m, _, hx, _, hlen, hfs⟩ := DataW.trod_struct Tryd.underlying28 hf
  obtain ⟨z0, z1, z2, z3, z4, rfl⟩ := list5 hlen
  have g0 : DataW.trod enc Tryd.prog W base spare held m 9 [c0] = some z0 := by have := hfs 0 _ rfl; simpa [Value.cells, cSt] using this
  have g1 : DataW.trod enc Tryd.prog W base spare held m 22 [c1] = some z1 := by have := hfs 1 _ rfl; simpa [Value.cells, cSt, cShL] using this
  have g2 : DataW.trod enc Tryd.prog W base spare held m 23 [c2] = some z2 := by have := hfs 2 _ rfl; simpa [Value.cells, cSt, cShL, cVlLL] using this
  have g3 : DataW.trod enc Tryd.prog W base spare held m 26 [c3, c4, c5] = some z3 := by have := hfs 3 _ rfl; simpa [Value.cells, cSt, cShL, cVlLL, cVl] using this
  have g4 : DataW.trod enc Tryd.prog W base spare held m 3 [c6] = some z4 := by have := hfs 4 _ rfl; simpa [Value.cells, cSt, cShL, cVlLL, cVl, cIn] using this
  simp only [Prod.mk.injEq] at hx
  have hd0 := hx.1
  subst hd0
  have hw : ∀ k, k ∈ DataW.weightsEach Tryd.prog [9, 22, 23, 26, 3] ([z0, z1, z2, z3, z4].map (·.1)) → k ≤ reachBytes := fun k hk => hd k (by simp only [DataW.weights, Tryd.underlying28]; exact hk)
  obtain ⟨tx, e0, -, -⟩ := DataW.trod_string Tryd.underlying9 g0
  obtain ⟨vq, vcp, Vs, e1, -, b1, r1, -⟩ := slice_row (m := 7) (by omega) sc (fun _ => rfl) (fun _ => True) Tryd.underlying22 cSh g1 (light_in hw 1 z1 rfl rfl) op_shown
  obtain ⟨aq, acp, As, e2, -, b2, r2, n2⟩ := slice_row (m := 1) (by omega) al (fun _ => rfl) _ Tryd.underlying23 cVlL g2 (light_in hw 2 z2 rfl rfl) op_list
  obtain ⟨⟨k, n, s⟩, e3, hvi⟩ := op_value m [c3, c4, c5] z3 rfl g3 (light_in hw 3 z3 rfl rfl)
  obtain ⟨dp, e4, -, -⟩ := DataW.trod_int Tryd.underlying3 g4
  rw [bSh, reach_eq] at b1
  rw [bVlL, reach_eq] at b2
  simp [vc] at e0 e3 e4
  refine ⟨tx, s, vq, aq, vcp, acp, k, n, dp, Vs, As.map (·.2.2), ?_, shAt_of r1, arrAt_of r2 n2, hvi, b1, by rw [List.length_map]; exact b2, fun L hL => ?_⟩
  · rw [e0, e1, e2, e3.1, e3.2.1, e3.2.2, e4, List.length_map]
  · obtain ⟨a, ha, rfl⟩ := List.mem_map.1 hL
    exact (n2 a ha).2.1
end
end Go.Proofs.YtljhobjgofhldaaDoor
