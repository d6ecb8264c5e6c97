import Derived.Test.YtdcaonfnhdjibaaDoorCLa
import Derived.Test.YtdcaonfnhdjibaaDoorCV1
namespace Go.Proofs.YtdcaonfnhdjibaaDoor
open Go.ChangeShapes Go.WideShapes Go.ChangeAt Go.RowKit

/-! A code that is handed in, opened. -/
theorem weightsAll_mem {H : Type} {P : Program} {e : TypeId} {d : DataW H} : ∀ {l : List (DataW H)}, d ∈ l → ∀ m ∈ d.weights P e, m ∈ DataW.weightsAll P e l
  | x :: l, h, m, hm => by
    simp only [DataW.weightsAll, List.mem_append]
    rcases List.mem_cons.1 h with rfl | h
    · exact .inl hm
    · exact .inr (weightsAll_mem h m hm)
/-- No text and no list in it takes more than a machine has. -/
def Light {H : Type} (t : TypeId) (d : DataW H) : Prop := ∀ m ∈ d.weights Tryd.prog t, m ≤ reachBytes
theorem plain_of_cell {w : World} {a : Addr} {v : Value} (h : w.cell? a = some v) : a = ⟨a.block, a.off, none⟩ ∧ a.block < w.heap.size := by
  refine ⟨?_, World.block_lt_of_cell? w a h⟩
  obtain ⟨b, o, sp⟩ := a
  cases sp with
  | none => rfl
  | some q =>
    unfold World.cell? at h
    split at h
    · simp at h
    · cases h
/-- A slice, opened as far as it reaches: its elements' cells, each read. -/
theorem slice_at {H : Type} {enc : TypeId × Value → H} {W : World} {base : Nat} {spare : Nat → Bool} {held : Bool} {fuel : Nat} {t e : TypeId} {c : Value} {x : DataW H × List MemPlace} {m : Nat} (hm : 0 < m)
    (ht : Tryd.prog.underlying t = some (.slice e)) (hc : Tryd.prog.cellsOf e = m) (h : DataW.trod enc Tryd.prog W base spare held fuel t [c] = some x) (hw : Light t x.1) :
    ∃ (p : Option Addr) (len cap n : Nat), c = .slice p len cap ∧ len * Tryd.prog.bytesOf e ≤ reachBytes ∧ ∀ i, i < len → ∃ g o cs y, p = some ⟨g, o, none⟩ ∧ g < W.heap.size ∧ cs.length = m ∧ (∀ j, j < m → W.cell? ⟨g, o + i * m + j, none⟩ = cs[j]?) ∧ DataW.trod enc Tryd.prog W base spare held n e cs = some y ∧ Light e y.1 := by
  rcases DataW.trod_slice ht h with ⟨h0, _⟩ | ⟨a, len, cap, elems, rest, n, _, h0, rfl, _, _, _, hlen, hel, _, _⟩
  · exact ⟨none, 0, 0, 0, by simpa using h0, by rw [Nat.zero_mul]; exact Nat.zero_le _, fun i hi => by omega⟩
  · have hw1 := hw ((elems.map (·.1)).length + (rest.map (·.1)).length |> (· * Tryd.prog.bytesOf e)) (by simp [DataW.weights, ht])
    have hb : len * Tryd.prog.bytesOf e ≤ reachBytes := by
      refine Nat.le_trans (Nat.mul_le_mul_right _ ?_) hw1
      rw [List.length_map, hlen]
      omega
    refine ⟨some a, len, cap, n, by simpa using h0, hb, fun i hi => ?_⟩
    have key : ∀ i, i < len → ∃ cs y, elems[i]? = some y ∧ W.cells? base (a.add (i * m)) m = some cs ∧ DataW.trod enc Tryd.prog W base spare held n e cs = some y := by
      intro i hi
      have := hel i hi
      rw [hc, List.getElem?_eq_getElem (by omega), Option.bind_eq_some_iff] at this
      obtain ⟨cs, h1, h2⟩ := this
      exact ⟨cs, _, List.getElem?_eq_getElem (by omega), h1, h2⟩
    obtain ⟨cs0, _, _, hz, _⟩ := key 0 (by omega)
    obtain ⟨_, hz1, hz2⟩ := World.cells?_some hz
    have hp := hz2 0 hm
    rw [Nat.zero_mul, show (a.add 0).add 0 = a from by simp [Addr.add], List.getElem?_eq_getElem (by omega)] at hp
    obtain ⟨ha, hg⟩ := plain_of_cell hp
    obtain ⟨cs, y, hy, h1, h2⟩ := key i hi
    obtain ⟨_, h3, h4⟩ := World.cells?_some h1
    refine ⟨a.block, a.off, cs, y, congrArg some ha, hg, h3, fun j hj => ?_, h2, fun k hk => hw k ?_⟩
    · have := h4 j hj
      rw [ha, Addr.add_mid, Addr.add_mid] at this
      exact this
    · have hmem : y.1 ∈ elems.map (·.1) := List.mem_map.2 ⟨y, List.mem_of_getElem? hy, rfl⟩
      simp only [DataW.weights, ht, List.mem_cons, List.mem_append]
      exact .inr (.inl (weightsAll_mem hmem k hk))
theorem cIns : Tryd.prog.cellsOf 38 = 3 := by kernel_rfl
theorem cEnt : Tryd.prog.cellsOf 47 = 5 := by kernel_rfl
theorem cCode : Tryd.prog.cellsOf 26 = 4 := by kernel_rfl
theorem cSort : Tryd.prog.cellsOf 45 = 1 := by kernel_rfl
theorem cC8 : Tryd.prog.cellsOf 36 = 1 := by kernel_rfl
theorem cLi : Tryd.prog.cellsOf 22 = 1 := by kernel_rfl
theorem cLe : Tryd.prog.cellsOf 23 = 1 := by kernel_rfl
theorem cLt : Tryd.prog.cellsOf 24 = 1 := by kernel_rfl
theorem cLs : Tryd.prog.cellsOf 35 = 1 := by kernel_rfl
theorem bIns : Tryd.prog.bytesOf 38 = 24 := by kernel_rfl
theorem bEnt : Tryd.prog.bytesOf 47 = 64 := by kernel_rfl
theorem bSort : Tryd.prog.bytesOf 45 = 8 := by kernel_rfl
theorem bStr : Tryd.prog.bytesOf 9 = 16 := by kernel_rfl
theorem reach_eq : reachBytes = 140737488351232 := by decide
theorem list4 {α : Type} {xs : List α} (h : xs.length = 4) : ∃ c0 c1 c2 c3, xs = [c0, c1, c2, c3] := by
  match xs, h with
  | [c0, c1, c2, c3], _ => exact ⟨c0, c1, c2, c3, rfl⟩
theorem list5 {α : Type} {xs : List α} (h : xs.length = 5) : ∃ c0 c1 c2 c3 c4, xs = [c0, c1, c2, c3, c4] := by
  match xs, h with
  | [c0, c1, c2, c3, c4], _ => exact ⟨c0, c1, c2, c3, c4, rfl⟩
theorem list1 {α : Type} {xs : List α} (h : xs.length = 1) : ∃ c0, xs = [c0] := by
  match xs, h with
  | [c0], _ => exact ⟨c0, rfl⟩
/-- The elements of a slice, one reading each, as one row. -/
theorem slice_row {α : Type} {H : Type} {enc : TypeId × Value → H} {W : World} {base : Nat} {spare : Nat → Bool} {held : Bool} {fuel : Nat} {t e : TypeId} {c : Value} {x : DataW H × List MemPlace} {m : Nat} (hm : 0 < m) (f : α → List Value) (hf : ∀ a, (f a).length = m) (R : α → Prop)
    (ht : Tryd.prog.underlying t = some (.slice e)) (hc : Tryd.prog.cellsOf e = m) (h : DataW.trod enc Tryd.prog W base spare held fuel t [c] = some x) (hw : Light t x.1)
    (hr : ∀ (n : Nat) (cs : List Value) (y : DataW H × List MemPlace), cs.length = m → DataW.trod enc Tryd.prog W base spare held n e cs = some y → Light e y.1 → ∃ a, cs = f a ∧ R a) :
    ∃ (p : Option Addr) (cap : Nat) (L : List α), c = .slice p L.length cap ∧ L.length * Tryd.prog.bytesOf e ≤ reachBytes ∧ Row W W.heap.size p L.length (L.flatMap f) ∧ ∀ a ∈ L, R a := by
  obtain ⟨p, len, cap, n, hcv, hb, hst⟩ := slice_at hm ht hc h hw
  have key : ∀ i : Fin len, ∃ a : α, (∃ g o, p = some ⟨g, o, none⟩ ∧ g < W.heap.size ∧ W.rangeAt g (o + i.1 * m) (f a)) ∧ R a := fun i => by
    obtain ⟨g, o, cs, y, hp, hg, hl, hcc, hy, hyl⟩ := hst i.1 i.2
    obtain ⟨a, rfl, ha⟩ := hr n cs y hl hy hyl
    refine ⟨a, ⟨g, o, hp, hg, fun j v hv => ?_⟩, ha⟩
    have hj : j < m := by have := (List.getElem?_eq_some_iff.1 hv).1; omega
    rw [hcc j hj]
    exact hv
  obtain ⟨F, hF⟩ := Classical.axiomOfChoice key
  have hlenF : (List.ofFn F).length = len := by simp
  refine ⟨p, cap, List.ofFn F, by rw [hlenF]; exact hcv, by rw [hlenF]; exact hb, fun h0 => ?_, fun a ha => ?_⟩
  · rw [hlenF] at h0
    obtain ⟨⟨g, o, hp, hg, _⟩, _⟩ := hF ⟨0, h0⟩
    refine ⟨g, o, hp, hg, fun j v hv => ?_⟩
    have hl : ((List.ofFn F).flatMap f).length = len * m := by
      rw [List.length_flatMap]
      have : ∀ (l : List α), (l.map fun a => (f a).length).sum = l.length * m := by
        intro l
        induction l with
        | nil => simp
        | cons a l ih => rw [List.map_cons, List.sum_cons, ih, hf, List.length_cons, Nat.succ_mul]; omega
      rw [this, hlenF]
    have hj : j < len * m := by rw [← hl]; exact (List.getElem?_eq_some_iff.1 hv).1
    have hd : j / m < len := Nat.div_lt_of_lt_mul (by rw [Nat.mul_comm]; exact hj)
    have hmod : j % m < m := Nat.mod_lt _ hm
    have h2 := flat_at f m hf (List.ofFn F) (j / m) (j % m) (by rw [hlenF]; exact hd) hmod
    rw [show j / m * m + j % m = j by rw [Nat.mul_comm]; exact Nat.div_add_mod j m, hv] at h2
    obtain ⟨⟨g', o', hp', _, hcc⟩, _⟩ := hF ⟨j / m, hd⟩
    rw [hp] at hp'
    cases hp'
    have h3 := hcc (j % m) v (by rw [h2]; simp)
    rwa [Nat.add_assoc, show j / m * m + j % m = j by rw [Nat.mul_comm]; exact Nat.div_add_mod j m] at h3
  · obtain ⟨i, rfl⟩ := List.mem_ofFn.1 ha
    exact (hF i).2
theorem flat_one {α β : Type} (f : α → β) : ∀ l : List α, (l.flatMap fun a => [f a]) = l.map f
  | [] => rfl
  | a :: l => by rw [List.flatMap_cons, flat_one f l]; rfl
def i64 (n : Int) : Prop := -9223372036854775808 ≤ n ∧ n ≤ 9223372036854775807
theorem wf_i64 {n : Int} (h : (Lit.int .i64 n).wf = true) : i64 n := by
  unfold i64
  simpa [Lit.wf, IntKind.min, IntKind.max, IntKind.signed, IntKind.bits] using h
theorem op_sort {H : Type} {enc : TypeId × Value → H} {W : World} {base : Nat} {spare : Nat → Bool} {held : Bool} (n : Nat) (cs : List Value) (y : DataW H × List MemPlace) (hl : cs.length = 1) (h : DataW.trod enc Tryd.prog W base spare held n 45 cs = some y) (_ : Light 45 y.1) : ∃ a : Int, cs = [.int .i64 a] ∧ i64 a := by
  obtain ⟨c0, rfl⟩ := list1 hl
  obtain ⟨a, e, rfl, wf⟩ := DataW.trod_int Tryd.underlying45 h
  simp at e
  exact ⟨a, by rw [e], wf_i64 wf⟩
theorem op_str {H : Type} {enc : TypeId × Value → H} {W : World} {base : Nat} {spare : Nat → Bool} {held : Bool} (n : Nat) (cs : List Value) (y : DataW H × List MemPlace) (hl : cs.length = 1) (h : DataW.trod enc Tryd.prog W base spare held n 9 cs = some y) (hy : Light 9 y.1) : ∃ a : ByteArray, cs = [.string a] ∧ a.size ≤ 140737488351232 := by
  obtain ⟨c0, rfl⟩ := list1 hl
  obtain ⟨a, e, rfl, -⟩ := DataW.trod_string Tryd.underlying9 h
  simp at e
  refine ⟨a, by rw [e], ?_⟩
  have := hy a.size (by simp only [DataW.weights]; exact List.mem_singleton.2 (Array.length_toList (xs := a.data)).symm)
  rwa [reach_eq] at this
theorem op_ins {H : Type} {enc : TypeId × Value → H} {W : World} {base : Nat} {spare : Nat → Bool} {held : Bool} (n : Nat) (cs : List Value) (y : DataW H × List MemPlace) (hl : cs.length = 3) (h : DataW.trod enc Tryd.prog W base spare held n 38 cs = some y) (_ : Light 38 y.1) : ∃ a : In, cs = ic a ∧ (i64 a.1 ∧ i64 a.2.1 ∧ i64 a.2.2) := by
  obtain ⟨c0, c1, c2, rfl⟩ := list3 hl
  obtain ⟨zs, m2, _, hy, _, hlen2, hgs⟩ := DataW.trod_struct Tryd.underlying38 h
  obtain ⟨z0, z1, z2, rfl⟩ := list3 hlen2
  have g0 : DataW.trod enc Tryd.prog W base spare held m2 36 [c0] = some z0 := by have := hgs 0 _ rfl; simpa [cC8] using this
  have g1 : DataW.trod enc Tryd.prog W base spare held m2 2 [c1] = some z1 := by have := hgs 1 _ rfl; simpa [cC8, cI64] using this
  have g2 : DataW.trod enc Tryd.prog W base spare held m2 2 [c2] = some z2 := by have := hgs 2 _ rfl; simpa [cC8, cI64] using this
  obtain ⟨a, e0, rfl, w0⟩ := DataW.trod_int Tryd.underlying36 g0
  obtain ⟨b, e1, rfl, w1⟩ := DataW.trod_int Tryd.underlying2 g1
  obtain ⟨d, e2, rfl, w2⟩ := DataW.trod_int Tryd.underlying2 g2
  simp at e0 e1 e2
  exact ⟨(a, b, d), by rw [e0, e1, e2]; rfl, wf_i64 w0, wf_i64 w1, wf_i64 w2⟩
/-- What a function that is handed in keeps. -/
def EmOk (W : World) (x : Em) : Prop := (Row W W.heap.size x.2.1 x.1.sorts.length (sv x.1.sorts) ∧ x.1.sorts.length * 8 ≤ 140737488351232) ∧ x.1.name.size ≤ 140737488351232 ∧ (i64 x.1.start ∧ i64 x.1.params ∧ i64 x.1.result) ∧ ∀ s ∈ x.1.sorts, i64 s
theorem op_ent {H : Type} {enc : TypeId × Value → H} {W : World} {base : Nat} {spare : Nat → Bool} {held : Bool} (n : Nat) (cs : List Value) (y : DataW H × List MemPlace) (hl : cs.length = 5) (h : DataW.trod enc Tryd.prog W base spare held n 47 cs = some y) (hw : Light 47 y.1) : ∃ a : Em, cs = ec a ∧ EmOk W a := by
  obtain ⟨c0, c1, c2, c3, c4, rfl⟩ := list5 hl
  obtain ⟨zs, m2, _, hy, _, hlen2, hgs⟩ := DataW.trod_struct Tryd.underlying47 h
  obtain ⟨z0, z1, z2, z3, z4, rfl⟩ := list5 hlen2
  have g0 : DataW.trod enc Tryd.prog W base spare held m2 9 [c0] = some z0 := by have := hgs 0 _ rfl; simpa [cStr] using this
  have g1 : DataW.trod enc Tryd.prog W base spare held m2 3 [c1] = some z1 := by have := hgs 1 _ rfl; simpa [cStr, cNum] using this
  have g2 : DataW.trod enc Tryd.prog W base spare held m2 3 [c2] = some z2 := by have := hgs 2 _ rfl; simpa [cStr, cNum] using this
  have g3 : DataW.trod enc Tryd.prog W base spare held m2 35 [c3] = some z3 := by have := hgs 3 _ rfl; simpa [cStr, cNum, cLs] using this
  have g4 : DataW.trod enc Tryd.prog W base spare held m2 45 [c4] = some z4 := by have := hgs 4 _ rfl; simpa [cStr, cNum, cLs, cSort] using this
  have hd0 : y.1 = .agg ([z0, z1, z2, z3, z4].map (·.1)) := by rw [hy]
  have hz : ∀ (j : Nat) (t : TypeId) (z : DataW H), ([9, 3, 3, 35, 45] : List TypeId)[j]? = some t → ([z0, z1, z2, z3, z4].map (·.1))[j]? = some z → Light t z := fun j t z h1 h2 k hk => hw k (by
    rw [hd0]
    simp only [DataW.weights, Tryd.underlying47]
    exact DataW.weights_mem_each (P := Tryd.prog) (ts := [9, 3, 3, 35, 45]) (ds := [z0, z1, z2, z3, z4].map (·.1)) (j := j) h1 h2 k hk)
  obtain ⟨s, es, hs⟩ := op_str m2 [c0] z0 rfl g0 (hz 0 _ _ rfl rfl)
  obtain ⟨a, e1, -, w1⟩ := DataW.trod_int Tryd.underlying3 g1
  obtain ⟨b, e2, -, w2⟩ := DataW.trod_int Tryd.underlying3 g2
  obtain ⟨p, cap, L, e3, hb, hrow, hL⟩ := slice_row (m := 1) (by omega) (fun a : Int => [Value.int .i64 a]) (fun _ => rfl) i64 Tryd.underlying35 cSort g3 (hz 3 _ _ rfl rfl) op_sort
  obtain ⟨d, e4, -, w4⟩ := DataW.trod_int Tryd.underlying45 g4
  simp at es e1 e2 e4
  rw [bSort, reach_eq] at hb
  rw [flat_one] at hrow
  exact ⟨(⟨s, a, b, L, d⟩, p, cap), by rw [es, e1, e2, e3, e4]; rfl, ⟨hrow, hb⟩, hs, ⟨wf_i64 w1, wf_i64 w2, wf_i64 w4⟩, hL⟩
/-- What a code that is handed in keeps. -/
structure ArgC (W : World) (iq eq tq : Option Addr) (Es : List Em) (c : Cd) : Prop where
  m : CodeM W W.heap.size iq eq tq Es c
  li : c.ins.length * 24 ≤ 140737488351232
  le : c.ens.length * 64 ≤ 140737488351232
  lt : c.txs.length * 16 ≤ 140737488351232
  es : ∀ x ∈ Es, EmOk W x
  is : ∀ x ∈ c.ins, i64 x.1 ∧ i64 x.2.1 ∧ i64 x.2.2
  ts : ∀ t ∈ c.txs, t.size ≤ 140737488351232
  mn : i64 c.main
set_option maxRecDepth 100000 in
theorem open_code {H : Type} {enc : TypeId × Value → H} {W : World} {base b0 : Nat} {spare : Nat → Bool} {held : Bool} {r : Reach} {v : Value} {d : DataW H} {p : List MemPlace} (hv : Value.okWide Tryd.prog W r b0 26 v) (h : DataW.Trod enc Tryd.prog W base spare held 26 v d p) (hd : Light 26 d) :
    ∃ (iq eq tq : Option Addr) (ia ea ta : Nat) (Es : List Em) (c : Cd), v = codeV iq eq tq ia ea ta c ∧ ArgC W iq eq tq Es c := by
  obtain ⟨cs, rfl, hsz⟩ := okWide_struct Tryd.underlying26 hv
  obtain ⟨c0, c1, c2, c3, rfl⟩ : ∃ c0 c1 c2 c3, cs = #[c0, c1, c2, c3] := by
    have h1 : cs.size = 4 := hsz.trans cCode
    obtain ⟨l⟩ := cs
    match l, h1 with
    | [c0, c1, c2, c3], _ => exact ⟨c0, c1, c2, c3, rfl⟩
  obtain ⟨fuel, hf⟩ := h
  obtain ⟨xs, m, _, hx, _, hlen, hfs⟩ := DataW.trod_struct Tryd.underlying26 hf
  obtain ⟨z0, z1, z2, z3, rfl⟩ := list4 hlen
  have g0 : DataW.trod enc Tryd.prog W base spare held m 22 [c0] = some z0 := by have := hfs 0 _ rfl; simpa [Value.cells, cLi] using this
  have g1 : DataW.trod enc Tryd.prog W base spare held m 23 [c1] = some z1 := by have := hfs 1 _ rfl; simpa [Value.cells, cLi, cLe] using this
  have g2 : DataW.trod enc Tryd.prog W base spare held m 24 [c2] = some z2 := by have := hfs 2 _ rfl; simpa [Value.cells, cLi, cLe, cLt] using this
  have g3 : DataW.trod enc Tryd.prog W base spare held m 3 [c3] = some z3 := by have := hfs 3 _ rfl; simpa [Value.cells, cLi, cLe, cLt, cNum] using this
  simp only [Prod.mk.injEq] at hx
  have hd0 := hx.1
  subst hd0
  have hz : ∀ (j : Nat) (t : TypeId) (z : DataW H), ([22, 23, 24, 3] : List TypeId)[j]? = some t → ([z0, z1, z2, z3].map (·.1))[j]? = some z → Light t z := fun j t z h1 h2 k hk => hd k (by
    simp only [DataW.weights, Tryd.underlying26]
    exact DataW.weights_mem_each (P := Tryd.prog) (ts := [22, 23, 24, 3]) (ds := [z0, z1, z2, z3].map (·.1)) (j := j) h1 h2 k hk)
  obtain ⟨iq, ia, I, e0, ib, irow, hI⟩ := slice_row (m := 3) (by omega) ic (fun _ => rfl) (fun a : In => i64 a.1 ∧ i64 a.2.1 ∧ i64 a.2.2) Tryd.underlying22 cIns g0 (hz 0 _ _ rfl rfl) op_ins
  obtain ⟨eq, ea, E, e1, eb, erow, hE⟩ := slice_row (m := 5) (by omega) ec (fun _ => rfl) (EmOk W) Tryd.underlying23 cEnt g1 (hz 1 _ _ rfl rfl) op_ent
  obtain ⟨tq, ta, T, e2, tb, trow, hT⟩ := slice_row (m := 1) (by omega) (fun a : ByteArray => [Value.string a]) (fun _ => rfl) (fun a : ByteArray => a.size ≤ 140737488351232) Tryd.underlying24 cStr g2 (hz 2 _ _ rfl rfl) op_str
  obtain ⟨mn, e3, -, w3⟩ := DataW.trod_int Tryd.underlying3 g3
  simp at e3
  rw [bIns, reach_eq] at ib
  rw [bEnt, reach_eq] at eb
  rw [bStr, reach_eq] at tb
  rw [flat_one] at trow
  have hlE : (E.map (·.1)).length = E.length := List.length_map ..
  refine ⟨iq, eq, tq, ia, ea, ta, E, ⟨I, E.map (·.1), T, mn⟩, ?_, ⟨⟨rfl, irow, ?_, trow, fun x hx => ⟨(hE x hx).1.1, ?_, ?_⟩, ?_, ?_, ?_, fun t ht => ?_⟩, ib, ?_, tb, hE, hI, hT, wf_i64 w3⟩⟩
  · subst e0 e1 e2 e3
    unfold codeV
    simp
  · simp only; rw [hlE]; exact erow
  · have := (hE x hx).2.1; omega
  · have := (hE x hx).1.2; omega
  · simp only; omega
  · simp only; rw [hlE]; omega
  · simp only; omega
  · have := hT t ht; omega
  · simp only; rw [hlE]; exact eb
end Go.Proofs.YtdcaonfnhdjibaaDoor
