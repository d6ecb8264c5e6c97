import Derived.Test.YtekgnogjfggnmaaGreatDoorRows
import Derived.Test.YtekgnogjfggnmaaGreatDoorN18
import Derived.Test.YtekgnogjfggnmaaGreatDoorN35
namespace Go.Proofs.YtekgnogjfggnmaaGreatDoor
open Go.ChangeShapes Go.WideShapes Go.ChangeAt Go.RowKit
set_option maxRecDepth 100000
theorem weightsAll_mem {H : Type} {P : Program} {e : TypeId} {d : DataW H} : ∀ {l : List (DataW H)}, d ∈ l → ∀ m ∈ d.weights P e, m ∈ DataW.weightsAll P e l
 | x :: l, h, m, hm => by
  simp only [DataW.weightsAll, List.mem_append]
  rcases List.mem_cons.1 h with rfl | h
  ·exact .inl hm
  ·exact .inr (weightsAll_mem h m hm)
def Light {H : Type} (t : TypeId) (d : DataW H) : Prop := ∀ m ∈ d.weights Tryz.prog t, m ≤ reachBytes
theorem plain_of_cell {w : World} {a : Addr} {v : Value} (h : w.cell? a = some v) : a = ⟨a.block, a.off, none⟩ ∧ a.block < w.heap.size := by
 refine ⟨?_, World.block_lt_of_cell? w a h⟩
 obtain ⟨b, o, sp⟩ := a
 cases sp with
 | none => rfl
 | some q =>
  unfold World.cell? at h
  split at h
  ·simp at h
  ·cases h
theorem slice_at {H : Type} {enc : TypeId × Value → H} {W : World} {base : Nat} {spare : Nat → Bool} {held : Bool} {fuel : Nat} {t e : TypeId} {c : Value} {x : DataW H × List MemPlace} {m : Nat} (hm : 0 < m)
 (ht : Tryz.prog.underlying t = some (.slice e)) (hc : Tryz.prog.cellsOf e = m) (h : DataW.trod enc Tryz.prog W base spare held fuel t [c] = some x) (hw : Light t x.1) :
 ∃ (p : Option Addr) (len cap n : Nat), c = .slice p len cap ∧ (p = none → len = 0 ∧ cap = 0) ∧ len * Tryz.prog.bytesOf e ≤ reachBytes ∧ ∀ i, i < len → ∃ g o cs y, p = some ⟨g, o, none⟩ ∧ g < W.heap.size ∧ cs.length = m ∧ (∀ j, j < m → W.cell? ⟨g, o + i * m + j, none⟩ = cs[j]?) ∧ DataW.trod enc Tryz.prog W base spare held n e cs = some y ∧ Light e y.1 := by
 rcases DataW.trod_slice ht h with ⟨h0, _⟩ | ⟨a, len, cap, elems, rest, n, _, h0, rfl, _, _, _, hlen, hel, _, _⟩
 ·exact ⟨none, 0, 0, 0, by simpa using h0, fun _ => ⟨rfl, rfl⟩, by rw [Nat.zero_mul]; exact Nat.zero_le _, fun i hi => by omega⟩
 ·have hw1 := hw ((elems.map (·.1)).length + (rest.map (·.1)).length |> (· * Tryz.prog.bytesOf e)) (by simp [DataW.weights, ht])
  have hb : len * Tryz.prog.bytesOf e ≤ reachBytes := by
   refine Nat.le_trans (Nat.mul_le_mul_right _ ?_) hw1
   rw [List.length_map, hlen]
   omega
  refine ⟨some a, len, cap, n, by simpa using h0, (fun e => by cases e), hb, fun i hi => ?_⟩
  have key : ∀ i, i < len → ∃ cs y, elems[i]? = some y ∧ W.cells? base (a.add (i * m)) m = some cs ∧ DataW.trod enc Tryz.prog W base spare held n e cs = some y := by
   intro i hi
   have := hel i hi
   rw [hc, List.getElem?_eq_getElem (by omega), Option.bind_eq_some_iff] at this
   obtain ⟨cs, h1, h2⟩ := this
   exact ⟨cs, _, List.getElem?_eq_getElem (by omega), h1, h2⟩
  obtain ⟨cs0, _, _, hz, _⟩ := key 0 (by omega)
  obtain ⟨_, hz1, hz2⟩ := World.cells?_some hz
  have hp := hz2 0 hm
  rw [Nat.zero_mul, show (a.add 0).add 0 = a from by simp [Addr.add], List.getElem?_eq_getElem (by omega)] at hp
  obtain ⟨ha, hg⟩ := plain_of_cell hp
  obtain ⟨cs, y, hy, h1, h2⟩ := key i hi
  obtain ⟨_, h3, h4⟩ := World.cells?_some h1
  refine ⟨a.block, a.off, cs, y, congrArg some ha, hg, h3, fun j hj => ?_, h2, ?_⟩
  ·have := h4 j hj
   rw [ha, add_plain, add_plain] at this
   exact this
  ·intro m' hm'
   refine hw m' ?_
   have := weightsAll_mem (List.mem_map_of_mem (f := (·.1)) (List.mem_of_getElem? hy)) m' hm'
   simp only [DataW.weights, ht, List.mem_cons, List.mem_append]
   exact .inr (.inl this)
theorem bcells42 : Tryz.prog.cellsOf 42 = 9 := by kernel_rfl
theorem bcells24 : Tryz.prog.cellsOf 24 = 1 := by kernel_rfl
theorem bcells22 : Tryz.prog.cellsOf 22 = 1 := by kernel_rfl
theorem bcells39 : Tryz.prog.cellsOf 39 = 1 := by kernel_rfl
theorem bcells40 : Tryz.prog.cellsOf 40 = 1 := by kernel_rfl
theorem bcells9 : Tryz.prog.cellsOf 9 = 1 := by kernel_rfl
theorem bcells3 : Tryz.prog.cellsOf 3 = 1 := by kernel_rfl
theorem bcells2 : Tryz.prog.cellsOf 2 = 1 := by kernel_rfl
theorem bbytes42 : Tryz.prog.bytesOf 42 = 104 := by kernel_rfl
theorem reachBytes_eq : reachBytes = 140737488351232 := by decide
theorem laidOut : laidOutB Tryz.prog = true := by kernel_rfl
theorem list1 {α : Type} {xs : List α} (h : xs.length = 1) : ∃ c0, xs = [c0] := by
 match xs, h with
 | [c0], _ => exact ⟨c0, rfl⟩
theorem list9 {α : Type} {xs : List α} (h : xs.length = 9) : ∃ c0 c1 c2 c3 c4 c5 c6 c7 c8, xs = [c0, c1, c2, c3, c4, c5, c6, c7, c8] := by
 match xs, h with
 | [c0, c1, c2, c3, c4, c5, c6, c7, c8], _ => exact ⟨c0, c1, c2, c3, c4, c5, c6, c7, c8, rfl⟩
theorem bcells26 : Tryz.prog.cellsOf 26 = 4 := by kernel_rfl
theorem list4 {α : Type} {xs : List α} (h : xs.length = 4) : ∃ c0 c1 c2 c3, xs = [c0, c1, c2, c3] := by
 match xs, h with
 | [c0, c1, c2, c3], _ => exact ⟨c0, c1, c2, c3, rfl⟩
theorem array4 {α : Type} {cs : Array α} (h : cs.size = 4) : ∃ c0 c1 c2 c3, cs = #[c0, c1, c2, c3] := by
 obtain ⟨l⟩ := cs
 match l, h with
 | [c0, c1, c2, c3], _ => exact ⟨c0, c1, c2, c3, rfl⟩
theorem wf_i64 {n : Int} (h : (Lit.int .i64 n).wf = true) : n ≤ 9223372036854775807 := by
 have h2 : IntKind.i64.min ≤ n ∧ n ≤ 9223372036854775807 := by simpa [Lit.wf] using h
 exact h2.2
theorem nd_cellsR {H : Type} {enc : TypeId × Value → H} {W : World} {base : Nat} {spare : Nat → Bool} {held : Bool} {fuel : Nat} {cs : List Value} {x : DataW H × List MemPlace} (hl : cs.length = 9) (h : DataW.trod enc Tryz.prog W base spare held fuel 42 cs = some x) (hw : Light 42 x.1) :
 ∃ y : Nd, cs = (ndV y).toList ∧ y.name.size ≤ 140737488355328 ∧ y.label.size ≤ 140737488355328 ∧ y.typ.size ≤ 140737488355328 ∧ y.text.size ≤ 140737488355328 ∧ y.pos ≤ 9223372036854775807 ∧ y.int ≤ 9223372036854775807 := by
 obtain ⟨c0, c1, c2, c3, c4, c5, c6, c7, c8, rfl⟩ := list9 hl
 obtain ⟨xs, m, _, hx, _, hlen, hfs⟩ := DataW.trod_struct Tryz.underlying42 h
 obtain ⟨y0, y1, y2, y3, y4, y5, y6, y7, y8, rfl⟩ := list9 hlen
 have f0 : DataW.trod enc Tryz.prog W base spare held m 39 [c0] = some y0 := by have := hfs 0 _ rfl; simpa [bcells39] using this
 have f1 : DataW.trod enc Tryz.prog W base spare held m 3 [c1] = some y1 := by have := hfs 1 _ rfl; simpa [bcells3] using this
 have f2 : DataW.trod enc Tryz.prog W base spare held m 9 [c2] = some y2 := by have := hfs 2 _ rfl; simpa [bcells9] using this
 have f3 : DataW.trod enc Tryz.prog W base spare held m 9 [c3] = some y3 := by have := hfs 3 _ rfl; simpa [bcells9] using this
 have f4 : DataW.trod enc Tryz.prog W base spare held m 9 [c4] = some y4 := by have := hfs 4 _ rfl; simpa [bcells9] using this
 have f5 : DataW.trod enc Tryz.prog W base spare held m 40 [c5] = some y5 := by have := hfs 5 _ rfl; simpa [bcells40] using this
 have f6 : DataW.trod enc Tryz.prog W base spare held m 2 [c6] = some y6 := by have := hfs 6 _ rfl; simpa [bcells2] using this
 have f7 : DataW.trod enc Tryz.prog W base spare held m 9 [c7] = some y7 := by have := hfs 7 _ rfl; simpa [bcells9] using this
 have f8 : DataW.trod enc Tryz.prog W base spare held m 3 [c8] = some y8 := by have := hfs 8 _ rfl; simpa [bcells3] using this
 obtain ⟨a0, e0, _, _⟩ := DataW.trod_int Tryz.underlying39 f0
 obtain ⟨a1, e1, _, wf1⟩ := DataW.trod_int Tryz.underlying3 f1
 obtain ⟨s2, e2, rfl, _⟩ := DataW.trod_string Tryz.underlying9 f2
 obtain ⟨s3, e3, rfl, _⟩ := DataW.trod_string Tryz.underlying9 f3
 obtain ⟨s4, e4, rfl, _⟩ := DataW.trod_string Tryz.underlying9 f4
 obtain ⟨a5, e5, _, _⟩ := DataW.trod_int Tryz.underlying40 f5
 obtain ⟨a6, e6, _, wf6⟩ := DataW.trod_int Tryz.underlying2 f6
 obtain ⟨s7, e7, rfl, _⟩ := DataW.trod_string Tryz.underlying9 f7
 obtain ⟨a8, e8, _, _⟩ := DataW.trod_int Tryz.underlying3 f8
 simp at e0 e1 e2 e3 e4 e5 e6 e7 e8
 subst e0 e1 e2 e3 e4 e5 e6 e7 e8
 have hwt : ∀ (j : Nat) (s : ByteArray), ([39, 3, 9, 9, 9, 40, 2, 9, 3] : List TypeId)[j]? = some 9 → ([y0, y1, (.lit (.string s2.data.toList), []), (.lit (.string s3.data.toList), []), (.lit (.string s4.data.toList), []), y5, y6, (.lit (.string s7.data.toList), []), y8].map (·.1) : List (DataW H))[j]? = some (.lit (.string s.data.toList)) → s.size ≤ 140737488355328 := fun j s h1 h2 => by
  have h3 := DataW.weights_mem_each (P := Tryz.prog) h1 h2 s.data.toList.length (by simp [DataW.weights])
  have h4 := hw s.data.toList.length (by rw [hx]; simp only [DataW.weights, Tryz.underlying42]; exact h3)
  have := reachBytes_lt
  rw [Lib.size_eq]
  omega
 exact ⟨⟨a0, a1, s2, s3, s4, a5, a6, s7, a8⟩, rfl, hwt 2 s2 rfl rfl, hwt 3 s3 rfl rfl, hwt 4 s4 rfl rfl, hwt 7 s7 rfl rfl, wf_i64 wf1, wf_i64 wf6⟩
theorem open_nodesR {H : Type} {enc : TypeId × Value → H} {W : World} {base : Nat} {spare : Nat → Bool} {held : Bool} {fuel : Nat} {c : Value} {x : DataW H × List MemPlace} (h : DataW.trod enc Tryz.prog W base spare held fuel 22 [c] = some x) (hw : Light 22 x.1) :
 ∃ (p : Option Addr) (n cap : Nat) (L : List Nd), c = .slice p n cap ∧ Arg W p n cap L ∧ Rng L ∧ RngP L := by
 obtain ⟨p, n, cap, f, rfl, hnil, hn, hel⟩ := slice_at (m := 9) (by omega) Tryz.underlying22 bcells42 h hw
 rw [bbytes42] at hn
 have hr := reachBytes_eq
 have key : ∀ i : Fin n, ∃ y : Nd, (∃ g o, p = some ⟨g, o, none⟩ ∧ g < W.heap.size ∧ ∀ (j : Nat) (v : Value), (ndV y)[j]? = some v → W.cell? ⟨g, o + i.1 * 9 + j, none⟩ = some v) ∧ y.name.size ≤ 140737488355328 ∧ y.label.size ≤ 140737488355328 ∧ y.typ.size ≤ 140737488355328 ∧ y.text.size ≤ 140737488355328 ∧ y.pos ≤ 9223372036854775807 ∧ y.int ≤ 9223372036854775807 := fun i => by
  obtain ⟨g, o, cs, y, hp, hg, hl, hc, hy, hby⟩ := hel i.1 i.2
  obtain ⟨z, rfl, h1, h2, h3, h4, h5, h6⟩ := nd_cellsR hl hy hby
  refine ⟨z, ⟨g, o, hp, hg, fun j v hv => ?_⟩, h1, h2, h3, h4, h5, h6⟩
  have hj : j < 9 := (Array.getElem?_eq_some_iff.1 hv).1
  rw [hc j hj]
  simpa using hv
 obtain ⟨F, hF⟩ := Classical.axiomOfChoice key
 have hnd : ∀ (i : Nat) (hi : i < n), nd (List.ofFn F) i = F ⟨i, hi⟩ := fun i hi => by simp [nd, hi]
 have hlen : (List.ofFn F).length = n := by simp
 refine ⟨p, n, cap, List.ofFn F, rfl, ⟨⟨⟨by rw [hlen]; omega, fun i hi => ?_⟩, hlen, fun hne => ?_⟩, hnil⟩, fun i hi => by rw [hlen] at hi; rw [hnd i hi]; exact (hF ⟨i, hi⟩).2.2.2.2.2.2, fun i hi => by rw [hlen] at hi; rw [hnd i hi]; exact (hF ⟨i, hi⟩).2.2.2.2.2.1⟩
 ·rw [hlen] at hi
  rw [hnd i hi]
  obtain ⟨_, h1, h2, h3, h4, _⟩ := hF ⟨i, hi⟩
  exact ⟨h1, h2, h3, h4⟩
 ·have h0 : 0 < n := by
   rcases Nat.eq_zero_or_pos n with h | h
   ·exact absurd (List.length_eq_zero_iff.1 (hlen.trans h)) hne
   ·exact h
  obtain ⟨⟨g, o, hp, hg, _⟩, _⟩ := hF ⟨0, h0⟩
  refine ⟨g, o, hp, hg, fun i hi j v hv => ?_⟩
  rw [hlen] at hi
  rw [hnd i hi] at hv
  obtain ⟨⟨g', o', hp', _, hc⟩, _⟩ := hF ⟨i, hi⟩
  rw [hp] at hp'
  cases hp'
  exact hc j v hv
theorem open_askR {H : Type} {enc : TypeId × Value → H} {W : World} {base b0 : Nat} {spare : Nat → Bool} {held : Bool} {r : Reach} {v : Value} {d : DataW H} {p : List MemPlace} (hv : Value.okWide Tryz.prog W r b0 26 v) (h : DataW.Trod enc Tryz.prog W base spare held 26 v d p) (hd : Light 26 d) :
 ∃ (q : Option Addr) (n cap : Nat) (L : List Nd) (q2 : Option Addr) (n2 cap2 : Nat) (L2 : List Nd) (N : Int) (Tx : ByteArray), v = .agg #[.slice q n cap, .slice q2 n2 cap2, .int .i64 N, .string Tx] ∧ Arg W q n cap L ∧ Rng L ∧ RngP L ∧ Arg W q2 n2 cap2 L2 ∧ Rng L2 ∧ RngP L2 := by
 obtain ⟨cs, rfl, hsz⟩ := okWide_struct Tryz.underlying26 hv
 obtain ⟨c0, c1, c2, c3, rfl⟩ := array4 (hsz.trans bcells26)
 obtain ⟨fuel, hf⟩ := h
 obtain ⟨xs, m, _, hx, _, hlen, hfs⟩ := DataW.trod_struct Tryz.underlying26 hf
 obtain ⟨y0, y1, y2, y3, rfl⟩ := list4 hlen
 have f0 : DataW.trod enc Tryz.prog W base spare held m 24 [c0] = some y0 := by have := hfs 0 _ rfl; simpa [Value.cells, bcells24] using this
 have f1 : DataW.trod enc Tryz.prog W base spare held m 24 [c1] = some y1 := by have := hfs 1 _ rfl; simpa [Value.cells, bcells24] using this
 have f2 : DataW.trod enc Tryz.prog W base spare held m 3 [c2] = some y2 := by have := hfs 2 _ rfl; simpa [Value.cells, bcells24, bcells3] using this
 have f3 : DataW.trod enc Tryz.prog W base spare held m 9 [c3] = some y3 := by have := hfs 3 _ rfl; simpa [Value.cells, bcells24, bcells3, bcells9] using this
 simp only [Prod.mk.injEq] at hx
 have hd0 := hx.1
 subst hd0
 have hwt : ∀ (j : Nat) (t : TypeId) (y : DataW H), ([24, 24, 3, 9] : List TypeId)[j]? = some t → ([y0, y1, y2, y3].map (·.1) : List (DataW H))[j]? = some y → Light t y := fun j t y h1 h2 m hm =>
  hd m (by simp only [DataW.weights, Tryz.underlying26]; exact DataW.weights_mem_each (P := Tryz.prog) h1 h2 m hm)
 have tree : ∀ (j : Nat) (c : Value) (y : DataW H × List MemPlace), DataW.trod enc Tryz.prog W base spare held m 24 [c] = some y → Light 24 y.1 → ∃ (q : Option Addr) (n cap : Nat) (L : List Nd), c = .slice q n cap ∧ Arg W q n cap L ∧ Rng L ∧ RngP L := fun j c y g hl => by
  obtain ⟨xs', m', _, hx', _, hlen', hfs'⟩ := DataW.trod_struct Tryz.underlying24 g
  obtain ⟨z0, rfl⟩ := list1 hlen'
  have g0 : DataW.trod enc Tryz.prog W base spare held m' 22 [c] = some z0 := by have := hfs' 0 _ rfl; simpa [bcells22] using this
  have hz : Light 22 z0.1 := fun m hm => by
   rw [hx'] at hl
   exact hl m (by simp only [DataW.weights, Tryz.underlying24]; exact DataW.weights_mem_each (P := Tryz.prog) (ts := [22]) (ds := [z0].map (·.1)) (j := 0) rfl rfl m hm)
  exact open_nodesR g0 hz
 obtain ⟨q, n, cap, L, rfl, hA, hA3, hA4⟩ := tree 0 c0 y0 f0 (hwt 0 24 y0.1 rfl rfl)
 obtain ⟨q2, n2, cap2, L2, rfl, hA2, hA5, hA6⟩ := tree 1 c1 y1 f1 (hwt 1 24 y1.1 rfl rfl)
 obtain ⟨N, e2, _, _⟩ := DataW.trod_int Tryz.underlying3 f2
 obtain ⟨Tx, e3, _, _⟩ := DataW.trod_string Tryz.underlying9 f3
 simp at e2 e3
 subst e2 e3
 exact ⟨q, n, cap, L, q2, n2, cap2, L2, N, Tx, rfl, hA, hA3, hA4, hA2, hA5, hA6⟩
end Go.Proofs.YtekgnogjfggnmaaGreatDoor
