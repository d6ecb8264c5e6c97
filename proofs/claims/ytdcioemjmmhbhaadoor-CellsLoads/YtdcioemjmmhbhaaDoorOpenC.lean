import Derived.Test.YtdcioemjmmhbhaaDoorRows
import Derived.Test.YtdcioemjmmhbhaaDoorScript
import Derived.WalkKit
import Derived.ProofKit
import Derived.OpenShut
import Derived.ShutString
import Derived.SizedLaws
import Derived.Lib.Strings
import Derived.LaidMore
import Derived.Deep.DeepHandedRow
import Derived.Deep.DeepWitnessRowRef
import Derived.Lib.LaidTab
import Derived.Stop.LaidErr
namespace Go.Proofs.YtdcioemjmmhbhaaDoor
open Go.ChangeShapes Go.WideShapes Go.ChangeAt Go.RowKit

theorem own : ownKnob Tryd.prog.godebug = none := by kernel_rfl
theorem laidOut : laidOutB Tryd.prog = true := by kernel_rfl
theorem weightsAll_mem {H : Type} {P : Program} {e : TypeId} {d : DataW H} : ∀ {l : List (DataW H)}, d ∈ l → ∀ m ∈ d.weights P e, m ∈ DataW.weightsAll P e l
  | x :: l, h, m, hm => by
    simp only [DataW.weightsAll, List.mem_append]
    rcases List.mem_cons.1 h with rfl | h
    · exact .inl hm
    · exact .inr (weightsAll_mem h m hm)
/-- No text and no list in it takes more than a machine has. -/
def Light {H : Type} (t : TypeId) (d : DataW H) : Prop := ∀ m ∈ d.weights Tryd.prog t, m ≤ reachBytes
theorem plain_of_cell {w : World} {a : Addr} {v : Value} (h : w.cell? a = some v) : a = ⟨a.block, a.off, none⟩ ∧ a.block < w.heap.size := by
  refine ⟨?_, World.block_lt_of_cell? w a h⟩
  obtain ⟨b, o, sp⟩ := a
  cases sp with
  | none => rfl
  | some q =>
    unfold World.cell? at h
    split at h
    · simp at h
    · cases h
/-- A slice, opened as far as it reaches: its elements' cells, each read. -/
theorem slice_at {H : Type} {enc : TypeId × Value → H} {W : World} {base : Nat} {spare : Nat → Bool} {held : Bool} {fuel : Nat} {t e : TypeId} {c : Value} {x : DataW H × List MemPlace} {m : Nat} (hm : 0 < m)
    (ht : Tryd.prog.underlying t = some (.slice e)) (hc : Tryd.prog.cellsOf e = m) (h : DataW.trod enc Tryd.prog W base spare held fuel t [c] = some x) (hw : Light t x.1) :
    ∃ (p : Option Addr) (len cap n : Nat), c = .slice p len cap ∧ len * Tryd.prog.bytesOf e ≤ reachBytes ∧ ∀ i, i < len → ∃ g o cs y, p = some ⟨g, o, none⟩ ∧ g < W.heap.size ∧ cs.length = m ∧ (∀ j, j < m → W.cell? ⟨g, o + i * m + j, none⟩ = cs[j]?) ∧ DataW.trod enc Tryd.prog W base spare held n e cs = some y := by
  rcases DataW.trod_slice ht h with ⟨h0, _⟩ | ⟨a, len, cap, elems, rest, n, _, h0, rfl, _, _, _, hlen, hel, _, _⟩
  · exact ⟨none, 0, 0, 0, by simpa using h0, by rw [Nat.zero_mul]; exact Nat.zero_le _, fun i hi => by omega⟩
  · have hw1 := hw ((elems.map (·.1)).length + (rest.map (·.1)).length |> (· * Tryd.prog.bytesOf e)) (by simp [DataW.weights, ht])
    have hb : len * Tryd.prog.bytesOf e ≤ reachBytes := by
      refine Nat.le_trans (Nat.mul_le_mul_right _ ?_) hw1
      rw [List.length_map, hlen]
      omega
    refine ⟨some a, len, cap, n, by simpa using h0, hb, fun i hi => ?_⟩
    have key : ∀ i, i < len → ∃ cs y, elems[i]? = some y ∧ W.cells? base (a.add (i * m)) m = some cs ∧ DataW.trod enc Tryd.prog W base spare held n e cs = some y := by
      intro i hi
      have := hel i hi
      rw [hc, List.getElem?_eq_getElem (by omega), Option.bind_eq_some_iff] at this
      obtain ⟨cs, h1, h2⟩ := this
      exact ⟨cs, _, List.getElem?_eq_getElem (by omega), h1, h2⟩
    obtain ⟨cs0, _, _, hz, _⟩ := key 0 (by omega)
    obtain ⟨_, hz1, hz2⟩ := World.cells?_some hz
    have hp := hz2 0 hm
    rw [Nat.zero_mul, show (a.add 0).add 0 = a from by simp [Addr.add], List.getElem?_eq_getElem (by omega)] at hp
    obtain ⟨ha, hg⟩ := plain_of_cell hp
    obtain ⟨cs, y, hy, h1, h2⟩ := key i hi
    obtain ⟨_, h3, h4⟩ := World.cells?_some h1
    refine ⟨a.block, a.off, cs, y, congrArg some ha, hg, h3, fun j hj => ?_, h2⟩
    have := h4 j hj
    rw [ha, Addr.add_mid, Addr.add_mid] at this
    exact this

theorem cStep : Tryd.prog.cellsOf 39 = 10 := by kernel_rfl
theorem yStep : Tryd.prog.bytesOf 39 = 96 := by kernel_rfl
theorem cPlay : Tryd.prog.cellsOf 25 = 3 := by kernel_rfl
theorem cPair : Tryd.prog.cellsOf 22 = 2 := by kernel_rfl
theorem cSteps : Tryd.prog.cellsOf 23 = 1 := by kernel_rfl
theorem cV : Tryd.prog.cellsOf 37 = 3 := by kernel_rfl
theorem cK : Tryd.prog.cellsOf 30 = 1 := by kernel_rfl
theorem cS : Tryd.prog.cellsOf 9 = 1 := by kernel_rfl
theorem cI : Tryd.prog.cellsOf 2 = 1 := by kernel_rfl
theorem cN : Tryd.prog.cellsOf 3 = 1 := by kernel_rfl
theorem cT : Tryd.prog.cellsOf 98 = 15 := by kernel_rfl
theorem reachBytes_eq : reachBytes = 140737488351232 := by decide
theorem list2 {α : Type} {xs : List α} (h : xs.length = 2) : ∃ c0 c1, xs = [c0, c1] := by
  match xs, h with
  | [c0, c1], _ => exact ⟨c0, c1, rfl⟩
theorem list3 {α : Type} {xs : List α} (h : xs.length = 3) : ∃ c0 c1 c2, xs = [c0, c1, c2] := by
  match xs, h with
  | [c0, c1, c2], _ => exact ⟨c0, c1, c2, rfl⟩
theorem list6 {α : Type} {xs : List α} (h : xs.length = 6) : ∃ c0 c1 c2 c3 c4 c5, xs = [c0, c1, c2, c3, c4, c5] := by
  match xs, h with
  | [c0, c1, c2, c3, c4, c5], _ => exact ⟨c0, c1, c2, c3, c4, c5, rfl⟩
theorem list10 {α : Type} {xs : List α} (h : xs.length = 10) : ∃ c0 c1 c2 c3 c4 c5 c6 c7 c8 c9, xs = [c0, c1, c2, c3, c4, c5, c6, c7, c8, c9] := by
  match xs, h with
  | [c0, c1, c2, c3, c4, c5, c6, c7, c8, c9], _ => exact ⟨c0, c1, c2, c3, c4, c5, c6, c7, c8, c9, rfl⟩
theorem wf_i64 {n : Int} (h : (Lit.int .i64 n).wf = true) : -9223372036854775808 ≤ n ∧ n ≤ 9223372036854775807 := by simpa [Lit.wf, IntKind.min, IntKind.max, IntKind.signed, IntKind.bits] using h
theorem open_val {H : Type} {enc : TypeId × Value → H} {W : World} {base : Nat} {spare : Nat → Bool} {held : Bool} {m : Nat} {c0 c1 c2 : Value} {y} (h : DataW.trod enc Tryd.prog W base spare held m 37 [c0, c1, c2] = some y) :
    ∃ (k n : Int) (s : ByteArray), c0 = .int .i64 k ∧ c1 = .int .i64 n ∧ c2 = .string s ∧ (s.size ≤ 9223372036854775807 ∧ (-9223372036854775808 ≤ n ∧ n ≤ 9223372036854775807)) ∧ y.1 = .agg [.lit (.int .i64 k), .lit (.int .i64 n), .lit (.string s.data.toList)] := by
  obtain ⟨zs, m2, _, hy, _, hlen2, hgs⟩ := DataW.trod_struct Tryd.underlying37 h
  obtain ⟨z0, z1, z2, rfl⟩ := list3 hlen2
  have g0 : DataW.trod enc Tryd.prog W base spare held m2 30 [c0] = some z0 := by have := hgs 0 _ rfl; simpa [cK] using this
  have g1 : DataW.trod enc Tryd.prog W base spare held m2 2 [c1] = some z1 := by have := hgs 1 _ rfl; simpa [cI] using this
  have g2 : DataW.trod enc Tryd.prog W base spare held m2 9 [c2] = some z2 := by have := hgs 2 _ rfl; simpa [cS] using this
  obtain ⟨a0, e0, rfl, _⟩ := DataW.trod_int Tryd.underlying30 g0
  obtain ⟨a1, e1, rfl, wf1⟩ := DataW.trod_int Tryd.underlying2 g1
  obtain ⟨s, e2, rfl, hs⟩ := DataW.trod_string Tryd.underlying9 g2
  simp at e0 e1 e2
  exact ⟨a0, a1, s, e0, e1, e2, ⟨hs, wf_i64 wf1⟩, by rw [hy]; rfl⟩
/-- A step, read. -/
theorem open_step {H : Type} {enc : TypeId × Value → H} {W : World} {base : Nat} {spare : Nat → Bool} {held : Bool} {m : Nat} {cs : List Value} {y} (hl : cs.length = 10) (h : DataW.trod enc Tryd.prog W base spare held m 39 cs = some y) :
    ∃ s : Sp, cs = sc s ∧ s.r.2.2.size ≤ 9223372036854775807 ∧ s.x.2.2.size ≤ 9223372036854775807 ∧ -9223372036854775808 ≤ s.x.2.1 ∧ s.x.2.1 ≤ 9223372036854775807 := by
  obtain ⟨c0, c1, c2, c3, c4, c5, c6, c7, c8, c9, rfl⟩ := list10 hl
  obtain ⟨xs, m2, _, _, _, hlen, hfs⟩ := DataW.trod_struct Tryd.underlying39 h
  obtain ⟨y0, y1, y2, y3, y4, y5, rfl⟩ := list6 hlen
  have f0 : DataW.trod enc Tryd.prog W base spare held m2 3 [c0] = some y0 := by have := hfs 0 _ rfl; simpa [cN] using this
  have f1 : DataW.trod enc Tryd.prog W base spare held m2 3 [c1] = some y1 := by have := hfs 1 _ rfl; simpa [cN] using this
  have f2 : DataW.trod enc Tryd.prog W base spare held m2 30 [c2] = some y2 := by have := hfs 2 _ rfl; simpa [cK] using this
  have f3 : DataW.trod enc Tryd.prog W base spare held m2 2 [c3] = some y3 := by have := hfs 3 _ rfl; simpa [cI] using this
  have f4 : DataW.trod enc Tryd.prog W base spare held m2 37 [c4, c5, c6] = some y4 := by have := hfs 4 _ rfl; simpa [cV] using this
  have f5 : DataW.trod enc Tryd.prog W base spare held m2 37 [c7, c8, c9] = some y5 := by have := hfs 5 _ rfl; simpa [cV] using this
  obtain ⟨a0, e0, _, _⟩ := DataW.trod_int Tryd.underlying3 f0
  obtain ⟨a1, e1, _, _⟩ := DataW.trod_int Tryd.underlying3 f1
  obtain ⟨a2, e2, _, _⟩ := DataW.trod_int Tryd.underlying30 f2
  obtain ⟨a3, e3, _, _⟩ := DataW.trod_int Tryd.underlying2 f3
  obtain ⟨rk, rn, rs, rfl, rfl, rfl, hr, _⟩ := open_val f4
  obtain ⟨xk, xn, xs, rfl, rfl, rfl, hx, _⟩ := open_val f5
  simp at e0 e1 e2 e3
  subst e0 e1 e2 e3
  exact ⟨⟨a0, a1, a2, a3, (rk, rn, rs), (xk, xn, xs)⟩, rfl, hr.1, hx.1, hx.2⟩
theorem flat_range {W : World} {g o : Nat} {S : List Sp} (h : ∀ i (hi : i < S.length), W.rangeAt g (o + i * 10) (sc S[i])) : W.rangeAt g o (S.flatMap sc) := fun j v hv => by
  have hl : (S.flatMap sc).length = S.length * 10 := by
    clear h hv
    induction S with
    | nil => rfl
    | cons a S ih => rw [List.flatMap_cons, List.length_append, ih, List.length_cons]; simp [sc]; omega
  have hj : j < S.length * 10 := by rw [← hl]; exact (List.getElem?_eq_some_iff.1 hv).1
  have hd : j / 10 < S.length := by omega
  have := flat_at sc 10 (fun _ => rfl) S (j / 10) (j % 10) hd (by omega)
  rw [show j / 10 * 10 + j % 10 = j by omega, hv] at this
  have h2 := h (j / 10) hd (j % 10) v this.symm
  rwa [show o + j / 10 * 10 + j % 10 = o + j by omega] at h2
set_option maxRecDepth 100000 in
theorem open_play {H : Type} {enc : TypeId × Value → H} {W : World} {base b0 : Nat} {spare : Nat → Bool} {held : Bool} {r : Reach} {v : Value} {d : DataW H} {p : List MemPlace} (hv : Value.okWide Tryd.prog W r b0 25 v) (h : DataW.Trod enc Tryd.prog W base spare held 25 v d p) (hd : Light 25 d) :
    ∃ (l0 l1 : Int) (q : Option Addr) (cap : Nat) (S : List Sp), v = .agg #[.int .i64 l0, .int .i64 l1, .slice q S.length cap] ∧ StepsAt W q S := by
  obtain ⟨cs, rfl, hsz⟩ := okWide_struct Tryd.underlying25 hv
  obtain ⟨c0, c1, c2, rfl⟩ : ∃ c0 c1 c2, cs = #[c0, c1, c2] := by
    have h1 : cs.size = 3 := hsz.trans cPlay
    obtain ⟨l⟩ := cs
    match l, h1 with
    | [c0, c1, c2], _ => exact ⟨c0, c1, c2, rfl⟩
  obtain ⟨fuel, hf⟩ := h
  obtain ⟨xs, m, _, hx, _, hlen, hfs⟩ := DataW.trod_struct Tryd.underlying25 hf
  obtain ⟨z0, z1, rfl⟩ := list2 hlen
  have g0 : DataW.trod enc Tryd.prog W base spare held m 22 [c0, c1] = some z0 := by have := hfs 0 _ rfl; simpa [Value.cells, cPair] using this
  have g1 : DataW.trod enc Tryd.prog W base spare held m 23 [c2] = some z1 := by have := hfs 1 _ rfl; simpa [Value.cells, cSteps] using this
  obtain ⟨ys, m2, _, _, _, hyl, hel⟩ := DataW.trod_array Tryd.underlying22 g0
  obtain ⟨y0, y1, rfl⟩ := list2 hyl
  have i0 : DataW.trod enc Tryd.prog W base spare held m2 3 [c0] = some y0 := by have := hel 0 (by decide); simpa [cN] using this
  have i1 : DataW.trod enc Tryd.prog W base spare held m2 3 [c1] = some y1 := by have := hel 1 (by decide); simpa [cN] using this
  obtain ⟨l0, e0, _, _⟩ := DataW.trod_int Tryd.underlying3 i0
  obtain ⟨l1, e1, _, _⟩ := DataW.trod_int Tryd.underlying3 i1
  simp at e0 e1
  subst e0 e1
  simp only [Prod.mk.injEq] at hx
  have hd0 := hx.1
  subst hd0
  have hz : Light 23 z1.1 := fun m hm => hd m (by simp only [DataW.weights, Tryd.underlying25]; exact DataW.weights_mem_each (P := Tryd.prog) (ts := [22, 23]) (ds := [z0, z1].map (·.1)) (j := 1) rfl rfl m hm)
  obtain ⟨q, n, cap, f, rfl, hn, hst⟩ := slice_at (m := 10) (by omega) Tryd.underlying23 cStep g1 hz
  rw [yStep, reachBytes_eq] at hn
  have key : ∀ i : Fin n, ∃ s : Sp, (∃ g o, q = some ⟨g, o, none⟩ ∧ W.rangeAt g (o + i.1 * 10) (sc s)) ∧ s.r.2.2.size ≤ 9223372036854775807 ∧ s.x.2.2.size ≤ 9223372036854775807 ∧ -9223372036854775808 ≤ s.x.2.1 ∧ s.x.2.1 ≤ 9223372036854775807 := fun i => by
    obtain ⟨g, o, cs, y, hp, _, hl, hc, hy⟩ := hst i.1 i.2
    obtain ⟨s, rfl, h1, h2⟩ := open_step hl hy
    refine ⟨s, ⟨g, o, hp, fun j v hv => ?_⟩, h1, h2⟩
    have hj : j < 10 := (List.getElem?_eq_some_iff.1 hv).1
    rw [hc j hj]
    exact hv
  obtain ⟨F, hF⟩ := Classical.axiomOfChoice key
  have hlenF : (List.ofFn F).length = n := by simp
  refine ⟨l0, l1, q, cap, List.ofFn F, by rw [hlenF], ⟨fun h0 => ?_, fun s hs => ?_, by rw [hlenF]; omega⟩⟩
  · rw [hlenF] at h0
    obtain ⟨⟨g, o, hp, _⟩, _⟩ := hF ⟨0, h0⟩
    refine ⟨g, o, hp, flat_range fun i hi => ?_⟩
    rw [hlenF] at hi
    obtain ⟨⟨g', o', hp', hc⟩, _⟩ := hF ⟨i, hi⟩
    rw [hp] at hp'
    cases hp'
    simpa using hc
  · obtain ⟨i, rfl⟩ := List.mem_ofFn.1 hs
    exact (hF i).2

theorem gZt : Tryd.prog.globalNamed "retrace/cells.zeros" = some 0 := by kernel_rfl
theorem g0Type : (Tryd.prog.globals[0]?).map (·.type) = some 98 := by kernel_rfl
abbrev laidC : List (String × DataW Unit) := [("retrace/cells.zeros", Rows.laid_retrace_cells_zeros)]
theorem zt_of_laid {W : World} (h : laidMet Tryd.prog laidC W) : Zt W := by
  obtain ⟨ps, ⟨g', t', cs, fuel, p, q, hg', ht', hvar, hd, _, _⟩, _⟩ := h
  obtain rfl := Option.some.inj (gZt.symm.trans hg')
  obtain rfl := Option.some.inj (g0Type.symm.trans ht')
  obtain ⟨xs, m, _, hx, hcl, hxl, hel⟩ := DataW.trod_array Tryd.underlying98 hd
  rw [cT] at hcl
  simp only [Prod.mk.injEq] at hx
  have hxs := hx.1
  intro k hk
  obtain ⟨x, hxk⟩ : ∃ x, xs[k]? = some x := ⟨_, List.getElem?_eq_getElem (by omega)⟩
  have h1 := hel k (by omega)
  rw [cV, hxk] at h1
  have hl3 : ((cs.toList.drop (k * 3)).take 3).length = 3 := by rw [List.length_take, List.length_drop]; omega
  obtain ⟨c0, c1, c2, hc⟩ := list3 hl3
  rw [hc] at h1
  obtain ⟨a, n, s, rfl, rfl, rfl, _, hy⟩ := open_val h1
  have hxa : (xs.map (·.1))[k]? = some x.1 := by rw [List.getElem?_map, hxk]; rfl
  have hvals : x.1 = .agg [.lit (.int .i64 (k : Int)), .lit (.int .i64 0), .lit (.string [])] := by
    unfold Rows.laid_retrace_cells_zeros at hxs
    simp only [DataW.agg.injEq] at hxs
    rw [← hxs] at hxa
    have : k = 0 ∨ k = 1 ∨ k = 2 ∨ k = 3 ∨ k = 4 := by omega
    rcases this with rfl | rfl | rfl | rfl | rfl <;> exact (Option.some.inj hxa).symm
  rw [hvals] at hy
  simp only [DataW.agg.injEq, List.cons.injEq, DataW.lit.injEq, Lit.int.injEq, Lit.string.injEq, true_and, and_true] at hy
  obtain ⟨rfl, rfl, hs⟩ := hy
  have hs0 : s = e0 := eq_e0 (by rw [ByteArray.toList_eq]; exact hs.symm)
  subst hs0
  have cell := fun i => World.var?_cell gZt hvar i
  have get : ∀ j, j < 3 → cs[k * 3 + j]? = ([.int .i64 (k : Int), .int .i64 0, .string e0] : List Value)[j]? := fun j hj => by
    rw [← hc, List.getElem?_take, if_pos hj, List.getElem?_drop]
    simp
  exact ⟨(cell _).trans (get 0 (by decide)), (cell _).trans (get 1 (by decide)), (cell _).trans (get 2 (by decide))⟩
end Go.Proofs.YtdcioemjmmhbhaaDoor
