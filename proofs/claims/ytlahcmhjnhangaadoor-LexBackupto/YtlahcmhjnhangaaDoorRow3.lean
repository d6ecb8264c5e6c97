import Derived.Test.YtlahcmhjnhangaaDoorRows
import Derived.WalkKit
import Derived.ProofKit
import Derived.OpenShut
import Derived.ShutString
import Derived.SizedLaws
import Derived.Below
import Derived.Lib.Strings
import Derived.Test.YtlahcmhjnhangaaDoorBack
namespace Go.Proofs.YtlahcmhjnhangaaDoor
open Go.ChangeShapes Go.WideShapes Go.ChangeAt Go.RowKit

theorem bulk_pos {H : Type} (d : DataW H) : 1 ≤ Rows.uptoBulk d := by
  cases d with
  | lit l => cases l <;> simp [Rows.uptoBulk]
  | _ => simp [Rows.uptoBulk]
theorem bulk_len {H : Type} : ∀ l : List (DataW H), l.length ≤ Rows.uptoBulkAll l
  | [] => Nat.zero_le _
  | d :: l => by
    have := bulk_len l
    have := bulk_pos d
    simp only [Rows.uptoBulkAll, List.length_cons]
    omega
theorem bulk_mem {H : Type} {d : DataW H} : ∀ {l : List (DataW H)}, d ∈ l → Rows.uptoBulk d ≤ Rows.uptoBulkAll l
  | e :: l, h => by
    simp only [Rows.uptoBulkAll]
    rcases List.mem_cons.1 h with rfl | h
    · omega
    · have := bulk_mem h
      omega

theorem plain_of_cell {w : World} {a : Addr} {v : Value} (h : w.cell? a = some v) : a = ⟨a.block, a.off, none⟩ ∧ a.block < w.heap.size := by
  refine ⟨?_, World.block_lt_of_cell? w a h⟩
  obtain ⟨b, o, sp⟩ := a
  cases sp with
  | none => rfl
  | some q =>
    unfold World.cell? at h
    split at h
    · simp at h
    · cases h

/-- A slice, opened as far as it reaches: its elements' cells, each read. -/
theorem slice_at {H : Type} {enc : TypeId × Value → H} {W : World} {base : Nat} {spare : Nat → Bool} {held : Bool} {fuel : Nat} {t e : TypeId} {c : Value} {x : DataW H × List MemPlace} {m : Nat} (hm : 0 < m)
    (ht : Tryd.prog.underlying t = some (.slice e)) (hc : Tryd.prog.cellsOf e = m) (h : DataW.trod enc Tryd.prog W base spare held fuel t [c] = some x) :
    ∃ (p : Option Addr) (len cap n : Nat), c = .slice p len cap ∧ len ≤ Rows.uptoBulk x.1 ∧ ∀ i, i < len → ∃ g o cs y, p = some ⟨g, o, none⟩ ∧ g < W.heap.size ∧ cs.length = m ∧ (∀ j, j < m → W.cell? ⟨g, o + i * m + j, none⟩ = cs[j]?) ∧ DataW.trod enc Tryd.prog W base spare held n e cs = some y ∧ Rows.uptoBulk y.1 ≤ Rows.uptoBulk x.1 := by
  rcases DataW.trod_slice ht h with ⟨h0, _⟩ | ⟨a, len, cap, elems, rest, n, _, h0, rfl, _, _, _, hlen, hel, _, _⟩
  · exact ⟨none, 0, 0, 0, by simpa using h0, Nat.zero_le _, fun i hi => by omega⟩
  · have hb := bulk_len (elems.map (·.1))
    rw [List.length_map, hlen] at hb
    refine ⟨some a, len, cap, n, by simpa using h0, by simp only [Rows.uptoBulk]; omega, fun i hi => ?_⟩
    have key : ∀ i, i < len → ∃ cs y, elems[i]? = some y ∧ W.cells? base (a.add (i * m)) m = some cs ∧ DataW.trod enc Tryd.prog W base spare held n e cs = some y := by
      intro i hi
      have := hel i hi
      rw [hc, List.getElem?_eq_getElem (by omega), Option.bind_eq_some_iff] at this
      obtain ⟨cs, h1, h2⟩ := this
      exact ⟨cs, _, List.getElem?_eq_getElem (by omega), h1, h2⟩
    obtain ⟨cs0, _, _, hz, _⟩ := key 0 (by omega)
    obtain ⟨_, hz1, hz2⟩ := World.cells?_some hz
    have hp := hz2 0 hm
    rw [Nat.zero_mul, show (a.add 0).add 0 = a from by simp [Addr.add], List.getElem?_eq_getElem (by omega)] at hp
    obtain ⟨ha, hg⟩ := plain_of_cell hp
    obtain ⟨cs, y, hy, h1, h2⟩ := key i hi
    obtain ⟨_, h3, h4⟩ := World.cells?_some h1
    refine ⟨a.block, a.off, cs, y, congrArg some ha, hg, h3, fun j hj => ?_, h2, ?_⟩
    · have := h4 j hj
      rw [ha, add_plain, add_plain] at this
      exact this
    · have := bulk_mem (List.mem_map_of_mem (f := (·.1)) (List.mem_of_getElem? hy))
      simp only [Rows.uptoBulk]
      omega

theorem bcells35 : Tryd.prog.cellsOf 35 = 5 := by kernel_rfl
theorem bcells33 : Tryd.prog.cellsOf 33 = 1 := by kernel_rfl
theorem bcells9 : Tryd.prog.cellsOf 9 = 1 := by kernel_rfl
theorem bcells3 : Tryd.prog.cellsOf 3 = 1 := by kernel_rfl
theorem bcells2 : Tryd.prog.cellsOf 2 = 1 := by kernel_rfl
theorem bcells42 : Tryd.prog.cellsOf 42 = 3 := by kernel_rfl
theorem bcells25 : Tryd.prog.cellsOf 25 = 1 := by kernel_rfl
theorem bcells39 : Tryd.prog.cellsOf 39 = 1 := by kernel_rfl
theorem bcells40 : Tryd.prog.cellsOf 40 = 1 := by kernel_rfl
theorem laidOut : laidOutB Tryd.prog = true := by kernel_rfl

theorem list5 {α : Type} {xs : List α} (h : xs.length = 5) : ∃ c0 c1 c2 c3 c4, xs = [c0, c1, c2, c3, c4] := by
  match xs, h with
  | [c0, c1, c2, c3, c4], _ => exact ⟨c0, c1, c2, c3, c4, rfl⟩
theorem list3 {α : Type} {xs : List α} (h : xs.length = 3) : ∃ c0 c1 c2, xs = [c0, c1, c2] := by
  match xs, h with
  | [c0, c1, c2], _ => exact ⟨c0, c1, c2, rfl⟩
theorem array3 {α : Type} {cs : Array α} (h : cs.size = 3) : ∃ c0 c1 c2, cs = #[c0, c1, c2] := by
  obtain ⟨l⟩ := cs
  match l, h with
  | [c0, c1, c2], _ => exact ⟨c0, c1, c2, rfl⟩

theorem tok_cells {H : Type} {enc : TypeId × Value → H} {W : World} {base : Nat} {spare : Nat → Bool} {held : Bool} {fuel : Nat} {cs : List Value} {x : DataW H × List MemPlace} (hl : cs.length = 5) (h : DataW.trod enc Tryd.prog W base spare held fuel 35 cs = some x) :
    ∃ (k a z m : Int) (s : ByteArray), cs = [.int .i64 k, .int .i64 a, .int .i64 z, .string s, .int .i64 m] ∧ (Lit.int .i64 m).wf = true ∧ s.size ≤ Rows.uptoBulk x.1 := by
  obtain ⟨c0, c1, c2, c3, c4, rfl⟩ := list5 hl
  obtain ⟨xs, m, _, hx, _, hlen, hfs⟩ := DataW.trod_struct Tryd.underlying35 h
  obtain ⟨y0, y1, y2, y3, y4, rfl⟩ := list5 hlen
  have f0 : DataW.trod enc Tryd.prog W base spare held m 33 [c0] = some y0 := by have := hfs 0 _ rfl; simpa [bcells33] using this
  have f1 : DataW.trod enc Tryd.prog W base spare held m 3 [c1] = some y1 := by have := hfs 1 _ rfl; simpa [bcells3] using this
  have f2 : DataW.trod enc Tryd.prog W base spare held m 3 [c2] = some y2 := by have := hfs 2 _ rfl; simpa [bcells3] using this
  have f3 : DataW.trod enc Tryd.prog W base spare held m 9 [c3] = some y3 := by have := hfs 3 _ rfl; simpa [bcells9] using this
  have f4 : DataW.trod enc Tryd.prog W base spare held m 2 [c4] = some y4 := by have := hfs 4 _ rfl; simpa [bcells2] using this
  obtain ⟨a0, e0, _, _⟩ := DataW.trod_int Tryd.underlying33 f0
  obtain ⟨a1, e1, _, _⟩ := DataW.trod_int Tryd.underlying3 f1
  obtain ⟨a2, e2, _, _⟩ := DataW.trod_int Tryd.underlying3 f2
  obtain ⟨s, e3, rfl, _⟩ := DataW.trod_string Tryd.underlying9 f3
  obtain ⟨a4, e4, _, hw⟩ := DataW.trod_int Tryd.underlying2 f4
  simp at e0 e1 e2 e3 e4
  subst e0 e1 e2 e3 e4
  refine ⟨a0, a1, a2, a4, s, rfl, hw, ?_⟩
  rw [hx, Lib.size_eq]
  simp only [List.map_cons, List.map_nil, Rows.uptoBulk, Rows.uptoBulkAll]
  omega

theorem open_row {H : Type} {enc : TypeId × Value → H} {W : World} {base b0 : Nat} {spare : Nat → Bool} {held : Bool} {r : Reach} {v : Value} {d : DataW H} {p : List MemPlace} (hv : Value.okWide Tryd.prog W r b0 42 v) (h : DataW.Trod enc Tryd.prog W base spare held 42 v d p) (hd : Rows.uptoBulk d ≤ 1048576) :
    ∃ (pt pb pn : Option Addr) (n ct lb cb ln cn : Nat), v = .agg #[.slice pt n ct, .slice pb lb cb, .slice pn ln cn] ∧ n ≤ 1048576 ∧ (∀ i, i < n → ∃ k a z m s, TokAt W pt i k a z m s) ∧ (∀ i, ∃ z, Lies W pb lb i (.int .i64 z)) ∧ (∀ i, ∃ s : ByteArray, s.size ≤ 1048576 ∧ Lies W pn ln i (.string s)) := by
  obtain ⟨cs, rfl, hsz⟩ := okWide_struct Tryd.underlying42 hv
  obtain ⟨c0, c1, c2, rfl⟩ := array3 (hsz.trans bcells42)
  obtain ⟨fuel, hf⟩ := h
  obtain ⟨xs, m, _, hx, _, hlen, hfs⟩ := DataW.trod_struct Tryd.underlying42 hf
  obtain ⟨y0, y1, y2, rfl⟩ := list3 hlen
  have f0 : DataW.trod enc Tryd.prog W base spare held m 25 [c0] = some y0 := by have := hfs 0 _ rfl; simpa [Value.cells, bcells25] using this
  have f1 : DataW.trod enc Tryd.prog W base spare held m 39 [c1] = some y1 := by have := hfs 1 _ rfl; simpa [Value.cells, bcells39] using this
  have f2 : DataW.trod enc Tryd.prog W base spare held m 40 [c2] = some y2 := by have := hfs 2 _ rfl; simpa [Value.cells, bcells40] using this
  simp only [Prod.mk.injEq] at hx
  have hd0 := hx.1
  subst hd0
  simp only [List.map_cons, List.map_nil, Rows.uptoBulk, Rows.uptoBulkAll] at hd
  obtain ⟨pt, n, ct, n0, rfl, hn, h0⟩ := slice_at (m := 5) (by omega) Tryd.underlying25 bcells35 f0
  obtain ⟨pb, lb, cb, n1, rfl, _, h1⟩ := slice_at (m := 1) (by omega) Tryd.underlying39 bcells3 f1
  obtain ⟨pn, ln, cn, n2, rfl, _, h2⟩ := slice_at (m := 1) (by omega) Tryd.underlying40 bcells9 f2
  refine ⟨pt, pb, pn, n, ct, lb, cb, ln, cn, rfl, by omega, fun i hi => ?_, fun i => ?_, fun i => ?_⟩
  · obtain ⟨g, o, cs, y, hp, hg, hl, hc, hy, hb⟩ := h0 i hi
    obtain ⟨k, a, z, m', s, rfl, hw, hs⟩ := tok_cells hl hy
    obtain ⟨w1, w2⟩ := bounds_i64 hw
    exact ⟨k, a, z, m', s, ⟨g, o, hp, hg, hc 0 (by omega), hc 1 (by omega), hc 2 (by omega), hc 3 (by omega), hc 4 (by omega)⟩, w1, w2, by omega⟩
  · by_cases hi : i < lb
    · obtain ⟨g, o, cs, y, hp, hg, hl, hc, hy, hb⟩ := h1 i hi
      obtain ⟨z, e, _, _⟩ := DataW.trod_int Tryd.underlying3 hy
      subst e
      exact ⟨z, fun _ => ⟨g, o, hp, hg, by have := hc 0 (by omega); rw [Nat.mul_one, Nat.add_zero] at this; exact this⟩⟩
    · exact ⟨0, fun h => absurd h hi⟩
  · by_cases hi : i < ln
    · obtain ⟨g, o, cs, y, hp, hg, hl, hc, hy, hb⟩ := h2 i hi
      obtain ⟨s, e, e2, _⟩ := DataW.trod_string Tryd.underlying9 hy
      subst e e2
      refine ⟨s, ?_, fun _ => ⟨g, o, hp, hg, by have := hc 0 (by omega); rw [Nat.mul_one, Nat.add_zero] at this; exact this⟩⟩
      simp only [Rows.uptoBulk] at hb
      rw [Lib.size_eq]
      omega
    · exact ⟨ByteArray.empty, by decide, fun h => absurd h hi⟩
end Go.Proofs.YtlahcmhjnhangaaDoor
