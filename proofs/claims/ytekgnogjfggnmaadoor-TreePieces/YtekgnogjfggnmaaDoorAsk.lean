import Derived.Test.YtekgnogjfggnmaaDoorOpen
namespace Go.Proofs.YtekgnogjfggnmaaDoor
open Go.ChangeShapes Go.WideShapes Go.ChangeAt Go.RowKit

theorem bcells39 : Tryd.prog.cellsOf 39 = 4 := by kernel_rfl

theorem list4 {α : Type} {xs : List α} (h : xs.length = 4) : ∃ c0 c1 c2 c3, xs = [c0, c1, c2, c3] := by
  match xs, h with
  | [c0, c1, c2, c3], _ => exact ⟨c0, c1, c2, c3, rfl⟩
theorem array4 {α : Type} {cs : Array α} (h : cs.size = 4) : ∃ c0 c1 c2 c3, cs = #[c0, c1, c2, c3] := by
  obtain ⟨l⟩ := cs
  match l, h with
  | [c0, c1, c2, c3], _ => exact ⟨c0, c1, c2, c3, rfl⟩

theorem slice_cap {H : Type} {enc : TypeId × Value → H} {W : World} {base : Nat} {spare : Nat → Bool} {held : Bool} {fuel : Nat} {t e : TypeId} {p : Option Addr} {n cap : Nat} {x : DataW H × List MemPlace}
    (ht : Tryd.prog.underlying t = some (.slice e)) (h : DataW.trod enc Tryd.prog W base spare held fuel t [.slice p n cap] = some x) : n ≤ cap := by
  rcases DataW.trod_slice ht h with ⟨h0, _⟩ | ⟨a, len, cap, elems, rest, n, _, h0, _, _, hlc, _⟩
  · simp at h0; omega
  · simp at h0; omega

theorem slice_form {H : Type} {enc : TypeId × Value → H} {W : World} {base : Nat} {spare : Nat → Bool} {held : Bool} {fuel : Nat} {t e : TypeId} {c : Value} {x : DataW H × List MemPlace}
    (ht : Tryd.prog.underlying t = some (.slice e)) (h : DataW.trod enc Tryd.prog W base spare held fuel t [c] = some x) : ∃ p n cap, c = .slice p n cap := by
  rcases DataW.trod_slice ht h with ⟨h0, _⟩ | ⟨a, len, cap, elems, rest, n, _, h0, _⟩
  · exact ⟨_, _, _, by simpa using h0⟩
  · exact ⟨_, _, _, by simpa using h0⟩

set_option maxRecDepth 100000 in
theorem open_ask {H : Type} {enc : TypeId × Value → H} {W : World} {base b0 : Nat} {spare : Nat → Bool} {held : Bool} {r : Reach} {v : Value} {d : DataW H} {p : List MemPlace} (hv : Value.okWide Tryd.prog W r b0 39 v) (h : DataW.Trod enc Tryd.prog W base spare held 39 v d p) (hd : Light 39 d) :
    ∃ (q : Option Addr) (n cap : Nat) (L : List Nd) (q2 : Option Addr) (n2 cap2 : Nat) (L2 : List Nd) (N : Int) (Tx : ByteArray), v = .agg #[.slice q n cap, .slice q2 n2 cap2, .int .i64 N, .string Tx] ∧ Arg W q n cap L ∧ n ≤ cap ∧ Arg W q2 n2 cap2 L2 ∧ n2 ≤ cap2 ∧ Tx.size ≤ 140737488355328 := by
  obtain ⟨cs, rfl, hsz⟩ := okWide_struct Tryd.underlying39 hv
  obtain ⟨c0, c1, c2, c3, rfl⟩ := array4 (hsz.trans bcells39)
  obtain ⟨fuel, hf⟩ := h
  obtain ⟨xs, m, _, hx, _, hlen, hfs⟩ := DataW.trod_struct Tryd.underlying39 hf
  obtain ⟨y0, y1, y2, y3, rfl⟩ := list4 hlen
  have f0 : DataW.trod enc Tryd.prog W base spare held m 24 [c0] = some y0 := by have := hfs 0 _ rfl; simpa [Value.cells, bcells24] using this
  have f1 : DataW.trod enc Tryd.prog W base spare held m 24 [c1] = some y1 := by have := hfs 1 _ rfl; simpa [Value.cells, bcells24] using this
  have f2 : DataW.trod enc Tryd.prog W base spare held m 3 [c2] = some y2 := by have := hfs 2 _ rfl; simpa [Value.cells, bcells24, bcells3] using this
  have f3 : DataW.trod enc Tryd.prog W base spare held m 9 [c3] = some y3 := by have := hfs 3 _ rfl; simpa [Value.cells, bcells24, bcells3, bcells9] using this
  simp only [Prod.mk.injEq] at hx
  have hd0 := hx.1
  subst hd0
  have hwt : ∀ (j : Nat) (t : TypeId) (y : DataW H), ([24, 24, 3, 9] : List TypeId)[j]? = some t → ([y0, y1, y2, y3].map (·.1) : List (DataW H))[j]? = some y → Light t y := fun j t y h1 h2 m hm =>
    hd m (by simp only [DataW.weights, Tryd.underlying39]; exact DataW.weights_mem_each (P := Tryd.prog) h1 h2 m hm)
  have tree : ∀ (j : Nat) (c : Value) (y : DataW H × List MemPlace), DataW.trod enc Tryd.prog W base spare held m 24 [c] = some y → Light 24 y.1 → ∃ (q : Option Addr) (n cap : Nat) (L : List Nd), c = .slice q n cap ∧ Arg W q n cap L ∧ n ≤ cap := fun j c y g hl => by
    obtain ⟨xs', m', _, hx', _, hlen', hfs'⟩ := DataW.trod_struct Tryd.underlying24 g
    obtain ⟨z0, rfl⟩ := list1 hlen'
    have g0 : DataW.trod enc Tryd.prog W base spare held m' 22 [c] = some z0 := by have := hfs' 0 _ rfl; simpa [bcells22] using this
    have hz : Light 22 z0.1 := fun m hm => by
      rw [hx'] at hl
      exact hl m (by simp only [DataW.weights, Tryd.underlying24]; exact DataW.weights_mem_each (P := Tryd.prog) (ts := [22]) (ds := [z0].map (·.1)) (j := 0) rfl rfl m hm)
    obtain ⟨q, n, cap, L, rfl, hA⟩ := open_nodes g0 hz
    exact ⟨q, n, cap, L, rfl, hA, slice_cap Tryd.underlying22 g0⟩
  obtain ⟨q, n, cap, L, rfl, hA, hc⟩ := tree 0 c0 y0 f0 (hwt 0 24 y0.1 rfl rfl)
  obtain ⟨q2, n2, cap2, L2, rfl, hA2, hc2⟩ := tree 1 c1 y1 f1 (hwt 1 24 y1.1 rfl rfl)
  obtain ⟨N, e2, _, _⟩ := DataW.trod_int Tryd.underlying3 f2
  obtain ⟨Tx, e3, hy3, _⟩ := DataW.trod_string Tryd.underlying9 f3
  simp at e2 e3
  subst e2 e3
  refine ⟨q, n, cap, L, q2, n2, cap2, L2, N, Tx, rfl, hA, hc, hA2, hc2, ?_⟩
  have h5 := hwt 3 9 y3.1 rfl rfl Tx.data.toList.length (by rw [hy3]; simp [DataW.weights])
  have := reachBytes_lt
  rw [Lib.size_eq]
  omega
end Go.Proofs.YtekgnogjfggnmaaDoor
