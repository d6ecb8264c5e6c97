import Derived.Test.YtichbejmelkjeaaDoorcLaD
import Derived.Test.YtichbejmelkjeaaDoorcTk
import Derived.Carry
namespace Go.Proofs.YtichbejmelkjeaaDoor
open Go.ChangeShapes Go.WideShapes Go.ChangeAt Go.RowKit

theorem bulk_pos {H : Type} (d : DataW H) : 1 ≤ Rows.uptoBulk d := by
  cases d with
  | lit l => cases l <;> simp [Rows.uptoBulk]
  | _ => simp [Rows.uptoBulk]
theorem list3 {α : Type} {xs : List α} (h : xs.length = 3) : ∃ c0 c1 c2, xs = [c0, c1, c2] := by
  match xs, h with
  | [c0, c1, c2], _ => exact ⟨c0, c1, c2, rfl⟩
theorem wf_i64 {n : Int} (h : (Lit.int .i64 n).wf = true) : -9223372036854775808 ≤ n ∧ n ≤ 9223372036854775807 := by simpa [Lit.wf, IntKind.min, IntKind.max, IntKind.signed, IntKind.bits] using h
theorem plain_of_cell {w : World} {a : Addr} {v : Value} (h : w.cell? a = some v) : a = ⟨a.block, a.off, none⟩ ∧ a.block < w.heap.size := by
  refine ⟨?_, World.block_lt_of_cell? w a h⟩
  obtain ⟨b, o, sp⟩ := a
  cases sp with
  | none => rfl
  | some q =>
    unfold World.cell? at h
    split at h
    · simp at h
    · cases h
theorem cRsp : Tryd.prog.cellsOf 28 = 5 := by kernel_rfl
theorem cStp : Tryd.prog.cellsOf 25 = 3 := by kernel_rfl
theorem cErn : Tryd.prog.cellsOf 22 = 1 := by kernel_rfl
theorem cStK : Tryd.prog.cellsOf 23 = 1 := by kernel_rfl
theorem cIn : Tryd.prog.cellsOf 3 = 1 := by kernel_rfl
theorem cSl : Tryd.prog.cellsOf 26 = 1 := by kernel_rfl
/-- The text of a datum. -/
def txD {H : Type} (d : DataW H) : List UInt8 := match d with | .lit (.string l) => l | _ => []
section
variable {H : Type} {enc : TypeId × Value → H} {W : World} {base : Nat} {spare : Nat → Bool} {held : Bool}
theorem op_intB {t : TypeId} (ht : Tryd.prog.underlying t = some (.int .i64)) (n : Nat) (c : Value) (y : DataW H × List MemPlace) (h : DataW.trod enc Tryd.prog W base spare held n t [c] = some y) : ∃ a : Int, c = .int .i64 a ∧ -9223372036854775808 ≤ a ∧ a ≤ 9223372036854775807 := by
  obtain ⟨a, e, -, w⟩ := DataW.trod_int ht h
  simp at e
  exact ⟨a, e, wf_i64 w⟩
theorem bulk_sum : ∀ l : List (DataW H), ((l.map txD).map (fun x => x.length + 1)).sum ≤ Rows.uptoBulkAll l := by
  intro l
  induction l with
  | nil => simp
  | cons d l ih =>
    simp only [Rows.uptoBulkAll, List.map_cons, List.sum_cons]
    have h1 : (txD d).length + 1 ≤ Rows.uptoBulk d := by
      have := bulk_pos d
      unfold txD
      split
      · simp [Rows.uptoBulk]
      · simp; omega
    omega
theorem slice_strs {fuel : Nat} {c : Value} {x : DataW H × List MemPlace} (h : DataW.trod enc Tryd.prog W base spare held fuel 26 [c] = some x) : ∃ (q : Option Addr) (cap : Nat) (L : List (List UInt8)), c = .slice q L.length cap ∧ L.length ≤ cap ∧ Row W W.heap.size q L.length (L.map sV) ∧ (L.map (fun x => x.length + 1)).sum ≤ Rows.uptoBulk x.1 := by
  rcases DataW.trod_slice Tryd.underlying26 h with ⟨h0, _⟩ | ⟨a, len, cap, elems, rest, n, _, h0, rfl, _, hlc, _, hlen, hel, _, _⟩
  · exact ⟨none, 0, [], by simpa using h0, Nat.le_refl _, fun h => by simp at h, by simp⟩
  · have str : ∀ i, i < len → ∃ (s : ByteArray) (y : DataW H × List MemPlace), elems[i]? = some y ∧ txD y.1 = s.data.toList ∧ W.cell? (a.add i) = some (.string s) := by
      intro i hi
      have := hel i hi
      rw [cStr, List.getElem?_eq_getElem (by omega), Option.bind_eq_some_iff] at this
      obtain ⟨cs, h1, h2⟩ := this
      obtain ⟨s, rfl, hy, -⟩ := DataW.trod_string Tryd.underlying9 h2
      obtain ⟨_, _, h4⟩ := World.cells?_some h1
      have h5 := h4 0 (by omega)
      refine ⟨s, _, List.getElem?_eq_getElem (by omega), by rw [hy]; rfl, ?_⟩
      rw [Nat.mul_one] at h5
      simpa [Addr.add] using h5
    have hll : ((elems.map (·.1)).map txD).length = len := by rw [List.length_map, List.length_map, hlen]
    refine ⟨some a, cap, (elems.map (·.1)).map txD, by rw [hll]; simpa using h0, by rw [hll]; exact hlc, fun hp => ?_, ?_⟩
    · rw [hll] at hp
      obtain ⟨s0, y0, -, -, c0⟩ := str 0 hp
      have ha0 : a.add 0 = a := by simp [Addr.add]
      rw [ha0] at c0
      obtain ⟨ha, hg⟩ := plain_of_cell c0
      refine ⟨a.block, a.off, congrArg some ha, hg, fun j v hv => ?_⟩
      have hj : j < len := by
        have := (List.getElem?_eq_some_iff.1 hv).1
        rw [List.length_map, hll] at this
        exact this
      obtain ⟨s, y, hy, ht, hc⟩ := str j hj
      rw [List.getElem?_map, List.getElem?_map, List.getElem?_map, hy] at hv
      simp only [Option.map_some, Option.some.injEq] at hv
      rw [ha, Addr.add_mid] at hc
      rw [hc, ← hv, ht]
      rfl
    · have := bulk_sum (elems.map (·.1))
      simp only [Rows.uptoBulk]
      omega
theorem op_resp (n : Nat) (c0 c1 c2 c3 c4 : Value) (y : DataW H × List MemPlace) (h : DataW.trod enc Tryd.prog W base spare held n 28 [c0, c1, c2, c3, c4] = some y) : ∃ (st a1 a2 a3 : Int) (q : Option Addr) (cap : Nat) (L : List (List UInt8)), c0 = .int .i64 st ∧ c1 = .int .i64 a1 ∧ c2 = .int .i64 a2 ∧ c3 = .int .i64 a3 ∧ c4 = .slice q L.length cap ∧ (-9223372036854775808 ≤ st ∧ st ≤ 9223372036854775807) ∧ L.length ≤ cap ∧ Row W W.heap.size q L.length (L.map sV) ∧ (L.map (fun x => x.length + 1)).sum ≤ Rows.uptoBulk y.1 := by
  obtain ⟨zs, m, _, hy, _, hlen, hgs⟩ := DataW.trod_struct Tryd.underlying28 h
  obtain ⟨z0, z1, z2, rfl⟩ := list3 hlen
  have g0 : DataW.trod enc Tryd.prog W base spare held m 22 [c0] = some z0 := by have := hgs 0 _ rfl; simpa [cErn] using this
  have g1 : DataW.trod enc Tryd.prog W base spare held m 25 [c1, c2, c3] = some z1 := by have := hgs 1 _ rfl; simpa [cErn, cStp] using this
  have g2 : DataW.trod enc Tryd.prog W base spare held m 26 [c4] = some z2 := by have := hgs 2 _ rfl; simpa [cErn, cStp, cSl] using this
  obtain ⟨st, rfl, hst⟩ := op_intB Tryd.underlying22 m c0 z0 g0
  obtain ⟨q, cap, L, rfl, hc, hr, hb⟩ := slice_strs g2
  obtain ⟨ws, m2, _, _, _, hlen2, hfs⟩ := DataW.trod_struct Tryd.underlying25 g1
  obtain ⟨w0, w1, w2, rfl⟩ := list3 hlen2
  have k0 : DataW.trod enc Tryd.prog W base spare held m2 23 [c1] = some w0 := by have := hfs 0 _ rfl; simpa [cStK] using this
  have k1 : DataW.trod enc Tryd.prog W base spare held m2 3 [c2] = some w1 := by have := hfs 1 _ rfl; simpa [cStK, cIn] using this
  have k2 : DataW.trod enc Tryd.prog W base spare held m2 3 [c3] = some w2 := by have := hfs 2 _ rfl; simpa [cStK, cIn] using this
  obtain ⟨a1, rfl, -⟩ := op_intB Tryd.underlying23 m2 c1 w0 k0
  obtain ⟨a2, rfl, -⟩ := op_intB Tryd.underlying3 m2 c2 w1 k1
  obtain ⟨a3, rfl, -⟩ := op_intB Tryd.underlying3 m2 c3 w2 k2
  subst hy
  refine ⟨st, a1, a2, a3, q, cap, L, rfl, rfl, rfl, rfl, rfl, hst, hc, hr, ?_⟩
  simp only [List.map_cons, List.map_nil, Rows.uptoBulk, Rows.uptoBulkAll]
  omega
end
end Go.Proofs.YtichbejmelkjeaaDoor
namespace Go.Proofs.YtichbejmelkjeaaDoor
open Go.ChangeShapes Go.WideShapes Go.ChangeAt Go.RowKit

theorem cPair : Tryd.prog.cellsOf 30 = 10 := by kernel_rfl
set_option maxRecDepth 100000 in
theorem open_pair {H : Type} {enc : TypeId × Value → H} {W : World} {base : Nat} {spare : Nat → Bool} {held : Bool} {b0 : Nat} {r : Reach} {v : Value} {d : DataW H} {p : List MemPlace} (hv : Value.okWide Tryd.prog W r b0 30 v) (h : DataW.Trod enc Tryd.prog W base spare held 30 v d p) (hb : Rows.uptoBulk d ≤ 1048576) :
    ∃ (st a1 a2 a3 su b1 b2 b3 : Int) (q s : Option Addr) (cap dap : Nat) (L M : List (List UInt8)), v = .agg #[.int .i64 st, .int .i64 a1, .int .i64 a2, .int .i64 a3, .slice q L.length cap, .int .i64 su, .int .i64 b1, .int .i64 b2, .int .i64 b3, .slice s M.length dap] ∧ (-9223372036854775808 ≤ st ∧ st ≤ 9223372036854775807) ∧ (-9223372036854775808 ≤ su ∧ su ≤ 9223372036854775807) ∧ L.length ≤ cap ∧ M.length ≤ dap ∧ Row W W.heap.size q L.length (L.map sV) ∧ Row W W.heap.size s M.length (M.map sV) ∧ (L.map (fun x => x.length + 1)).sum ≤ 1048576 ∧ (M.map (fun x => x.length + 1)).sum ≤ 1048576 := by
  obtain ⟨cs, rfl, hsz⟩ := okWide_struct Tryd.underlying30 hv
  obtain ⟨c0, c1, c2, c3, c4, c5, c6, c7, c8, c9, rfl⟩ : ∃ c0 c1 c2 c3 c4 c5 c6 c7 c8 c9, cs = #[c0, c1, c2, c3, c4, c5, c6, c7, c8, c9] := by
    have h1 : cs.size = 10 := hsz.trans cPair
    obtain ⟨l⟩ := cs
    match l, h1 with
    | [c0, c1, c2, c3, c4, c5, c6, c7, c8, c9], _ => exact ⟨c0, c1, c2, c3, c4, c5, c6, c7, c8, c9, rfl⟩
  obtain ⟨fuel, hf⟩ := h
  obtain ⟨xs, m, _, hx, _, hlen, hfs⟩ := DataW.trod_struct Tryd.underlying30 hf
  obtain ⟨z0, z1, rfl⟩ := list2 hlen
  have g0 : DataW.trod enc Tryd.prog W base spare held m 28 [c0, c1, c2, c3, c4] = some z0 := by have := hfs 0 _ rfl; simpa [Value.cells, cRsp] using this
  have g1 : DataW.trod enc Tryd.prog W base spare held m 28 [c5, c6, c7, c8, c9] = some z1 := by have := hfs 1 _ rfl; simpa [Value.cells, cRsp] using this
  simp only [Prod.mk.injEq] at hx
  have hd0 := hx.1
  subst hd0
  simp only [List.map_cons, List.map_nil, Rows.uptoBulk, Rows.uptoBulkAll] at hb
  obtain ⟨st, a1, a2, a3, q, cap, L, rfl, rfl, rfl, rfl, rfl, h1, h2, h3, h4⟩ := op_resp m c0 c1 c2 c3 c4 z0 g0
  obtain ⟨su, b1, b2, b3, s, dap, M, rfl, rfl, rfl, rfl, rfl, k1, k2, k3, k4⟩ := op_resp m c5 c6 c7 c8 c9 z1 g1
  exact ⟨st, a1, a2, a3, su, b1, b2, b3, q, s, cap, dap, L, M, rfl, h1, k1, h2, k2, h3, k3, by omega, by omega⟩
theorem mem_sum : ∀ (L : List (List UInt8)) (x : List UInt8), x ∈ L → x.length + 1 ≤ (L.map (fun x => x.length + 1)).sum := by
  intro L
  induction L with
  | nil => intro x h; cases h
  | cons a L ih =>
    intro x h
    rw [List.map_cons, List.sum_cons]
    rcases List.mem_cons.1 h with rfl | h
    · omega
    · have := ih x h; omega
end Go.Proofs.YtichbejmelkjeaaDoor
