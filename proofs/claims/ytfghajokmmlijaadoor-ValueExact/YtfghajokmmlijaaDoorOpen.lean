import Derived.Test.YtfghajokmmlijaaDoorRows
import Derived.WalkKit
import Derived.ProofKit
import Derived.OpenShut
import Derived.ShutString
import Derived.SizedLaws
import Derived.Below
import Derived.Lib.Strings
import Derived.ChangeArms
namespace Go.Proofs.YtfghajokmmlijaaDoor
open Go.ChangeShapes Go.WideShapes Go.ChangeAt Go.RowKit

theorem own : ownKnob Tryd.prog.godebug = none := by kernel_rfl
theorem laidOut : laidOutB Tryd.prog = true := by kernel_rfl
theorem cellsAsk : Tryd.prog.cellsOf 27 = 11 := by kernel_rfl
theorem cellsV : Tryd.prog.cellsOf 25 = 3 := by kernel_rfl
theorem cellsS : Tryd.prog.cellsOf 9 = 1 := by kernel_rfl
theorem cellsI : Tryd.prog.cellsOf 2 = 1 := by kernel_rfl
theorem cellsK : Tryd.prog.cellsOf 23 = 1 := by kernel_rfl
theorem cellsO : Tryd.prog.cellsOf 22 = 1 := by kernel_rfl

theorem array11 {α : Type} {cs : Array α} (h : cs.size = 11) : ∃ c0 c1 c2 c3 c4 c5 c6 c7 c8 c9 c10, cs = #[c0, c1, c2, c3, c4, c5, c6, c7, c8, c9, c10] := by
  obtain ⟨l⟩ := cs
  match l, h with
  | [c0, c1, c2, c3, c4, c5, c6, c7, c8, c9, c10], _ => exact ⟨c0, c1, c2, c3, c4, c5, c6, c7, c8, c9, c10, rfl⟩
theorem list5 {α : Type} {xs : List α} (h : xs.length = 5) : ∃ c0 c1 c2 c3 c4, xs = [c0, c1, c2, c3, c4] := by
  match xs, h with
  | [c0, c1, c2, c3, c4], _ => exact ⟨c0, c1, c2, c3, c4, rfl⟩
theorem list3 {α : Type} {xs : List α} (h : xs.length = 3) : ∃ c0 c1 c2, xs = [c0, c1, c2] := by
  match xs, h with
  | [c0, c1, c2], _ => exact ⟨c0, c1, c2, rfl⟩
theorem wf_i64 {n : Int} (h : (Lit.int .i64 n).wf = true) : -9223372036854775808 ≤ n ∧ n ≤ 9223372036854775807 := by simpa [Lit.wf, IntKind.min, IntKind.max, IntKind.signed, IntKind.bits] using h

theorem open_val {H : Type} {enc : TypeId × Value → H} {W : World} {base : Nat} {spare : Nat → Bool} {held : Bool} {m : Nat} {c0 c1 c2 : Value} {y} (h : DataW.trod enc Tryd.prog W base spare held m 25 [c0, c1, c2] = some y) :
    ∃ (k n : Int) (s : ByteArray), c0 = .int .i64 k ∧ c1 = .int .i64 n ∧ c2 = .string s ∧ s.size ≤ 9223372036854775807 ∧ (-9223372036854775808 ≤ n ∧ n ≤ 9223372036854775807) := by
  obtain ⟨zs, m2, _, _, _, hlen2, hgs⟩ := DataW.trod_struct Tryd.underlying25 h
  obtain ⟨z0, z1, z2, rfl⟩ := list3 hlen2
  have g0 : DataW.trod enc Tryd.prog W base spare held m2 23 [c0] = some z0 := by have := hgs 0 _ rfl; simpa [cellsK] using this
  have g1 : DataW.trod enc Tryd.prog W base spare held m2 2 [c1] = some z1 := by have := hgs 1 _ rfl; simpa [cellsI] using this
  have g2 : DataW.trod enc Tryd.prog W base spare held m2 9 [c2] = some z2 := by have := hgs 2 _ rfl; simpa [cellsS] using this
  obtain ⟨a0, e0, _, _⟩ := DataW.trod_int Tryd.underlying23 g0
  obtain ⟨a1, e1, _, wf1⟩ := DataW.trod_int Tryd.underlying2 g1
  obtain ⟨s, e2, _, hs⟩ := DataW.trod_string Tryd.underlying9 g2
  simp at e0 e1 e2
  exact ⟨a0, a1, s, e0, e1, e2, hs, wf_i64 wf1⟩

theorem open_ask {H : Type} {enc : TypeId × Value → H} {W : World} {base b0 : Nat} {spare : Nat → Bool} {held : Bool} {r : Reach} {v : Value} {d : DataW H} {p : List MemPlace} (hv : Value.okWide Tryd.prog W r b0 27 v) (h : DataW.Trod enc Tryd.prog W base spare held 27 v d p) :
    ∃ (op kd k n : Int) (s : ByteArray) (k' n' : Int) (s' : ByteArray) (k2 n2 : Int) (s2 : ByteArray), v = .agg #[.int .i64 op, .int .i64 kd, .int .i64 k, .int .i64 n, .string s, .int .i64 k', .int .i64 n', .string s', .int .i64 k2, .int .i64 n2, .string s2] ∧
      (s.size ≤ 9223372036854775807 ∧ (-9223372036854775808 ≤ n ∧ n ≤ 9223372036854775807)) ∧ (s'.size ≤ 9223372036854775807 ∧ (-9223372036854775808 ≤ n' ∧ n' ≤ 9223372036854775807)) ∧ (s2.size ≤ 9223372036854775807 ∧ (-9223372036854775808 ≤ n2 ∧ n2 ≤ 9223372036854775807)) := by
  obtain ⟨cs, rfl, hsz⟩ := okWide_struct Tryd.underlying27 hv
  obtain ⟨c0, c1, c2, c3, c4, c5, c6, c7, c8, c9, c10, rfl⟩ := array11 (hsz.trans cellsAsk)
  obtain ⟨fuel, hf⟩ := h
  obtain ⟨xs, m, _, hx, _, hlen, hfs⟩ := DataW.trod_struct Tryd.underlying27 hf
  obtain ⟨y0, y1, y2, y3, y4, rfl⟩ := list5 hlen
  have f0 : DataW.trod enc Tryd.prog W base spare held m 22 [c0] = some y0 := by have := hfs 0 _ rfl; simpa [Value.cells, cellsO] using this
  have f1 : DataW.trod enc Tryd.prog W base spare held m 23 [c1] = some y1 := by have := hfs 1 _ rfl; simpa [Value.cells, cellsK] using this
  have f2 : DataW.trod enc Tryd.prog W base spare held m 25 [c2, c3, c4] = some y2 := by have := hfs 2 _ rfl; simpa [Value.cells, cellsV] using this
  have f3 : DataW.trod enc Tryd.prog W base spare held m 25 [c5, c6, c7] = some y3 := by have := hfs 3 _ rfl; simpa [Value.cells, cellsV] using this
  have f4 : DataW.trod enc Tryd.prog W base spare held m 25 [c8, c9, c10] = some y4 := by have := hfs 4 _ rfl; simpa [Value.cells, cellsV] using this
  obtain ⟨op, e0, _, _⟩ := DataW.trod_int Tryd.underlying22 f0
  obtain ⟨kd, e1, _, _⟩ := DataW.trod_int Tryd.underlying23 f1
  obtain ⟨k, n, s, rfl, rfl, rfl, h2⟩ := open_val f2
  obtain ⟨k', n', s', rfl, rfl, rfl, h3⟩ := open_val f3
  obtain ⟨k2, n2, s2, rfl, rfl, rfl, h4⟩ := open_val f4
  simp at e0 e1
  subst e0 e1
  exact ⟨op, kd, k, n, s, k', n', s', k2, n2, s2, rfl, h2, h3, h4⟩
end Go.Proofs.YtfghajokmmlijaaDoor
