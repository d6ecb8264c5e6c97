import Derived.Test.YtlahcmhjnhangabDoorRows
import Derived.WalkKit
import Derived.ProofKit
import Derived.OpenShut
import Derived.ShutString
import Derived.SizedLaws
import Derived.Below
import Derived.Lib.Strings
namespace Go.Proofs.YtlahcmhjnhangabDoor
open Go.ChangeShapes Go.WideShapes Go.ChangeAt Go.RowKit
open Go.ChangeMaps (open_string shut_string)

theorem laidOut : laidOutB Tryd.prog = true := by kernel_rfl
theorem cells24 : Tryd.prog.cellsOf 24 = 5 := by kernel_rfl
theorem cells22 : Tryd.prog.cellsOf 22 = 1 := by kernel_rfl
theorem cellsS : Tryd.prog.cellsOf 9 = 1 := by kernel_rfl
theorem cells3 : Tryd.prog.cellsOf 3 = 1 := by kernel_rfl
theorem cells2 : Tryd.prog.cellsOf 2 = 1 := by kernel_rfl

theorem array5 {α : Type} {cs : Array α} (h : cs.size = 5) : ∃ c0 c1 c2 c3 c4, cs = #[c0, c1, c2, c3, c4] := by
  obtain ⟨l⟩ := cs
  match l, h with
  | [c0, c1, c2, c3, c4], _ => exact ⟨c0, c1, c2, c3, c4, rfl⟩
theorem list5 {α : Type} {xs : List α} (h : xs.length = 5) : ∃ c0 c1 c2 c3 c4, xs = [c0, c1, c2, c3, c4] := by
  match xs, h with
  | [c0, c1, c2, c3, c4], _ => exact ⟨c0, c1, c2, c3, c4, rfl⟩

theorem open_tok {H : Type} {enc : TypeId × Value → H} {W : World} {base b0 : Nat} {spare : Nat → Bool} {held : Bool} {r : Reach} {v : Value} {d : DataW H} {p : List MemPlace} (hv : Value.okWide Tryd.prog W r b0 24 v) (h : DataW.Trod enc Tryd.prog W base spare held 24 v d p) :
    ∃ (k a z n : Int) (s : ByteArray), v = .agg #[.int .i64 k, .int .i64 a, .int .i64 z, .string s, .int .i64 n] ∧ d = .agg [.lit (.int .i64 k), .lit (.int .i64 a), .lit (.int .i64 z), .lit (.string s.data.toList), .lit (.int .i64 n)] ∧ (Lit.int .i64 n).wf = true := by
  obtain ⟨cs, rfl, hsz⟩ := okWide_struct Tryd.underlying24 hv
  obtain ⟨c0, c1, c2, c3, c4, rfl⟩ := array5 (hsz.trans cells24)
  obtain ⟨fuel, hf⟩ := h
  obtain ⟨xs, m, _, hx, _, hlen, hfs⟩ := DataW.trod_struct Tryd.underlying24 hf
  obtain ⟨y0, y1, y2, y3, y4, rfl⟩ := list5 hlen
  have f0 : DataW.trod enc Tryd.prog W base spare held m 22 [c0] = some y0 := by have := hfs 0 _ rfl; simpa [Value.cells, cells22] using this
  have f1 : DataW.trod enc Tryd.prog W base spare held m 3 [c1] = some y1 := by have := hfs 1 _ rfl; simpa [Value.cells, cells3] using this
  have f2 : DataW.trod enc Tryd.prog W base spare held m 3 [c2] = some y2 := by have := hfs 2 _ rfl; simpa [Value.cells, cells3] using this
  have f3 : DataW.trod enc Tryd.prog W base spare held m 9 [c3] = some y3 := by have := hfs 3 _ rfl; simpa [Value.cells, cellsS] using this
  have f4 : DataW.trod enc Tryd.prog W base spare held m 2 [c4] = some y4 := by have := hfs 4 _ rfl; simpa [Value.cells, cells2] using this
  obtain ⟨a0, e0, rfl, _⟩ := DataW.trod_int Tryd.underlying22 f0
  obtain ⟨a1, e1, rfl, _⟩ := DataW.trod_int Tryd.underlying3 f1
  obtain ⟨a2, e2, rfl, _⟩ := DataW.trod_int Tryd.underlying3 f2
  obtain ⟨s, e3, rfl, _⟩ := DataW.trod_string Tryd.underlying9 f3
  obtain ⟨a4, e4, rfl, hw⟩ := DataW.trod_int Tryd.underlying2 f4
  simp at e0 e1 e2 e3 e4
  subst e0 e1 e2 e3 e4
  simp only [Prod.mk.injEq] at hx
  exact ⟨a0, a1, a2, a4, s, rfl, hx.1, hw⟩

theorem tok_sized {H : Type} {ds : List (DataW H)} {ts : List TypeId} {bytes : List UInt8} {k a z n : Int} (h : (DataW.weightsEach Tryd.prog ts ds).all (· ≤ reachBytes) = true) (ht : ts[0]? = some 24) (hd : ds[0]? = some (.agg [.lit (.int .i64 k), .lit (.int .i64 a), .lit (.int .i64 z), .lit (.string bytes), .lit (.int .i64 n)])) : bytes.length ≤ reachBytes := by
  have := List.all_eq_true.1 h _ (DataW.weights_mem_each ht hd bytes.length (by simp [DataW.weights, Tryd.underlying24, DataW.weightsEach]))
  simpa using this

theorem reach_le : reachBytes ≤ 140737488355328 := by decide
end Go.Proofs.YtlahcmhjnhangabDoor
