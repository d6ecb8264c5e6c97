import Derived.Test.YtgncoeihlfcaiaaDoorRows
import Derived.WalkKit
import Derived.ProofKit
import Derived.OpenShut
import Derived.ShutString
import Derived.SizedLaws
import Derived.Below
import Derived.Lib.Strings
namespace Go.Proofs.YtgncoeihlfcaiaaDoor
open Go.ChangeShapes Go.WideShapes Go.ChangeAt Go.RowKit
open Go.ChangeMaps (open_string shut_string)

theorem laidOut : laidOutB Tryd.prog = true := by kernel_rfl
theorem cells25 : Tryd.prog.cellsOf 25 = 6 := by kernel_rfl
theorem cells23 : Tryd.prog.cellsOf 23 = 2 := by kernel_rfl
theorem cells9 : Tryd.prog.cellsOf 9 = 1 := by kernel_rfl
theorem cells3 : Tryd.prog.cellsOf 3 = 1 := by kernel_rfl

theorem array6 {α : Type} {cs : Array α} (h : cs.size = 6) : ∃ c0 c1 c2 c3 c4 c5, cs = #[c0, c1, c2, c3, c4, c5] := by
  obtain ⟨l⟩ := cs
  match l, h with
  | [c0, c1, c2, c3, c4, c5], _ => exact ⟨c0, c1, c2, c3, c4, c5, rfl⟩
theorem list5 {α : Type} {xs : List α} (h : xs.length = 5) : ∃ c0 c1 c2 c3 c4, xs = [c0, c1, c2, c3, c4] := by
  match xs, h with
  | [c0, c1, c2, c3, c4], _ => exact ⟨c0, c1, c2, c3, c4, rfl⟩
theorem list2 {α : Type} {xs : List α} (h : xs.length = 2) : ∃ c0 c1, xs = [c0, c1] := by
  match xs, h with
  | [c0, c1], _ => exact ⟨c0, c1, rfl⟩

theorem open_spot {H : Type} {enc : TypeId × Value → H} {W : World} {base b0 : Nat} {spare : Nat → Bool} {held : Bool} {r : Reach} {v : Value} {d : DataW H} {p : List MemPlace} (hv : Value.okWide Tryd.prog W r b0 25 v) (h : DataW.Trod enc Tryd.prog W base spare held 25 v d p) :
    ∃ (s : ByteArray) (at_ line col n ar : Int) (rest : List (DataW H)), v = .agg #[.string s, .int .i64 at_, .int .i64 line, .int .i64 col, .int .i64 n, .int .i64 ar] ∧ d = .agg (.lit (.string s.data.toList) :: rest) := by
  obtain ⟨cs, rfl, hsz⟩ := okWide_struct Tryd.underlying25 hv
  obtain ⟨c0, c1, c2, c3, c4, c5, rfl⟩ := array6 (hsz.trans cells25)
  obtain ⟨fuel, hf⟩ := h
  obtain ⟨xs, m, _, hx, _, hlen, hfs⟩ := DataW.trod_struct Tryd.underlying25 hf
  obtain ⟨y0, y1, y2, y3, y4, rfl⟩ := list5 hlen
  have f0 : DataW.trod enc Tryd.prog W base spare held m 9 [c0] = some y0 := by have := hfs 0 _ rfl; simpa [Value.cells, cells9] using this
  have f1 : DataW.trod enc Tryd.prog W base spare held m 3 [c1] = some y1 := by have := hfs 1 _ rfl; simpa [Value.cells, cells3] using this
  have f2 : DataW.trod enc Tryd.prog W base spare held m 23 [c2, c3] = some y2 := by have := hfs 2 _ rfl; simpa [Value.cells, cells23] using this
  have f3 : DataW.trod enc Tryd.prog W base spare held m 3 [c4] = some y3 := by have := hfs 3 _ rfl; simpa [Value.cells, cells3] using this
  have f4 : DataW.trod enc Tryd.prog W base spare held m 3 [c5] = some y4 := by have := hfs 4 _ rfl; simpa [Value.cells, cells3] using this
  obtain ⟨s, e0, rfl, _⟩ := DataW.trod_string Tryd.underlying9 f0
  obtain ⟨a1, e1, _, _⟩ := DataW.trod_int Tryd.underlying3 f1
  obtain ⟨zs, m2, _, _, _, hlen2, hgs⟩ := DataW.trod_struct Tryd.underlying23 f2
  obtain ⟨z0, z1, rfl⟩ := list2 hlen2
  have g0 : DataW.trod enc Tryd.prog W base spare held m2 3 [c2] = some z0 := by have := hgs 0 _ rfl; simpa [cells3] using this
  have g1 : DataW.trod enc Tryd.prog W base spare held m2 3 [c3] = some z1 := by have := hgs 1 _ rfl; simpa [cells3] using this
  obtain ⟨a2, e2, _, _⟩ := DataW.trod_int Tryd.underlying3 g0
  obtain ⟨a3, e3, _, _⟩ := DataW.trod_int Tryd.underlying3 g1
  obtain ⟨a4, e4, _, _⟩ := DataW.trod_int Tryd.underlying3 f3
  obtain ⟨a5, e5, _, _⟩ := DataW.trod_int Tryd.underlying3 f4
  simp at e0 e1 e2 e3 e4 e5
  subst e0 e1 e2 e3 e4 e5
  simp only [Prod.mk.injEq] at hx
  exact ⟨s, a1, a2, a3, a4, a5, _, rfl, hx.1⟩

theorem spot_sized {H : Type} {ds : List (DataW H)} {ts : List TypeId} {bytes : List UInt8} {rest : List (DataW H)} (h : (DataW.weightsEach Tryd.prog ts ds).all (· ≤ reachBytes) = true) (ht : ts[0]? = some 25) (hd : ds[0]? = some (.agg (.lit (.string bytes) :: rest))) : bytes.length ≤ reachBytes := by
  have := List.all_eq_true.1 h _ (DataW.weights_mem_each ht hd bytes.length (by simp [DataW.weights, Tryd.underlying25, DataW.weightsEach]))
  simpa using this

theorem reach_le : reachBytes ≤ 140737488355328 := by decide

end Go.Proofs.YtgncoeihlfcaiaaDoor
