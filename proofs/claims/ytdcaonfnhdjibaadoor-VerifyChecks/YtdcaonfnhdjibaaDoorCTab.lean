import Derived.Test.YtdcaonfnhdjibaaDoorCMem
import Derived.Lib.LaidTab
import Derived.Lib.ItoaLen
namespace Go.Proofs.YtdcaonfnhdjibaaDoor
open Go.RowKit

/-- What the package's tables hold. -/
structure Tabs (w : World) : Prop where
  ins : ∀ k, k < 24 → w.cell? ⟨0, k * 3, none⟩ = some (.string (wdT.getD k e0)) ∧ w.cell? ⟨0, k * 3 + 1, none⟩ = some (.int .i64 ((opA.getD k 0 : Nat) : Int)) ∧ w.cell? ⟨0, k * 3 + 2, none⟩ = some (.int .i64 ((opB.getD k 0 : Nat) : Int))
  shp : ∀ k, k < 13 → w.cell? ⟨2, k * 3, none⟩ = some (.int .i64 (shLo.getD k 0)) ∧ w.cell? ⟨2, k * 3 + 1, none⟩ = some (.int .i64 (shHi.getD k 0)) ∧ w.cell? ⟨2, k * 3 + 2, none⟩ = some (.int .i64 ((shWd.getD k 0 : Nat) : Int))
  typ : ∀ k, k < 20 → w.cell? ⟨1, k, none⟩ = some (.string (tyT.getD k e0))
  size : 3 ≤ w.heap.size
theorem var_blw {P : Program} {W W' : World} {n : String} {cs : Array Value} {g B : Nat} (hg : P.globalNamed n = some g) (h : W.var? P n = some cs) (hb : Below B W W') (hB : g < B) : W'.var? P n = some cs := by
  unfold World.var? at h ⊢
  simp only [hg, Option.bind_some] at h ⊢
  rw [hb.block g hB]
  exact h
theorem Tabs.below {w w' : World} {B : Nat} (h : Tabs w) (hb : Below B w w') (hB : 3 ≤ B) : Tabs w' := by
  have c : ∀ g o, g < 3 → w'.cell? ⟨g, o, none⟩ = w.cell? ⟨g, o, none⟩ := fun g o hg => hb.cell (p := ⟨g, o, none⟩) (by show g < B; omega)
  refine ⟨fun k hk => ?_, fun k hk => ?_, fun k hk => (c _ _ (by decide)).trans (h.typ k hk), Nat.le_trans h.size hb.size⟩
  · obtain ⟨a, b, d⟩ := h.ins k hk
    exact ⟨(c _ _ (by decide)).trans a, (c _ _ (by decide)).trans b, (c _ _ (by decide)).trans d⟩
  · obtain ⟨a, b, d⟩ := h.shp k hk
    exact ⟨(c _ _ (by decide)).trans a, (c _ _ (by decide)).trans b, (c _ _ (by decide)).trans d⟩
theorem Tabs.next {w w' : World} (h : Tabs w) (hb : Below w.heap.size w w') : Tabs w' := h.below hb h.size
end Go.Proofs.YtdcaonfnhdjibaaDoor
