import Derived.Test.YtlocaalipjjnpaaDoorProg
import Derived.WalkKit
import Derived.Below
import Derived.BigGuard
import Derived.Test.YtlocaalipjjnpaaDoorN00
namespace Go.Proofs.YtlocaalipjjnpaaDoor
open Go.RowKit

def shpV (s : Shp) : Array Value := #[.int .i64 s.label, .int .i64 s.name, .int .i64 s.typ, .int .i64 s.leastInt, .int .i64 s.mostInt, .int .i64 s.firstOp, .int .i64 s.lastOp, .int .i64 s.longest, .int .i64 s.fewest, .int .i64 s.most]

set_option maxRecDepth 100000 in
set_option maxHeartbeats 4000000 in
theorem shapeOf_any (k : Int) (w : World) : Calls Tryd.prog 74 #[.int .i64 k] w fun e w' => e = .returned (.tuple #[.agg (shpV (shp k).1), .bool (shp k).2]) ∧ Below w.heap.size w w' := by
  obtain ⟨r, hr⟩ : ∃ r, shp k = r := ⟨_, rfl⟩
  have HR : Hid (shp k = r) := hr
  rw [hr]
  clear hr
  go_enter Tryd.func74, Tryd.ntmps74
  go_wp2
  all_goals rw [← HR.out]
  all_goals first
    | (obtain rfl := eq_of_beq (by assumption : (k == _) = true)
       exact bodyPost_ret (v := .tuple #[.agg (shpV (shp _).1), .bool (shp _).2]) (by simp [results, Tryd.results74, go_sem, shp, shpV, nilShp]) rfl ⟨rfl, (Below.refl _ w).alloc (Nat.le_refl _) _⟩)
    | (have e : shp k = (nilShp, false) := by (simp only [beq_eq_false_iff_ne] at *; unfold shp; simp [*])
       rw [e]
       exact bodyPost_ret (v := .tuple #[.agg (shpV nilShp), .bool false]) (by simp [results, Tryd.results74, go_sem, shpV, nilShp]) rfl ⟨rfl, (Below.refl _ w).alloc (Nat.le_refl _) _⟩)
end Go.Proofs.YtlocaalipjjnpaaDoor
