import Derived.Test.YtekgnogjfggnmaaGreatDoorProg
import Derived.WalkKit
import Derived.BigGuard
import Derived.Test.YtekgnogjfggnmaaGreatDoorN00
namespace Go.Proofs.YtekgnogjfggnmaaGreatDoor
open Go.RowKit
set_option maxRecDepth 100000
set_option maxHeartbeats 4000000
def shpV (s : Shp) : Array Value := #[.int .i64 s.label, .int .i64 s.name, .int .i64 s.typ, .int .i64 s.leastInt, .int .i64 s.mostInt, .int .i64 s.firstOp, .int .i64 s.lastOp, .int .i64 s.longest, .int .i64 s.fewest, .int .i64 s.most]
theorem shapeOf_any (k : Int) (w : World) : Calls Tryz.prog 28 #[.int .i64 k] w fun e w' => e = .returned (.tuple #[.agg (shpV (shp k).1), .bool (shp k).2]) ∧ Below w.heap.size w w' := by
 obtain ⟨r, hr⟩ : ∃ r, shp k = r := ⟨_, rfl⟩
 have HR : Hid (shp k = r) := hr
 rw [hr]
 clear hr
 go_enter Tryz.func28, Tryz.ntmps28
 go_wp2
 all_goals rw [← HR.out]
 all_goals first
  | (obtain rfl := eq_of_beq (by assumption : (k == _) = true)
     exact bodyPost_ret (v := .tuple #[.agg (shpV (shp _).1), .bool (shp _).2]) (by simp [results, Tryz.results28, go_sem, shp, shpV, nilShp]) rfl ⟨rfl, (Below.refl _ w).alloc (Nat.le_refl _) _⟩)
  | (have e : shp k = (nilShp, false) := by (simp only [beq_eq_false_iff_ne] at *; unfold shp; simp [*])
     rw [e]
     exact bodyPost_ret (v := .tuple #[.agg (shpV nilShp), .bool false]) (by simp [results, Tryz.results28, go_sem, shpV, nilShp]) rfl ⟨rfl, (Below.refl _ w).alloc (Nat.le_refl _) _⟩)
end Go.Proofs.YtekgnogjfggnmaaGreatDoor
