import Derived.RangeFuncOwn
import Derived.Laws.Cover1
import Derived.RangeFuncRecord
import Derived.Test.YtichbejmelkjeaaGreatDoorU07
namespace Go.Proofs.YtichbejmelkjeaaGreatDoor.Vs
open Go.RowKit

/-- A value in memory, that may be written. -/
def Box3 (W : World) (B : Nat) (k n : Int) (s : ByteArray) : Prop :=
  ((W.cell? ⟨B, 0, none⟩ = some (.int .i64 k) ∧ W.frozen? ⟨B, 0, none⟩ = false) ∧ (W.cell? ⟨B, 1, none⟩ = some (.int .i64 n) ∧ W.frozen? ⟨B, 1, none⟩ = false)) ∧ (W.cell? ⟨B, 2, none⟩ = some (.string s) ∧ W.frozen? ⟨B, 2, none⟩ = false)
theorem Box3.new (W : World) (k n : Int) (s : ByteArray) (t : TypeId) : Box3 (W.alloc (.cells #[.int .i64 k, .int .i64 n, .string s] t)) W.heap.size k n s := by
  have h := World.alloc_heap_new W (.cells #[.int .i64 k, .int .i64 n, .string s] t)
  refine ⟨⟨⟨?_, ?_⟩, ?_, ?_⟩, ?_, ?_⟩
  all_goals first | (unfold World.cell?; rw [h]; rfl) | (unfold World.frozen?; rw [h]; rfl)
theorem Box3.below {W W' : World} {B D : Nat} {k n : Int} {s : ByteArray} (h : Box3 W B k n s) (hb : Below D W W') (hB : B < D) : Box3 W' B k n s :=
  ⟨⟨⟨(hb.cell (p := ⟨B, 0, none⟩) hB).trans h.1.1.1, (hb.frozen (p := ⟨B, 0, none⟩) hB).trans h.1.1.2⟩, ⟨(hb.cell (p := ⟨B, 1, none⟩) hB).trans h.1.2.1, (hb.frozen (p := ⟨B, 1, none⟩) hB).trans h.1.2.2⟩⟩, (hb.cell (p := ⟨B, 2, none⟩) hB).trans h.2.1, (hb.frozen (p := ⟨B, 2, none⟩) hB).trans h.2.2⟩
theorem cell_alloc_l {W : World} {a : Addr} {v : Value} (o : Obj) (h : W.cell? a = some v) : (W.alloc o).cell? a = some v := cell_kept h (World.grownBy_alloc W o none) (fun r e => by cases e)
theorem frozen_alloc_l {W : World} {a : Addr} {v : Value} (o : Obj) (h : W.cell? a = some v) (hf : W.frozen? a = false) : (W.alloc o).frozen? a = false := (frozen_kept h (World.grownBy_alloc W o none) (fun r e => by cases e)).trans hf
theorem Box3.alloc {W : World} {B : Nat} {k n : Int} {s : ByteArray} (h : Box3 W B k n s) (o : Obj) : Box3 (W.alloc o) B k n s :=
  ⟨⟨⟨cell_alloc_l o h.1.1.1, frozen_alloc_l o h.1.1.1 h.1.1.2⟩, ⟨cell_alloc_l o h.1.2.1, frozen_alloc_l o h.1.2.1 h.1.2.2⟩⟩, cell_alloc_l o h.2.1, frozen_alloc_l o h.2.1 h.2.2⟩
/-- A value stored. -/
def put3 (W : World) (B : Nat) (k n : Int) (s : ByteArray) : World := ((W.setCell ⟨B, 0, none⟩ (.int .i64 k)).setCell ⟨B, 1, none⟩ (.int .i64 n)).setCell ⟨B, 2, none⟩ (.string s)
theorem Box3.put {W : World} {B : Nat} {k n : Int} {s : ByteArray} (h : Box3 W B k n s) (k' n' : Int) (s' : ByteArray) : Box3 (put3 W B k' n' s') B k' n' s' := by
  obtain ⟨⟨⟨h0, f0⟩, ⟨h1, f1⟩⟩, h2, f2⟩ := h
  have e1 : (W.setCell ⟨B, 0, none⟩ (.int .i64 k')).cell? ⟨B, 1, none⟩ = some (.int .i64 n) := by rw [World.cell?_setCell_other _ _ _ _ (by simp)]; exact h1
  have e2 : ((W.setCell ⟨B, 0, none⟩ (.int .i64 k')).setCell ⟨B, 1, none⟩ (.int .i64 n')).cell? ⟨B, 2, none⟩ = some (.string s) := by
    rw [World.cell?_setCell_other _ _ _ _ (by simp), World.cell?_setCell_other _ _ _ _ (by simp)]; exact h2
  unfold put3
  refine ⟨⟨⟨?_, ?_⟩, ?_, ?_⟩, ?_, ?_⟩
  · rw [World.cell?_setCell_other _ _ _ _ (by simp), World.cell?_setCell_other _ _ _ _ (by simp)]
    exact World.cell?_setCell_same' _ _ _ (by rw [h0]; rfl)
  · rw [World.frozen?_setCell, World.frozen?_setCell, World.frozen?_setCell]; exact f0
  · rw [World.cell?_setCell_other _ _ _ _ (by simp)]
    exact World.cell?_setCell_same' _ _ _ (by rw [e1]; rfl)
  · rw [World.frozen?_setCell, World.frozen?_setCell, World.frozen?_setCell]; exact f1
  · exact World.cell?_setCell_same' _ _ _ (by rw [e2]; rfl)
  · rw [World.frozen?_setCell, World.frozen?_setCell, World.frozen?_setCell]; exact f2
theorem below_put3 {W W0 : World} {B D : Nat} (h : Below D W0 W) (hB : D ≤ B) (k n : Int) (s : ByteArray) : Below D W0 (put3 W B k n s) :=
  ((h.setCell (p := ⟨B, 0, none⟩) hB _).setCell (p := ⟨B, 1, none⟩) hB _).setCell (p := ⟨B, 2, none⟩) hB _

end Go.Proofs.YtichbejmelkjeaaGreatDoor.Vs
