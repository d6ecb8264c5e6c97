import Derived.Test.YtfghajokmmlijaaDoorValid
import Derived.RangeFuncOwn
import Derived.Laws.Cover1
import Derived.RangeFuncRecord
namespace Go.Proofs.YtfghajokmmlijaaDoor
open Go.RowKit

/-- A value in memory, that may be written. -/
def Box3 (W : World) (B : Nat) (k n : Int) (s : ByteArray) : Prop :=
  ((W.cell? ⟨B, 0, none⟩ = some (.int .i64 k) ∧ W.frozen? ⟨B, 0, none⟩ = false) ∧ (W.cell? ⟨B, 1, none⟩ = some (.int .i64 n) ∧ W.frozen? ⟨B, 1, none⟩ = false)) ∧ (W.cell? ⟨B, 2, none⟩ = some (.string s) ∧ W.frozen? ⟨B, 2, none⟩ = false)
theorem Box3.new (W : World) (k n : Int) (s : ByteArray) (t : TypeId) : Box3 (W.alloc (.cells #[.int .i64 k, .int .i64 n, .string s] t)) W.heap.size k n s := by
  have h := World.alloc_heap_new W (.cells #[.int .i64 k, .int .i64 n, .string s] t)
  refine ⟨⟨⟨?_, ?_⟩, ?_, ?_⟩, ?_, ?_⟩
  all_goals first | (unfold World.cell?; rw [h]; rfl) | (unfold World.frozen?; rw [h]; rfl)
theorem Box3.below {W W' : World} {B D : Nat} {k n : Int} {s : ByteArray} (h : Box3 W B k n s) (hb : Below D W W') (hB : B < D) : Box3 W' B k n s :=
  ⟨⟨⟨(hb.cell (p := ⟨B, 0, none⟩) hB).trans h.1.1.1, (hb.frozen (p := ⟨B, 0, none⟩) hB).trans h.1.1.2⟩, ⟨(hb.cell (p := ⟨B, 1, none⟩) hB).trans h.1.2.1, (hb.frozen (p := ⟨B, 1, none⟩) hB).trans h.1.2.2⟩⟩, (hb.cell (p := ⟨B, 2, none⟩) hB).trans h.2.1, (hb.frozen (p := ⟨B, 2, none⟩) hB).trans h.2.2⟩
theorem cell_alloc_l {W : World} {a : Addr} {v : Value} (o : Obj) (h : W.cell? a = some v) : (W.alloc o).cell? a = some v := cell_kept h (World.grownBy_alloc W o none) (fun r e => by cases e)
theorem frozen_alloc_l {W : World} {a : Addr} {v : Value} (o : Obj) (h : W.cell? a = some v) (hf : W.frozen? a = false) : (W.alloc o).frozen? a = false := (frozen_kept h (World.grownBy_alloc W o none) (fun r e => by cases e)).trans hf
theorem Box3.alloc {W : World} {B : Nat} {k n : Int} {s : ByteArray} (h : Box3 W B k n s) (o : Obj) : Box3 (W.alloc o) B k n s :=
  ⟨⟨⟨cell_alloc_l o h.1.1.1, frozen_alloc_l o h.1.1.1 h.1.1.2⟩, ⟨cell_alloc_l o h.1.2.1, frozen_alloc_l o h.1.2.1 h.1.2.2⟩⟩, cell_alloc_l o h.2.1, frozen_alloc_l o h.2.1 h.2.2⟩
/-- A value stored. -/
def put3 (W : World) (B : Nat) (k n : Int) (s : ByteArray) : World := ((W.setCell ⟨B, 0, none⟩ (.int .i64 k)).setCell ⟨B, 1, none⟩ (.int .i64 n)).setCell ⟨B, 2, none⟩ (.string s)
theorem Box3.put {W : World} {B : Nat} {k n : Int} {s : ByteArray} (h : Box3 W B k n s) (k' n' : Int) (s' : ByteArray) : Box3 (put3 W B k' n' s') B k' n' s' := by
  obtain ⟨⟨⟨h0, f0⟩, ⟨h1, f1⟩⟩, h2, f2⟩ := h
  have e1 : (W.setCell ⟨B, 0, none⟩ (.int .i64 k')).cell? ⟨B, 1, none⟩ = some (.int .i64 n) := by rw [World.cell?_setCell_other _ _ _ _ (by simp)]; exact h1
  have e2 : ((W.setCell ⟨B, 0, none⟩ (.int .i64 k')).setCell ⟨B, 1, none⟩ (.int .i64 n')).cell? ⟨B, 2, none⟩ = some (.string s) := by
    rw [World.cell?_setCell_other _ _ _ _ (by simp), World.cell?_setCell_other _ _ _ _ (by simp)]; exact h2
  unfold put3
  refine ⟨⟨⟨?_, ?_⟩, ?_, ?_⟩, ?_, ?_⟩
  · rw [World.cell?_setCell_other _ _ _ _ (by simp), World.cell?_setCell_other _ _ _ _ (by simp)]
    exact World.cell?_setCell_same' _ _ _ (by rw [h0]; rfl)
  · rw [World.frozen?_setCell, World.frozen?_setCell, World.frozen?_setCell]; exact f0
  · rw [World.cell?_setCell_other _ _ _ _ (by simp)]
    exact World.cell?_setCell_same' _ _ _ (by rw [e1]; rfl)
  · rw [World.frozen?_setCell, World.frozen?_setCell, World.frozen?_setCell]; exact f1
  · exact World.cell?_setCell_same' _ _ _ (by rw [e2]; rfl)
  · rw [World.frozen?_setCell, World.frozen?_setCell, World.frozen?_setCell]; exact f2
theorem below_put3 {W W0 : World} {B D : Nat} (h : Below D W0 W) (hB : D ≤ B) (k n : Int) (s : ByteArray) : Below D W0 (put3 W B k n s) :=
  ((h.setCell (p := ⟨B, 0, none⟩) hB _).setCell (p := ⟨B, 1, none⟩) hB _).setCell (p := ⟨B, 2, none⟩) hB _

set_option maxHeartbeats 400000 in
theorem nanI_any (a : Int) (w : World) : Calls Tryd.prog 62 #[.int .i64 a] w fun e w' => e = .returned (.bool false) ∧ w' = w := by
  go_enter Tryd.func62, Tryd.ntmps62
  go_wp2
  go_ret
  exact ⟨by simp, rfl⟩
set_option maxHeartbeats 400000 in
theorem nanT_any (a : ByteArray) (w : World) : Calls Tryd.prog 63 #[.string a] w fun e w' => e = .returned (.bool false) ∧ w' = w := by
  go_enter Tryd.func63, Tryd.ntmps63
  go_wp2
  go_ret
  exact ⟨by simp, rfl⟩

set_option maxHeartbeats 400000 in
theorem cmpI_any (a b : Int) (w : World) : Calls Tryd.prog 54 #[.int .i64 a, .int .i64 b] w fun e w' => e = .returned (.int .i64 (cmpI a b)) ∧ w' = w := by
  unfold cmpI
  by_cases h1 : a < b
  · rw [if_pos h1]
    go_enter Tryd.func54, Tryd.ntmps54
    go_wp2_with (first | (go_at_call 62; refine (nanI_any _ _).mono ?_; rintro e _ ⟨rfl, rfl⟩) | go_in)
    go_ret
    exact ⟨rfl, rfl⟩
  rw [if_neg h1]
  by_cases h2 : a = b
  · subst h2
    rw [if_pos rfl]
    have h3 : ¬ a > a := by omega
    go_enter Tryd.func54, Tryd.ntmps54
    go_wp2_with (first | (go_at_call 62; refine (nanI_any _ _).mono ?_; rintro e _ ⟨rfl, rfl⟩) | go_in)
    go_ret
    exact ⟨rfl, rfl⟩
  · rw [if_neg h2]
    have h3 : b < a := by omega
    go_enter Tryd.func54, Tryd.ntmps54
    go_wp2_with (first | (go_at_call 62; refine (nanI_any _ _).mono ?_; rintro e _ ⟨rfl, rfl⟩) | go_in)
    go_ret
    exact ⟨rfl, rfl⟩

set_option maxHeartbeats 400000 in
theorem cmpT_any (a b : ByteArray) (w : World) : Calls Tryd.prog 55 #[.string a, .string b] w fun e w' => e = .returned (.int .i64 (cmpT a b)) ∧ w' = w := by
  unfold cmpT
  by_cases h1 : Op.bytesLess a.toList b.toList = true
  · rw [if_pos h1]
    go_enter Tryd.func55, Tryd.ntmps55
    go_wp2_with (first | (go_at_call 63; refine (nanT_any _ _).mono ?_; rintro e _ ⟨rfl, rfl⟩) | go_in)
    go_ret
    exact ⟨rfl, rfl⟩
  rw [if_neg h1]
  have h1' : Op.bytesLess a.toList b.toList = false := by simpa using h1
  clear h1
  by_cases h2 : a.toList = b.toList
  · rw [if_pos h2]
    have h3 : a = b := ByteArray.ext (by rw [ByteArray.toList_eq, ByteArray.toList_eq] at h2; exact Array.toList_inj.1 h2)
    clear h2
    subst h3
    go_enter Tryd.func55, Tryd.ntmps55
    go_wp2_with (first | (go_at_call 63; refine (nanT_any _ _).mono ?_; rintro e _ ⟨rfl, rfl⟩) | go_in)
    go_ret
    exact ⟨rfl, rfl⟩
  · rw [if_neg h2]
    have h3 : (a.toList == b.toList) = false := by simpa using h2
    go_enter Tryd.func55, Tryd.ntmps55
    go_wp2_with (first | (go_at_call 63; refine (nanT_any _ _).mono ?_; rintro e _ ⟨rfl, rfl⟩) | go_in)
    go_ret
    exact ⟨rfl, rfl⟩
end Go.Proofs.YtfghajokmmlijaaDoor
