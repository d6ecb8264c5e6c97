import Derived.Test.YtlahcmhjnhangabDoorSpec
import Derived.Test.YtlahcmhjnhangabDoorShelf
import Derived.Test.YtlahcmhjnhangabDoorKw
namespace Go.Proofs.YtlahcmhjnhangabDoor
open Go.RowKit

def sgCells : List Value := sgs.map fun s => Value.string s
theorem sgInfo : (Tryd.prog.info? 50).map (·.size) = some sgCells.length := by kernel_rfl
def sgAgg : Value := .agg sgCells.toArray
theorem sg_idx (k : Nat) (hk : k < 25) : ∀ w : World, (Instr.index 50 sgAgg (.int .i64 (k : Int))).run Tryd.prog w = .ok (.string (sgs.getD k ByteArray.empty)) w := by
  have h : k = 0 ∨ k = 1 ∨ k = 2 ∨ k = 3 ∨ k = 4 ∨ k = 5 ∨ k = 6 ∨ k = 7 ∨ k = 8 ∨ k = 9 ∨ k = 10 ∨ k = 11 ∨ k = 12 ∨ k = 13 ∨ k = 14 ∨ k = 15 ∨ k = 16 ∨ k = 17 ∨ k = 18 ∨ k = 19 ∨ k = 20 ∨ k = 21 ∨ k = 22 ∨ k = 23 ∨ k = 24 := by omega
  rcases h with rfl | rfl | rfl | rfl | rfl | rfl | rfl | rfl | rfl | rfl | rfl | rfl | rfl | rfl | rfl | rfl | rfl | rfl | rfl | rfl | rfl | rfl | rfl | rfl | rfl
  all_goals exact fun w => by kernel_rfl

/-- What the calls find in the package's tables. -/
structure Tabs (w : World) : Prop where
  kw : w.rangeAt 1 0 kwCells
  sg : w.rangeAt 0 0 sgCells
  e6 : ∃ te pe, w.cell? ⟨5, 0, none⟩ = some (.iface te pe)
  e7 : ∃ te pe, w.cell? ⟨6, 0, none⟩ = some (.iface te pe)
theorem Tabs.size {w : World} (h : Tabs w) : 7 ≤ w.heap.size := by
  obtain ⟨_, _, h7⟩ := h.e7
  exact World.block_lt_of_cell? w _ h7
theorem Tabs.below {w w' : World} {B : Nat} (h : Tabs w) (hb : Below B w w') (hB : 7 ≤ B) : Tabs w' := by
  obtain ⟨t6, p6, h6⟩ := h.e6
  obtain ⟨t7, p7, h7⟩ := h.e7
  exact ⟨fun j v hv => (hb.cell (p := ⟨1, 0 + j, none⟩) (by show 1 < B; omega)).trans (h.kw j v hv), fun j v hv => (hb.cell (p := ⟨0, 0 + j, none⟩) (by show 0 < B; omega)).trans (h.sg j v hv),
    ⟨t6, p6, (hb.cell (p := ⟨5, 0, none⟩) (by show 5 < B; omega)).trans h6⟩, ⟨t7, p7, (hb.cell (p := ⟨6, 0, none⟩) (by show 6 < B; omega)).trans h7⟩⟩
theorem Tabs.next {w w' : World} (h : Tabs w) (hb : Below w.heap.size w w') : Tabs w' := h.below hb h.size

/-- The five cells of a token that is being made. -/
structure Five (w : World) (B : Nat) (a b c d e : Value) : Prop where
  c0 : w.cell? ⟨B, 0, none⟩ = some a
  c1 : w.cell? ⟨B, 1, none⟩ = some b
  c2 : w.cell? ⟨B, 2, none⟩ = some c
  c3 : w.cell? ⟨B, 3, none⟩ = some d
  c4 : w.cell? ⟨B, 4, none⟩ = some e
  f : ∀ j, j < 5 → w.frozen? ⟨B, j, none⟩ = false
theorem five_new (w : World) (a b c d e : Value) (t : TypeId) : Five (w.alloc (.cells #[a, b, c, d, e] t)) w.heap.size a b c d e := by
  have h := heap_alloc_new w (.cells #[a, b, c, d, e] t)
  refine ⟨?_, ?_, ?_, ?_, ?_, ?_⟩
  all_goals first | (simp only [World.cell?, h]; rfl) | skip
  intro j hj
  simp only [World.frozen?, h]
  simp
theorem Five.below {w w' : World} {B C : Nat} {a b c d e : Value} (h : Five w B a b c d e) (hb : Below C w w') (hB : B < C) : Five w' B a b c d e :=
  ⟨(hb.cell hB).trans h.c0, (hb.cell hB).trans h.c1, (hb.cell hB).trans h.c2, (hb.cell hB).trans h.c3, (hb.cell hB).trans h.c4, fun j hj => (hb.frozen hB).trans (h.f j hj)⟩

set_option maxHeartbeats 400000 in
theorem clone_any (s : ByteArray) (w : World) (hs : s.size ≤ 281474976710656) : Calls Tryd.prog 8 #[.string s] w fun e w' => e = .returned (.string s) ∧ Below w.heap.size w w' := by
  go_enter Tryd.func8, Tryd.ntmps8
  go_wp2_with (go_at_call 19; refine (Tryd.stringslite_Clone s w hs).mono ?_; rintro e w1 ⟨rfl, hb1⟩)
  go_ret
  exact ⟨rfl, hb1⟩

theorem ix_cmt (l : List UInt8) : (0 ≤ Lib.indexByte l 10 → (Lib.indexByte l 10) = (cmtS l : Int)) ∧ (¬ 0 ≤ Lib.indexByte l 10 → cmtS l = l.length) := by
  induction l with
  | nil => simp [Lib.indexByte, cmtS]
  | cons c l ih =>
    have hge := Lib.indexByte_ge l 10
    unfold Lib.indexByte cmtS
    by_cases hc : c = 10
    · subst hc; simp
    · have h1 : (c == 10) = false := by simpa using hc
      have h2 : (c != 10) = true := by simpa using hc
      rw [h1, List.takeWhile_cons, if_pos h2]
      by_cases hm : Lib.indexByte l 10 = -1
      · rw [hm] at ih ⊢
        have := ih.2 (by decide)
        unfold cmtS at this
        simp [this]
      · have h3 : (Lib.indexByte l 10 == -1) = false := by simpa using hm
        have := ih.1 (by omega)
        unfold cmtS at this
        simp only [h3, List.length_cons]
        refine ⟨fun _ => ?_, fun h => ?_⟩
        · simp; omega
        · simp at h; omega
theorem cmt_le (l : List UInt8) : cmtS l ≤ l.length := by unfold cmtS; exact (List.takeWhile_sublist _).length_le

end Go.Proofs.YtlahcmhjnhangabDoor
