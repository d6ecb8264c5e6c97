import Derived.Test.YtcjnejdemfemfaaGreatDoorCTb
namespace Go.Proofs.YtcjnejdemfemfaaGreatDoor
open Go.RowKit

theorem lz_small : Small lz := ⟨by decide, by decide, by decide, fun e he => by obtain rfl := List.mem_singleton.1 he; exact ⟨by decide, by decide⟩, fun t ht => by cases ht⟩
theorem lz_dec : decC (encS lz) = lz ∧ decE (encS lz) = 0 := by
  have := dec_enc (c := lz) lz_valid
  unfold decC decE
  rw [this]
  exact ⟨rfl, rfl⟩
theorem lz_asmC : asmC (printS lz) = lz ∧ asmE (printS lz) = 0 ∧ asmN (printS lz) = 0 := by
  unfold asmC asmE asmN
  rw [lz_asm]
  exact ⟨rfl, rfl, rfl⟩

/-- A code of these lengths in a box. -/
structure B1 (W : World) (p : Nat) (iq eq tq : Option Addr) (ia ea ta : Nat) (c : Cd) : Prop where
  b : W.heap[p]? = some (.cells #[.slice iq 1 ia, .slice eq 1 ea, .slice tq 0 ta, .int .i64 0] 26)
  m : ∃ Es, CodeM W W.heap.size iq eq tq Es c
theorem B1.next {W W' : World} {p : Nat} {iq eq tq : Option Addr} {ia ea ta : Nat} {c : Cd} (h : B1 W p iq eq tq ia ea ta c) (k : Below W.heap.size W W') : B1 W' p iq eq tq ia ea ta c := by
  obtain ⟨hb, Es, hm⟩ := h
  exact ⟨(k.block _ (Array.getElem?_eq_some_iff.1 hb).1).trans hb, Es, (hm.below k (Nat.le_refl _)).up k.size⟩
theorem B1.new {W : World} {iq eq tq : Option Addr} (ia ea ta : Nat) {c : Cd} (h : ∃ Es, CodeM W W.heap.size iq eq tq Es c) : B1 (W.alloc (.cells #[.slice iq 1 ia, .slice eq 1 ea, .slice tq 0 ta, .int .i64 0] 26)) W.heap.size iq eq tq ia ea ta c := by
  obtain ⟨Es, h⟩ := h
  exact ⟨World.alloc_heap_new W _, Es, (h.below ((Below.refl _ W).alloc (Nat.le_refl _) _) (Nat.le_refl _)).up (by simp)⟩
/-- Its cells. -/
theorem B1.cs {W : World} {p : Nat} {iq eq tq : Option Addr} {ia ea ta : Nat} {c : Cd} (h : B1 W p iq eq tq ia ea ta c) : W.cell? ⟨p, 0, none⟩ = some (.slice iq 1 ia) ∧ W.cell? ⟨p, 1, none⟩ = some (.slice eq 1 ea) ∧ W.cell? ⟨p, 2, none⟩ = some (.slice tq 0 ta) ∧ W.cell? ⟨p, 3, none⟩ = some (.int .i64 0) :=
  ⟨(blk_cell h.b 0 _ rfl).1, (blk_cell h.b 1 _ rfl).1, (blk_cell h.b 2 _ rfl).1, (blk_cell h.b 3 _ rfl).1⟩
end Go.Proofs.YtcjnejdemfemfaaGreatDoor

