import Derived.Test.YtcjnejdemfemfaaGreatDoorCTc
import Derived.Test.YtcjnejdemfemfaaGreatDoorCX1
namespace Go.Proofs.YtcjnejdemfemfaaGreatDoor
open Go.RowKit

theorem ok_small {c : Cd} (h : CodeOk c) : Small c :=
  ⟨h.el, h.il, h.tl, fun e he => by
    have k := ent_ok.1 (h.es e he)
    have := (name_len k.nm).2
    have e1 : e.name.size = e.name.data.toList.length := (Array.length_toList (xs := e.name.data)).symm
    exact ⟨by omega, k.sl⟩, fun t ht => Nat.le_trans (h.ts t ht) (by decide)⟩
theorem cz_small : Small cz := ⟨by decide, by decide, by decide, (fun _ h => by cases h), (fun _ h => by cases h)⟩
/-- What Decode and Assemble answer, told by cases. -/
theorem dec_cases (s : ByteArray) : (decE s.data.toList = 0 ∧ validS (decC s.data.toList) = 0 ∧ YtcjnejdemfemfaaGreatDoor.bk (encS (decC s.data.toList)) = s) ∨ decE s.data.toList = 130 := by
  cases h : decS s.data.toList with
  | none => exact .inr (by unfold decE; rw [h]; rfl)
  | some c =>
    obtain ⟨h1, h2⟩ := enc_dec h
    have hc : decC s.data.toList = c := by unfold decC; rw [h]; rfl
    refine .inl ⟨by unfold decE; rw [h]; rfl, ?_, ?_⟩
    · rw [hc]; exact h2
    · rw [hc, h1]; exact bk_all s
theorem asm_cases (l : Bs) : (asmE l = 0 ∧ asmN l = 0 ∧ validS (asmC l) = 0 ∧ Small (asmC l) ∧ asmS l = .inl (asmC l)) ∨ (asmE l = 131 ∧ 1 ≤ asmN l ∧ Small (asmC l) ∧ ∃ n : Nat, asmN l = (n : Int) ∧ asmS l = .inr n) := by
  cases h : asmS l with
  | inl c =>
    have hk := asm_only h
    have hc : asmC l = c := by unfold asmC; rw [h]
    refine .inl ⟨by unfold asmE; rw [h], by unfold asmN; rw [h], ?_, ?_, by rw [hc]⟩
    · rw [hc]; exact code_ok.2 hk
    · rw [hc]; exact ok_small hk
  | inr n =>
    have hk := asm_pos h
    have hc : asmC l = cz := by unfold asmC; rw [h]
    have hn : asmN l = (n : Int) := by unfold asmN; rw [h]
    refine .inr ⟨by unfold asmE; rw [h], by rw [hn]; omega, by rw [hc]; exact cz_small, n, hn, rfl⟩
abbrev aggC (iq eq tq : Option Addr) (ia ea ta : Nat) (c : Cd) : Value := .agg #[.slice iq c.ins.length ia, .slice eq c.ens.length ea, .slice tq c.txs.length ta, .int .i64 c.main]
/-- A code in a box. -/
structure Bx (W : World) (p : Nat) (iq eq tq : Option Addr) (ia ea ta : Nat) (c : Cd) : Prop where
  b : W.heap[p]? = some (.cells #[.slice iq c.ins.length ia, .slice eq c.ens.length ea, .slice tq c.txs.length ta, .int .i64 c.main] 26)
  m : ∃ Es, CodeM W W.heap.size iq eq tq Es c
theorem Bx.next {W W' : World} {p : Nat} {iq eq tq : Option Addr} {ia ea ta : Nat} {c : Cd} (h : Bx W p iq eq tq ia ea ta c) (k : Below W.heap.size W W') : Bx W' p iq eq tq ia ea ta c := by
  obtain ⟨hb, Es, hm⟩ := h
  exact ⟨(k.block _ (Array.getElem?_eq_some_iff.1 hb).1).trans hb, Es, (hm.below k (Nat.le_refl _)).up k.size⟩
theorem Bx.new {W : World} {iq eq tq : Option Addr} (ia ea ta : Nat) {c : Cd} (h : ∃ Es, CodeM W W.heap.size iq eq tq Es c) : Bx (W.alloc (.cells #[.slice iq c.ins.length ia, .slice eq c.ens.length ea, .slice tq c.txs.length ta, .int .i64 c.main] 26)) W.heap.size iq eq tq ia ea ta c := by
  obtain ⟨Es, h⟩ := h
  exact ⟨World.alloc_heap_new W _, Es, (h.below ((Below.refl _ W).alloc (Nat.le_refl _) _) (Nat.le_refl _)).up (by simp)⟩
theorem Bx.cs {W : World} {p : Nat} {iq eq tq : Option Addr} {ia ea ta : Nat} {c : Cd} (h : Bx W p iq eq tq ia ea ta c) : W.cell? ⟨p, 0, none⟩ = some (.slice iq c.ins.length ia) ∧ W.cell? ⟨p, 1, none⟩ = some (.slice eq c.ens.length ea) ∧ W.cell? ⟨p, 2, none⟩ = some (.slice tq c.txs.length ta) ∧ W.cell? ⟨p, 3, none⟩ = some (.int .i64 c.main) :=
  ⟨(blk_cell h.b 0 _ rfl).1, (blk_cell h.b 1 _ rfl).1, (blk_cell h.b 2 _ rfl).1, (blk_cell h.b 3 _ rfl).1⟩
end Go.Proofs.YtcjnejdemfemfaaGreatDoor

