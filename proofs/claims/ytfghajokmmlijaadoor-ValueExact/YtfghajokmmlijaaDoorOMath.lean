import Derived.Test.YtfghajokmmlijaaDoorMath
namespace Go.Proofs.YtfghajokmmlijaaDoor
open Go.RowKit

theorem less_cons (a b : UInt8) (x y : List UInt8) : Op.bytesLess (a :: x) (b :: y) = true ↔ a.toNat < b.toNat ∨ (a = b ∧ Op.bytesLess x y = true) := by
  rw [Op.bytesLess]
  simp [UInt8.lt_iff_toNat_lt]
theorem less_irrefl : ∀ l : List UInt8, Op.bytesLess l l = false
  | [] => rfl
  | a :: x => by
    have := less_irrefl x
    cases h : Op.bytesLess (a :: x) (a :: x) with
    | false => rfl
    | true => rcases (less_cons a a x x).1 h with h | h
              · omega
              · rw [this] at h; exact absurd h.2 (by simp)
theorem less_tri : ∀ x y : List UInt8, Op.bytesLess x y = true ∨ x = y ∨ Op.bytesLess y x = true
  | [], [] => .inr (.inl rfl)
  | [], _ :: _ => .inl rfl
  | _ :: _, [] => .inr (.inr rfl)
  | a :: x, b :: y => by
    rcases Nat.lt_trichotomy a.toNat b.toNat with h | h | h
    · exact .inl ((less_cons _ _ _ _).2 (.inl h))
    · have e : a = b := UInt8.toNat_inj.1 h
      rcases less_tri x y with h2 | h2 | h2
      · exact .inl ((less_cons _ _ _ _).2 (.inr ⟨e, h2⟩))
      · exact .inr (.inl (by rw [e, h2]))
      · exact .inr (.inr ((less_cons _ _ _ _).2 (.inr ⟨e.symm, h2⟩)))
    · exact .inr (.inr ((less_cons _ _ _ _).2 (.inl h)))
theorem less_trans : ∀ x y z : List UInt8, Op.bytesLess x y = true → Op.bytesLess y z = true → Op.bytesLess x z = true
  | [], _, [], h, h2 => by
    rename_i y
    cases y with
    | nil => exact h
    | cons a y => exact h2
  | [], _, _ :: _, _, _ => rfl
  | a :: x, [], z, h, _ => by cases h
  | a :: x, b :: y, [], _, h2 => by cases h2
  | a :: x, b :: y, c :: z, h, h2 => by
    rcases (less_cons _ _ _ _).1 h with h | ⟨rfl, h3⟩
    · rcases (less_cons _ _ _ _).1 h2 with h2 | ⟨rfl, h2⟩
      · exact (less_cons _ _ _ _).2 (.inl (by omega))
      · exact (less_cons _ _ _ _).2 (.inl h)
    · rcases (less_cons _ _ _ _).1 h2 with h2 | ⟨rfl, h4⟩
      · exact (less_cons _ _ _ _).2 (.inl h2)
      · exact (less_cons _ _ _ _).2 (.inr ⟨rfl, less_trans x y z h3 h4⟩)
theorem less_asymm {x y : List UInt8} (h : Op.bytesLess x y = true) : Op.bytesLess y x = false := by
  cases h2 : Op.bytesLess y x with
  | false => rfl
  | true => have := less_trans x y x h h2; rw [less_irrefl] at this; exact absurd this (by simp)
theorem less_append (x y : List UInt8) (hy : y ≠ []) : Op.bytesLess x (x ++ y) = true := by
  induction x with
  | nil => cases y with
    | nil => exact absurd rfl hy
    | cons a y => rfl
  | cons a x ih => exact (less_cons _ _ _ _).2 (.inr ⟨rfl, ih⟩)

/-- An order: -1, 0 or 1. -/
structure Ordr {α : Type} (c : α → α → Int) : Prop where
  rng : ∀ a b, c a b = -1 ∨ c a b = 0 ∨ c a b = 1
  anti : ∀ a b, c b a = - c a b
  eq : ∀ a b, c a b = 0 ↔ a = b
  le : ∀ a b d, c a b ≤ 0 → c b d ≤ 0 → c a d ≤ 0
theorem ordI : Ordr cmpI where
  rng a b := by unfold cmpI; split <;> (try split) <;> omega
  anti a b := by unfold cmpI; (repeat' split) <;> omega
  eq a b := by unfold cmpI; (repeat' split) <;> omega
  le a b d := by unfold cmpI; (repeat' split) <;> omega
theorem list_inj {a b : ByteArray} (h : a.toList = b.toList) : a = b := ByteArray.ext (by rw [ByteArray.toList_eq, ByteArray.toList_eq] at h; exact Array.toList_inj.1 h)
theorem cmpT_cases (a b : ByteArray) : (cmpT a b = -1 ∧ Op.bytesLess a.toList b.toList = true) ∨ (cmpT a b = 0 ∧ a = b) ∨ (cmpT a b = 1 ∧ Op.bytesLess b.toList a.toList = true) := by
  unfold cmpT
  rcases less_tri a.toList b.toList with h | h | h
  · exact .inl ⟨by rw [if_pos h], h⟩
  · refine .inr (.inl ⟨?_, list_inj h⟩)
    rw [if_neg (by rw [h, less_irrefl]; simp), if_pos h]
  · refine .inr (.inr ⟨?_, h⟩)
    rw [if_neg (by rw [less_asymm h]; simp), if_neg]
    intro e
    rw [e, less_irrefl] at h
    exact absurd h (by simp)
theorem cmpT_self (a : ByteArray) : cmpT a a = 0 := by
  rcases cmpT_cases a a with h | h | h
  · rw [less_irrefl] at h; exact absurd h.2 (by simp)
  · exact h.1
  · rw [less_irrefl] at h; exact absurd h.2 (by simp)
theorem cmpT_lt {a b : ByteArray} (h : Op.bytesLess a.toList b.toList = true) : cmpT a b = -1 := by unfold cmpT; rw [if_pos h]
theorem cmpT_gt {a b : ByteArray} (h : Op.bytesLess b.toList a.toList = true) : cmpT a b = 1 := by
  rcases cmpT_cases a b with h2 | h2 | h2
  · rw [less_asymm h2.2] at h; exact absurd h (by simp)
  · rw [h2.2, less_irrefl] at h; exact absurd h (by simp)
  · exact h2.1
theorem ordT : Ordr cmpT where
  rng a b := by rcases cmpT_cases a b with h | h | h <;> simp [h.1]
  anti a b := by
    rcases cmpT_cases a b with h | h | h
    · rw [h.1, cmpT_gt h.2]; rfl
    · rw [h.1, h.2, cmpT_self]; rfl
    · rw [h.1, cmpT_lt h.2]
  eq a b := by
    constructor
    · intro h0
      rcases cmpT_cases a b with h | h | h
      · rw [h0] at h; exact absurd h.1 (by decide)
      · exact h.2
      · rw [h0] at h; exact absurd h.1 (by decide)
    · rintro rfl; exact cmpT_self a
  le a b d h1 h2 := by
    rcases cmpT_cases a b with h | h | h
    · rcases cmpT_cases b d with g | g | g
      · rw [cmpT_lt (less_trans _ _ _ h.2 g.2)]; decide
      · rw [← g.2]; exact h1
      · rw [g.1] at h2; exact absurd h2 (by decide)
    · rw [h.2]; exact h2
    · rw [h.1] at h1; exact absurd h1 (by decide)
end Go.Proofs.YtfghajokmmlijaaDoor
