import Derived.Test.YtgncoeihlfcaiaaDoorMath
import Derived.RowKit
namespace Go.Proofs.YtgncoeihlfcaiaaDoor.Src
open Go.RowKit

/-- A text is one line, or a line, a byte 10 and a text. -/
theorem line_or (l : List UInt8) : (∀ x ∈ l, x ≠ 10) ∨ ∃ a b, l = a ++ 10 :: b ∧ ∀ x ∈ a, x ≠ 10 := by
  induction l with
  | nil => exact Or.inl (by simp)
  | cons c t ih =>
    by_cases hc : c = 10
    · exact Or.inr ⟨[], t, by simp [hc], by simp⟩
    · rcases ih with h | ⟨a, b, rfl, h⟩
      · exact Or.inl (fun x hx => (List.mem_cons.1 hx).elim (fun e => e ▸ hc) (h x))
      · exact Or.inr ⟨c :: a, b, rfl, fun x hx => (List.mem_cons.1 hx).elim (fun e => e ▸ hc) (h x)⟩

theorem lineInd {P : List UInt8 → Prop} (h1 : ∀ l, (∀ x ∈ l, x ≠ 10) → P l) (h2 : ∀ a b, (∀ x ∈ a, x ≠ 10) → P b → P (a ++ 10 :: b)) : ∀ (n : Nat) (l : List UInt8), l.length ≤ n → P l
  | 0, l, h => h1 l (by have : l = [] := List.length_eq_zero_iff.1 (by omega); simp [this])
  | n + 1, l, h => by
    rcases line_or l with hl | ⟨a, b, rfl, ha⟩
    · exact h1 l hl
    · exact h2 a b ha (lineInd h1 h2 n b (by simp at h; omega))

/-- From one byte to the next: the place goes on by a column; behind a byte 10 to the next line. -/
def stp (p : Nat × Nat) (c : UInt8) : Nat × Nat := if c = 10 then (p.1 + 1, 1) else (p.1, p.2 + 1)
def plf (p : Nat × Nat) (l : List UInt8) : Nat × Nat := l.foldl stp p
/-- The place behind a text. -/
def pl (l : List UInt8) : Nat × Nat := plf (1, 1) l

theorem plf_none : ∀ {l : List UInt8} (p : Nat × Nat), (∀ x ∈ l, x ≠ 10) → plf p l = (p.1, p.2 + l.length)
  | [], p, _ => rfl
  | c :: t, p, h => by
    have hc : c ≠ 10 := h c (List.mem_cons_self ..)
    have ih := plf_none (l := t) (p.1, p.2 + 1) (fun x hx => h x (List.mem_cons_of_mem _ hx))
    show plf (stp p c) t = _
    rw [show stp p c = (p.1, p.2 + 1) from if_neg hc, ih]
    simp; omega

theorem plf_cut {a : List UInt8} (p : Nat × Nat) (b : List UInt8) (h : ∀ x ∈ a, x ≠ 10) : plf p (a ++ 10 :: b) = plf (p.1 + 1, 1) b := by
  show (a ++ 10 :: b).foldl stp p = _
  rw [List.foldl_append]
  have e : a.foldl stp p = (p.1, p.2 + a.length) := plf_none p h
  rw [e]
  rfl

theorem plf_snoc (p : Nat × Nat) (l : List UInt8) (c : UInt8) : plf p (l ++ [c]) = stp (plf p l) c := by
  unfold plf
  rw [List.foldl_append]
  rfl

theorem plf_le : ∀ (l : List UInt8) (p : Nat × Nat), 1 ≤ p.1 → 1 ≤ p.2 → (1 ≤ (plf p l).1 ∧ (plf p l).1 ≤ p.1 + l.length) ∧ (1 ≤ (plf p l).2 ∧ (plf p l).2 ≤ p.2 + l.length)
  | [], p, h0, h1 => by simp [plf, h0, h1]
  | c :: t, p, h0, h1 => by
    show (1 ≤ (plf (stp p c) t).1 ∧ (plf (stp p c) t).1 ≤ _) ∧ _
    by_cases hc : c = 10
    · have ih := plf_le t (p.1 + 1, 1) (by simp) (by simp)
      have e : stp p c = (p.1 + 1, 1) := if_pos hc
      rw [show plf p (c :: t) = plf (stp p c) t from rfl, e]
      simp only [List.length_cons]
      simp only at ih
      omega
    · have ih := plf_le t (p.1, p.2 + 1) h0 (by simp)
      have e : stp p c = (p.1, p.2 + 1) := if_neg hc
      rw [show plf p (c :: t) = plf (stp p c) t from rfl, e]
      simp only [List.length_cons]
      simp only at ih
      omega

theorem pl_le (l : List UInt8) : (1 ≤ (pl l).1 ∧ (pl l).1 ≤ 1 + l.length) ∧ (1 ≤ (pl l).2 ∧ (pl l).2 ≤ 1 + l.length) := plf_le l (1, 1) (Nat.le_refl _) (Nat.le_refl _)

theorem pl_nil : pl [] = (1, 1) := rfl
theorem pl_snoc (l : List UInt8) (c : UInt8) : pl (l ++ [c]) = stp (pl l) c := plf_snoc _ _ _

theorem lns_ne (l : List UInt8) : lns l ≠ [] := by
  rcases line_or l with h | ⟨a, b, rfl, h⟩
  · rw [lns_none h]; simp
  · rw [lns_cut b h]; simp

/-- As many lines as the last place says. -/
theorem lns_length (l : List UInt8) : ∀ k, (plf (k, 1) l).1 + 1 = k + (lns l).length := by
  refine lineInd (P := fun l => ∀ k, (plf (k, 1) l).1 + 1 = k + (lns l).length) ?_ ?_ l.length l (Nat.le_refl _)
  · intro l h k
    rw [lns_none h, plf_none _ h]; rfl
  · intro a b h ih k
    rw [lns_cut b h, plf_cut _ _ h]
    have := ih (k + 1)
    simp only [List.length_cons]
    omega

theorem lns_len (l : List UInt8) : (lns l).length = (pl l).1 := by
  have := lns_length l 1
  unfold pl; omega

end Go.Proofs.YtgncoeihlfcaiaaDoor.Src
