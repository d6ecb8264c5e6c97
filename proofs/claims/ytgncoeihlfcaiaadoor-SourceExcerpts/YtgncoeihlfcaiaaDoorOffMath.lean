import Derived.Test.YtgncoeihlfcaiaaDoorHelp
namespace Go.Proofs.YtgncoeihlfcaiaaDoor
open Go.RowKit

theorem plf_ge : ∀ (l : List UInt8) (p : Nat × Nat), p.1 ≤ (Src.plf p l).1
  | [], _ => Nat.le_refl _
  | c :: t, p => by
    have ih := plf_ge t (Src.stp p c)
    have h : p.1 ≤ (Src.stp p c).1 := by unfold Src.stp; split <;> simp
    exact Nat.le_trans h ih

theorem plf_take_a {a : List UInt8} (b : List UInt8) (p : Nat × Nat) (h : ∀ x ∈ a, x ≠ 10) (i : Nat) (hi : i ≤ a.length) : Src.plf p ((a ++ 10 :: b).take i) = (p.1, p.2 + i) := by
  rw [List.take_append_of_le_length hi, Src.plf_none _ (fun x hx => h x (List.mem_of_mem_take hx)), List.length_take, Nat.min_eq_left hi]

theorem plf_take_n {a : List UInt8} (p : Nat × Nat) (h : ∀ x ∈ a, x ≠ 10) (i : Nat) (hi : i ≤ a.length) : Src.plf p (a.take i) = (p.1, p.2 + i) := by
  rw [Src.plf_none _ (fun x hx => h x (List.mem_of_mem_take hx)), List.length_take, Nat.min_eq_left hi]

theorem plf_take_b {a : List UInt8} (b : List UInt8) (p : Nat × Nat) (h : ∀ x ∈ a, x ≠ 10) (j : Nat) : Src.plf p ((a ++ 10 :: b).take (a.length + 1 + j)) = Src.plf (p.1 + 1, 1) (b.take j) := by
  have e : (a ++ 10 :: b).take (a.length + 1 + j) = a ++ 10 :: b.take j := by
    rw [List.take_append, List.take_of_length_le (by omega), show a.length + 1 + j - a.length = j + 1 from by omega, List.take_succ_cons]
  rw [e, Src.plf_cut _ _ h]

/-- The place that is asked for is that of the offset i. -/
def isAt (line col : Int) (k : Nat) (l : List UInt8) (i : Nat) : Prop := ((Src.plf (k, 1) (l.take i)).1 : Int) = line ∧ ((Src.plf (k, 1) (l.take i)).2 : Int) = col

/-- Places rise with the offsets. -/
theorem pl_rises (l : List UInt8) (i : Nat) : ∀ j, i < j → j ≤ l.length → (Src.pl (l.take i)).1 < (Src.pl (l.take j)).1 ∨ ((Src.pl (l.take i)).1 = (Src.pl (l.take j)).1 ∧ (Src.pl (l.take i)).2 < (Src.pl (l.take j)).2)
  | 0, h, _ => absurd h (Nat.not_lt_zero _)
  | j + 1, h, hj => by
    have e : Src.pl (l.take (j + 1)) = Src.stp (Src.pl (l.take j)) (l[j]'(by omega)) := by rw [List.take_succ_eq_append_getElem (by omega), Src.pl_snoc]
    have hs : (Src.pl (l.take j)).1 < (Src.pl (l.take (j + 1))).1 ∨ ((Src.pl (l.take j)).1 = (Src.pl (l.take (j + 1))).1 ∧ (Src.pl (l.take j)).2 < (Src.pl (l.take (j + 1))).2) := by
      rw [e]; unfold Src.stp; split <;> simp
    by_cases hij : i = j
    · subst hij; exact hs
    · have ih := pl_rises l i j (by omega) (by omega)
      omega

theorem pl_inj (l : List UInt8) (i j : Nat) (hi : i ≤ l.length) (hj : j ≤ l.length) (h1 : (Src.pl (l.take i)).1 = (Src.pl (l.take j)).1) (h2 : (Src.pl (l.take i)).2 = (Src.pl (l.take j)).2) : i = j := by
  rcases Nat.lt_trichotomy i j with h | h | h
  · have := pl_rises l i j h hj; omega
  · exact h
  · have := pl_rises l j i h hi; omega

/-- What the offset of a place is: the one offset of that place, or none. -/
def OffIs (l : List UInt8) (line col a e : Int) : Prop :=
  (∃ i, i ≤ l.length ∧ ((Src.pl (l.take i)).1 : Int) = line ∧ ((Src.pl (l.take i)).2 : Int) = col ∧ a = i ∧ e = 0) ∨
  ((∀ i, i ≤ l.length → ¬ (((Src.pl (l.take i)).1 : Int) = line ∧ ((Src.pl (l.take i)).2 : Int) = col)) ∧ a = 0 ∧ e = 10)

theorem OffIs.unique {l : List UInt8} {line col a e b f : Int} (h : OffIs l line col a e) (k : OffIs l line col b f) : a = b ∧ e = f := by
  rcases h with ⟨i, hi, h1, h2, rfl, rfl⟩ | ⟨hn, rfl, rfl⟩
  · rcases k with ⟨j, hj, k1, k2, rfl, rfl⟩ | ⟨kn, _, _⟩
    · have := pl_inj l i j hi hj (by omega) (by omega)
      subst this; exact ⟨rfl, rfl⟩
    · exact absurd ⟨h1, h2⟩ (kn i hi)
  · rcases k with ⟨j, hj, k1, k2, _, _⟩ | ⟨_, rfl, rfl⟩
    · exact absurd ⟨k1, k2⟩ (hn j hj)
    · exact ⟨rfl, rfl⟩

end Go.Proofs.YtgncoeihlfcaiaaDoor
