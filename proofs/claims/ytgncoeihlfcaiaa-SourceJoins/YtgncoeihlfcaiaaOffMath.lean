import Derived.Test.YtgncoeihlfcaiaaOffset
import Derived.Test.YtgncoeihlfcaiaaAt
namespace Go.Proofs.Ytgncoeihlfcaiaa
open Go.RowKit

theorem plf_ge : ∀ (l : List UInt8) (p : Nat × Nat), p.1 ≤ (Src.plf p l).1
  | [], _ => Nat.le_refl _
  | c :: t, p => by
    have ih := plf_ge t (Src.stp p c)
    have h : p.1 ≤ (Src.stp p c).1 := by unfold Src.stp; split <;> simp
    exact Nat.le_trans h ih

theorem plf_take_a {a : List UInt8} (b : List UInt8) (p : Nat × Nat) (h : ∀ x ∈ a, x ≠ 10) (i : Nat) (hi : i ≤ a.length) : Src.plf p ((a ++ 10 :: b).take i) = (p.1, p.2 + i) := by
  rw [List.take_append_of_le_length hi, Src.plf_none _ (fun x hx => h x (List.mem_of_mem_take hx)), List.length_take, Nat.min_eq_left hi]

theorem plf_take_n {a : List UInt8} (p : Nat × Nat) (h : ∀ x ∈ a, x ≠ 10) (i : Nat) (hi : i ≤ a.length) : Src.plf p (a.take i) = (p.1, p.2 + i) := by
  rw [Src.plf_none _ (fun x hx => h x (List.mem_of_mem_take hx)), List.length_take, Nat.min_eq_left hi]

theorem plf_take_b {a : List UInt8} (b : List UInt8) (p : Nat × Nat) (h : ∀ x ∈ a, x ≠ 10) (j : Nat) : Src.plf p ((a ++ 10 :: b).take (a.length + 1 + j)) = Src.plf (p.1 + 1, 1) (b.take j) := by
  have e : (a ++ 10 :: b).take (a.length + 1 + j) = a ++ 10 :: b.take j := by
    rw [List.take_append, List.take_of_length_le (by omega), show a.length + 1 + j - a.length = j + 1 from by omega, List.take_succ_cons]
  rw [e, Src.plf_cut _ _ h]

/-- The place that is asked for is that of the offset i. -/
def isAt (line col : Int) (k : Nat) (l : List UInt8) (i : Nat) : Prop := ((Src.plf (k, 1) (l.take i)).1 : Int) = line ∧ ((Src.plf (k, 1) (l.take i)).2 : Int) = col

theorem oil_small (st n : Nat) (col : Int) (h : st + n ≤ 140737488355328) :
    (∃ i : Nat, i ≤ n ∧ col = 1 + (i : Int) ∧ oil (st : Int) (n : Int) col = (((st + i : Nat) : Int), 0)) ∨ ((∀ i : Nat, i ≤ n → col ≠ 1 + (i : Int)) ∧ oil (st : Int) (n : Int) col = (0, 10)) := by
  unfold oil
  rw [wrap_small ((n : Int) + 1) (by omega) (by omega)]
  by_cases hc : col < 1 ∨ (n : Int) + 1 < col
  · rw [if_pos hc]
    exact Or.inr ⟨fun i hi => by omega, rfl⟩
  · rw [if_neg hc]
    refine Or.inl ⟨(col - 1).toNat, by omega, by omega, ?_⟩
    rw [wrap_small ((st : Int) + col) (by omega) (by omega), wrap_small _ (by omega) (by omega)]
    congr 1
    omega

theorem offL_spec (line col : Int) (l : List UInt8) : ∀ (k st : Nat), st + l.length ≤ 140737488355328 →
    (∃ i, i ≤ l.length ∧ isAt line col k l i ∧ offL line col st (Src.rows k (Src.lns l)) = (((st + i : Nat) : Int), 0)) ∨
    ((∀ i, i ≤ l.length → ¬ isAt line col k l i) ∧ offL line col st (Src.rows k (Src.lns l)) = (0, 10)) := by
  refine Src.lineInd (P := fun l => ∀ (k st : Nat), st + l.length ≤ 140737488355328 →
    (∃ i, i ≤ l.length ∧ isAt line col k l i ∧ offL line col st (Src.rows k (Src.lns l)) = (((st + i : Nat) : Int), 0)) ∨
    ((∀ i, i ≤ l.length → ¬ isAt line col k l i) ∧ offL line col st (Src.rows k (Src.lns l)) = (0, 10))) ?_ ?_ l.length l (Nat.le_refl _)
  · intro l h k st hb
    have hsz : (⟨l.toArray⟩ : ByteArray).size = l.length := by rw [Lib.size_eq]
    have hat : ∀ i, i ≤ l.length → (isAt line col k l i ↔ (k : Int) = line ∧ col = 1 + (i : Int)) := by
      intro i hi
      unfold isAt
      rw [plf_take_n _ h i hi]
      simp only
      omega
    rw [Src.lns_none h]
    show (∃ i, _ ∧ _ ∧ (if (k : Int) = line then oil st ((⟨l.toArray⟩ : ByteArray).size : Int) col else (0, 10)) = _) ∨ (_ ∧ (if (k : Int) = line then oil st ((⟨l.toArray⟩ : ByteArray).size : Int) col else (0, 10)) = _)
    rw [hsz]
    by_cases hk : (k : Int) = line
    · rw [if_pos hk]
      rcases oil_small st l.length col hb with ⟨i, hi, hc, ho⟩ | ⟨hn, ho⟩
      · exact Or.inl ⟨i, hi, (hat i hi).2 ⟨hk, hc⟩, ho⟩
      · exact Or.inr ⟨fun i hi hh => hn i hi ((hat i hi).1 hh).2, ho⟩
    · rw [if_neg hk]
      exact Or.inr ⟨fun i hi hh => hk ((hat i hi).1 hh).1, rfl⟩
  · intro a b h ih k st hb
    have hla : (a ++ 10 :: b).length = a.length + 1 + b.length := by simp; omega
    rw [hla] at hb
    have hsz : (⟨a.toArray⟩ : ByteArray).size = a.length := by rw [Lib.size_eq]
    have hat : ∀ i, i ≤ a.length → (isAt line col k (a ++ 10 :: b) i ↔ (k : Int) = line ∧ col = 1 + (i : Int)) := by
      intro i hi
      unfold isAt
      rw [plf_take_a b _ h i hi]
      simp only
      omega
    have hbt : ∀ j, (isAt line col k (a ++ 10 :: b) (a.length + 1 + j) ↔ isAt line col (k + 1) b j) := by
      intro j
      unfold isAt
      rw [plf_take_b b _ h j]
    have hsplit : ∀ i, i ≤ a.length ∨ ∃ j, i = a.length + 1 + j := fun i => by
      by_cases hi : i ≤ a.length
      · exact Or.inl hi
      · exact Or.inr ⟨i - a.length - 1, by omega⟩
    rw [Src.lns_cut b h, hla]
    show (∃ i, _ ∧ _ ∧ (if (k : Int) = line then oil st ((⟨a.toArray⟩ : ByteArray).size : Int) col else offL line col (wrap64 ((st : Int) + wrap64 (((⟨a.toArray⟩ : ByteArray).size : Int) + 1))) (Src.rows (k + 1) (Src.lns b))) = _) ∨ (_ ∧ (if (k : Int) = line then oil st ((⟨a.toArray⟩ : ByteArray).size : Int) col else offL line col (wrap64 ((st : Int) + wrap64 (((⟨a.toArray⟩ : ByteArray).size : Int) + 1))) (Src.rows (k + 1) (Src.lns b))) = _)
    rw [hsz, wrap_small ((a.length : Int) + 1) (by omega) (by omega), wrap_small ((st : Int) + ((a.length : Int) + 1)) (by omega) (by omega)]
    by_cases hk : (k : Int) = line
    · rw [if_pos hk]
      have hlate : ∀ j, ¬ isAt line col (k + 1) b j := fun j hh => by
        have := plf_ge (b.take j) (k + 1, 1)
        have e := hh.1
        simp only at this
        omega
      rcases oil_small st a.length col (by omega) with ⟨i, hi, hc, ho⟩ | ⟨hn, ho⟩
      · exact Or.inl ⟨i, by omega, (hat i hi).2 ⟨hk, hc⟩, ho⟩
      · refine Or.inr ⟨fun i _ hh => ?_, ho⟩
        rcases hsplit i with hi' | ⟨j, rfl⟩
        · exact hn i hi' ((hat i hi').1 hh).2
        · exact hlate j ((hbt j).1 hh)
    · rw [if_neg hk]
      have e : (st : Int) + ((a.length : Int) + 1) = ((st + (a.length + 1) : Nat) : Int) := by omega
      rw [e]
      rcases ih (k + 1) (st + (a.length + 1)) (by omega) with ⟨j, hj, hh, ho⟩ | ⟨hn, ho⟩
      · refine Or.inl ⟨a.length + 1 + j, by omega, (hbt j).2 hh, ?_⟩
        rw [ho]
        congr 1
        omega
      · refine Or.inr ⟨fun i hi hh => ?_, ho⟩
        rcases hsplit i with hi' | ⟨j, rfl⟩
        · exact hk ((hat i hi').1 hh).1
        · exact hn j (by omega) ((hbt j).1 hh)

/-- Places rise with the offsets. -/
theorem pl_rises (l : List UInt8) (i : Nat) : ∀ j, i < j → j ≤ l.length → (Src.pl (l.take i)).1 < (Src.pl (l.take j)).1 ∨ ((Src.pl (l.take i)).1 = (Src.pl (l.take j)).1 ∧ (Src.pl (l.take i)).2 < (Src.pl (l.take j)).2)
  | 0, h, _ => absurd h (Nat.not_lt_zero _)
  | j + 1, h, hj => by
    have e : Src.pl (l.take (j + 1)) = Src.stp (Src.pl (l.take j)) (l[j]'(by omega)) := by rw [List.take_succ_eq_append_getElem (by omega), Src.pl_snoc]
    have hs : (Src.pl (l.take j)).1 < (Src.pl (l.take (j + 1))).1 ∨ ((Src.pl (l.take j)).1 = (Src.pl (l.take (j + 1))).1 ∧ (Src.pl (l.take j)).2 < (Src.pl (l.take (j + 1))).2) := by
      rw [e]; unfold Src.stp; split <;> simp
    by_cases hij : i = j
    · subst hij; exact hs
    · have ih := pl_rises l i j (by omega) (by omega)
      omega

theorem pl_inj (l : List UInt8) (i j : Nat) (hi : i ≤ l.length) (hj : j ≤ l.length) (h1 : (Src.pl (l.take i)).1 = (Src.pl (l.take j)).1) (h2 : (Src.pl (l.take i)).2 = (Src.pl (l.take j)).2) : i = j := by
  rcases Nat.lt_trichotomy i j with h | h | h
  · have := pl_rises l i j h hj; omega
  · exact h
  · have := pl_rises l j i h hi; omega

/-- What the offset of a place is: the one offset of that place, or none. -/
def OffIs (l : List UInt8) (line col a e : Int) : Prop :=
  (∃ i, i ≤ l.length ∧ ((Src.pl (l.take i)).1 : Int) = line ∧ ((Src.pl (l.take i)).2 : Int) = col ∧ a = i ∧ e = 0) ∨
  ((∀ i, i ≤ l.length → ¬ (((Src.pl (l.take i)).1 : Int) = line ∧ ((Src.pl (l.take i)).2 : Int) = col)) ∧ a = 0 ∧ e = 10)

theorem OffIs.unique {l : List UInt8} {line col a e b f : Int} (h : OffIs l line col a e) (k : OffIs l line col b f) : a = b ∧ e = f := by
  rcases h with ⟨i, hi, h1, h2, rfl, rfl⟩ | ⟨hn, rfl, rfl⟩
  · rcases k with ⟨j, hj, k1, k2, rfl, rfl⟩ | ⟨kn, _, _⟩
    · have := pl_inj l i j hi hj (by omega) (by omega)
      subst this; exact ⟨rfl, rfl⟩
    · exact absurd ⟨h1, h2⟩ (kn i hi)
  · rcases k with ⟨j, hj, k1, k2, _, _⟩ | ⟨_, rfl, rfl⟩
    · exact absurd ⟨k1, k2⟩ (hn j hj)
    · exact ⟨rfl, rfl⟩

theorem offL_is (l : List UInt8) (line col : Int) (h : l.length ≤ 140737488355328) : OffIs l line col (offL line col 0 (Src.rows 1 (Src.lns l))).1 (offL line col 0 (Src.rows 1 (Src.lns l))).2 := by
  rcases offL_spec line col l 1 0 (by omega) with ⟨i, hi, ⟨h1, h2⟩, ho⟩ | ⟨hn, ho⟩
  · have ho' : offL line col 0 (Src.rows 1 (Src.lns l)) = (((0 + i : Nat) : Int), 0) := ho
    rw [ho']
    exact Or.inl ⟨i, hi, h1, h2, by simp, rfl⟩
  · have ho' : offL line col 0 (Src.rows 1 (Src.lns l)) = (0, 10) := ho
    rw [ho']
    exact Or.inr ⟨fun i hi hh => hn i hi hh, rfl, rfl⟩

end Go.Proofs.Ytgncoeihlfcaiaa
