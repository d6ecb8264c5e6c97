import Derived.Test.YtichbejmelkjeaaDoorLxNumAt
namespace Go.Proofs.YtichbejmelkjeaaDoor.Lx
open Go.RowKit

/-- What digits say. -/
def dv (acc : Nat) (D : List UInt8) : Nat := D.foldl (fun a c => a * 10 + (c.toNat - 48)) acc
theorem dv_nil (acc : Nat) : dv acc [] = acc := rfl
theorem dv_cons (acc : Nat) (c : UInt8) (D : List UInt8) : dv acc (c :: D) = dv (acc * 10 + (c.toNat - 48)) D := by unfold dv; rw [List.foldl_cons]
theorem dv_snoc (acc : Nat) (D : List UInt8) (c : UInt8) : dv acc (D ++ [c]) = dv acc D * 10 + (c.toNat - 48) := by unfold dv; rw [List.foldl_append, List.foldl_cons, List.foldl_nil]
theorem dv_app (acc : Nat) (D E : List UInt8) : dv acc (D ++ E) = dv (dv acc D) E := by unfold dv; rw [List.foldl_append]
theorem dv_ge (D : List UInt8) : ∀ acc, acc * 10 ^ D.length ≤ dv acc D := by
  induction D with
  | nil => intro acc; simp [dv_nil]
  | cons c D ih =>
    intro acc
    rw [dv_cons, List.length_cons, Nat.pow_succ]
    refine Nat.le_trans ?_ (ih _)
    rw [Nat.mul_comm (10 ^ D.length) 10, ← Nat.mul_assoc]
    exact Nat.mul_le_mul_right _ (Nat.le_add_right _ _)
theorem dv_le (D : List UInt8) (acc : Nat) : acc ≤ dv acc D := Nat.le_trans (Nat.le_mul_of_pos_right acc (Nat.pow_pos (by omega))) (dv_ge D acc)

theorem parse_M (D : List UInt8) (hd : ∀ c ∈ D, digitB c = true) : ∀ acc, acc ≤ 18446744073709551615 → Lib.parseUintM 18446744073709551615 acc D = if dv acc D ≤ 18446744073709551615 then .ok (dv acc D) else .range := by
  induction D with
  | nil => intro acc h; rw [dv_nil, if_pos h]; rfl
  | cons c D ih =>
    intro acc h
    have hc : 48 ≤ c.toNat ∧ c.toNat ≤ 57 := by
      have := hd c (by simp)
      simp [digitB] at this
      omega
    have hle := dv_le D (acc * 10 + (c.toNat - 48))
    unfold Lib.parseUintM
    rw [if_pos hc, dv_cons]
    by_cases h1 : 1844674407370955162 ≤ acc
    · rw [if_pos h1, if_neg (by omega)]
    · rw [if_neg h1]
      by_cases h2 : 18446744073709551615 < acc * 10 + (c.toNat - 48)
      · rw [if_pos h2, if_neg (by omega)]
      · rw [if_neg h2, ih (fun d hd' => hd d (by simp [hd'])) _ (by omega)]

theorem parse_D (D : List UInt8) (hne : D ≠ []) (hd : ∀ c ∈ D, digitB c = true) : Lib.parseIntB 64 D = if dv 0 D < 9223372036854775808 then .ok ((dv 0 D : Nat) : Int) else .range := by
  match D, hne with
  | c :: r, _ =>
    have hc : 48 ≤ c.toNat ∧ c.toNat ≤ 57 := by
      have := hd c (by simp)
      simp [digitB] at this
      omega
    have hM := parse_M (c :: r) hd 0 (by omega)
    unfold Lib.parseIntB
    simp only
    rw [if_neg (by omega)]
    unfold Lib.parseUintB
    rw [if_neg (by simp), show (2 ^ 64 - 1 : Nat) = 18446744073709551615 from rfl, hM]
    by_cases h1 : dv 0 (c :: r) ≤ 18446744073709551615
    · rw [if_pos h1]
      simp only
      by_cases h2 : dv 0 (c :: r) < 9223372036854775808
      · rw [if_pos h2, if_neg (by simp; omega), if_neg (by omega), if_neg (by omega)]
      · rw [if_neg h2, if_pos ⟨by omega, by simp; omega⟩]
    · rw [if_neg h1, if_neg (by omega)]

theorem tw_digits (l : List UInt8) : ∀ c ∈ l.takeWhile digitB, digitB c = true := fun c hc => by
  induction l with
  | nil => cases hc
  | cons d l ih =>
    rw [List.takeWhile_cons] at hc
    split at hc
    · rename_i hd
      rcases List.mem_cons.1 hc with rfl | h
      · exact hd
      · exact ih h
    · cases hc

/-- Too great a number. -/
theorem num_big (l : List UInt8) (h : 9223372036854775808 ≤ dv 0 (l.takeWhile digitB)) : numS l = .inl 21 := by
  have hne : l.takeWhile digitB ≠ [] := fun e => by rw [e, dv_nil] at h; omega
  unfold numS
  simp only
  split
  · rfl
  · split
    · rfl
    · rw [parse_D _ hne (tw_digits l), if_neg (by omega)]
/-- A number that is not too great. -/
theorem num_small (l : List UInt8) (hne : l.takeWhile digitB ≠ []) (h : dv 0 (l.takeWhile digitB) < 9223372036854775808) :
    numS l = if 1 < (l.takeWhile digitB).length ∧ (l.takeWhile digitB).head? = some 48 then .inl 21 else if (l.drop (l.takeWhile digitB).length).head?.any innerB = true then .inl 21 else .inr ⟨2, (l.takeWhile digitB).length, [], ((dv 0 (l.takeWhile digitB) : Nat) : Int)⟩ := by
  unfold numS
  simp only
  rw [parse_D _ hne (tw_digits l), if_pos h]
  by_cases h1 : 1 < (l.takeWhile digitB).length ∧ (l.takeWhile digitB).head? = some 48
  · rw [if_pos (Or.inl h1), if_pos h1]
  · rw [if_neg h1]
    have h19 : ¬ 19 < (l.takeWhile digitB).length := by
      intro h19
      have hd := tw_digits l
      generalize l.takeWhile digitB = D at *
      match D, hne with
      | c :: r, _ =>
        have hc : 48 ≤ c.toNat ∧ c.toNat ≤ 57 := by
          have := hd c (by simp)
          simp [digitB] at this
          omega
        have hc48 : c ≠ 48 := fun e => h1 ⟨by omega, by rw [e]; rfl⟩
        have hc49 : 49 ≤ c.toNat := by
          rcases Nat.lt_or_ge c.toNat 49 with h | h
          · exact absurd (UInt8.toNat_inj.1 (by show c.toNat = 48; omega)) hc48
          · exact h
        rw [dv_cons] at h
        have hg := dv_ge r (0 * 10 + (c.toNat - 48))
        rw [List.length_cons] at h19
        have hp : 10 ^ 19 ≤ 10 ^ r.length := Nat.pow_le_pow_right (by omega) (by omega)
        have : 1 * 10 ^ r.length ≤ (0 * 10 + (c.toNat - 48)) * 10 ^ r.length := Nat.mul_le_mul_right _ (by omega)
        omega
    rw [if_neg (fun h => h.elim h1 h19)]
end Go.Proofs.YtichbejmelkjeaaDoor.Lx
