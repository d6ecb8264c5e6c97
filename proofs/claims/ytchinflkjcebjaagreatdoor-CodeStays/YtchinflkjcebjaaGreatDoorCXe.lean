import Derived.Test.YtchinflkjcebjaaGreatDoorCXb
namespace Go.Proofs.YtchinflkjcebjaaGreatDoor
open Go.RowKit

/-! The first wrong line is the first wrong line, whatever stands behind it. -/
/-- How long a text is up to the end of the line of a number. -/
def lineP : Bs → Int → Option Nat
  | [], _ => none
  | c :: r, n => if c = 10 then (if n = 1 then some 1 else (lineP r (n - 1)).map (· + 1)) else (lineP r n).map (· + 1)
theorem lineP_le : ∀ (l : Bs) (n : Int) (j : Nat), lineP l n = some j → j ≤ l.length
  | [], _, _, h => by cases h
  | c :: r, n, j, h => by
    unfold lineP at h
    rw [List.length_cons]
    split at h
    · split at h
      · cases h; omega
      · obtain ⟨i, hi, rfl⟩ := Option.map_eq_some_iff.1 h
        have := lineP_le r _ i hi
        omega
    · obtain ⟨i, hi, rfl⟩ := Option.map_eq_some_iff.1 h
      have := lineP_le r _ i hi
      omega
theorem lineP_parts : ∀ (l : Bs) (n : Int) (j : Nat), lineP l n = some j → ∃ a r, l = a ++ 10 :: r ∧ (∀ c ∈ a, c ≠ 10) ∧ (n = 1 → j = a.length + 1) ∧ (n ≠ 1 → ∃ i, lineP r (n - 1) = some i ∧ j = a.length + 1 + i)
  | [], _, _, h => by cases h
  | c :: r, n, j, h => by
    unfold lineP at h
    split at h
    · rename_i hc
      refine ⟨[], r, by rw [hc]; rfl, fun c h => absurd h List.not_mem_nil, fun hn => ?_, fun hn => ?_⟩
      · rw [if_pos hn] at h
        cases h
        rfl
      · rw [if_neg hn] at h
        obtain ⟨i, hi, rfl⟩ := Option.map_eq_some_iff.1 h
        exact ⟨i, hi, by simp; omega⟩
    · rename_i hc
      obtain ⟨i, hi, rfl⟩ := Option.map_eq_some_iff.1 h
      obtain ⟨a, q, e, h1, h2, h3⟩ := lineP_parts r n i hi
      refine ⟨c :: a, q, by rw [e]; rfl, fun d hd => ?_, fun hn => ?_, fun hn => ?_⟩
      · rcases List.mem_cons.1 hd with rfl | hd
        · exact hc
        · exact h1 d hd
      · rw [h2 hn]; simp
      · obtain ⟨i', k1, k2⟩ := h3 hn
        exact ⟨i', k1, by rw [k2, List.length_cons]; omega⟩
theorem lineP_count : ∀ (l : Bs) (n : Int) (j : Nat), lineP l n = some j → 1 ≤ n ∧ n ≤ (l.count 10 : Nat)
  | [], _, _, h => by cases h
  | c :: r, n, j, h => by
    unfold lineP at h
    rw [List.count_cons]
    split at h
    · rename_i hc
      rw [hc, if_pos (by decide)]
      split at h
      · omega
      · obtain ⟨i, hi, rfl⟩ := Option.map_eq_some_iff.1 h
        have := lineP_count r _ i hi
        omega
    · rename_i hc
      rw [if_neg (by simpa using hc)]
      obtain ⟨i, hi, rfl⟩ := Option.map_eq_some_iff.1 h
      have := lineP_count r _ i hi
      omega
theorem asmF_ge : ∀ (f k : Nat) (s : St) (l : Bs) (m : Nat), asmF f k s l = .inr m → k ≤ m
  | 0, _, _, _, _, e => by cases e
  | f + 1, k, s, l, m, e => by
    unfold asmF at e
    split at e
    · cases e
    · split at e
      · cases e; exact Nat.le_refl _
      · have := asmF_ge f _ _ _ _ e
        omega
theorem asmF_stays : ∀ (f k : Nat) (s : St) (l : Bs) (n j : Nat) (more : Bs), asmF f k s l = .inr n → lineP l ((n : Int) - k + 1) = some j → ∀ g, (l.take j ++ more).length < g → asmF g k s (l.take j ++ more) = .inr n
  | 0, _, _, _, _, _, _, e, _, _, _ => by cases e
  | f + 1, k, s, l, n, j, more, e, hl, g, hg => by
    obtain ⟨a, r, el, ha, h1, h2⟩ := lineP_parts l _ j hl
    obtain ⟨g, rfl⟩ : ∃ g', g = g' + 1 := ⟨g - 1, by omega⟩
    have hle := lineP_le l _ j hl
    unfold asmF at e
    rw [if_neg (by rw [el]; simp), el, (line_of ha).1, (line_of ha).2] at e
    split at e
    · rename_i hs
      cases e
      have hj := h1 (by omega)
      have et : l.take j ++ more = a ++ 10 :: more := by
        rw [el, hj, List.take_length_add_append, List.append_assoc]
        rfl
      rw [et, asmF, if_neg (by simp), (line_of ha).1, hs]
    · rename_i s' hs
      have hk := asmF_ge _ _ _ _ _ e
      obtain ⟨i, hi, hj⟩ := h2 (by omega)
      have et : l.take j ++ more = a ++ 10 :: (r.take i ++ more) := by
        rw [el, hj, Nat.add_assoc, List.take_length_add_append, Nat.add_comm 1 i, List.take_succ_cons, List.append_assoc]
        rfl
      rw [et] at hg ⊢
      rw [asmF, if_neg (by simp), (line_of ha).1, (line_of ha).2, hs]
      refine asmF_stays f (k + 1) s' r n i more e ?_ g ?_
      · rw [← hi]; congr 1; omega
      · simp only [List.length_append, List.length_cons] at hg ⊢; omega
theorem asm_stays {l more : Bs} {n j : Nat} (h : asmS l = .inr n) (hl : lineP l (n : Int) = some j) : asmS (l.take j ++ more) = .inr n := by
  have hc := lineP_count l _ j hl
  unfold asmS at h
  split at h
  · rename_i m q
    cases h
    unfold asmS
    rw [asmF_stays _ 1 _ _ _ _ more q (by rw [← hl]; congr 1; omega) _ (Nat.lt_succ_self _)]
  · split at h
    · cases h
      omega
    · cases h
end Go.Proofs.YtchinflkjcebjaaGreatDoor
