import Derived.Test.YtdmiciblfbkndaaDoorA25
import Derived.Test.YtdmiciblfbkndaaDoorA27
import Derived.Test.YtdmiciblfbkndaaDoorA19
namespace Go.Proofs.YtdmiciblfbkndaaDoor
open Go.RowKit

theorem evF_le : ∀ (m : Nat) (l : List Ev), l.length ≤ m → l.all evOk = true → (∀ e ∈ l, -9223372036854775808 ≤ e.vn ∧ e.vn ≤ 9223372036854775807) → (evF l).length ≤ 25609 * l.length := by
  intro m
  induction m with
  | zero =>
    intro l h _ _
    obtain rfl : l = [] := List.length_eq_zero_iff.1 (by omega)
    rw [evF_nil]
    simp
  | succ m ih =>
    intro l h h1 h2
    by_cases hl : l = []
    · subst hl
      rw [evF_nil]
      simp
    · have hp := List.length_pos_iff.2 hl
      have hb := body_le (part_ok h1 h2 0)
      rw [List.drop_zero] at hb
      have hi := ih (l.drop 64) (by rw [List.length_drop]; omega) (List.all_eq_true.2 fun e he => List.all_eq_true.1 h1 e (List.mem_of_mem_drop he)) (fun e he => h2 e (List.mem_of_mem_drop he))
      rw [evF_cons hl, List.length_append, chS_len]
      rw [List.length_drop] at hi
      omega
theorem encS_ok {rc : Rc} (h : (encS rc).2 = 0) : rc.evs.all evOk = true ∧ rc.evs.length ≤ 1048576 ∧ rc.out.length ≤ 16777216 ∧ encS rc = (fileL rc, 0) := by
  unfold encS at h ⊢
  split at h
  · cases h
  · rename_i h1
    split at h
    · rename_i h2
      rw [Bool.and_eq_true] at h2
      exact ⟨h2.2, by omega, by omega, by rw [if_neg h1, if_pos (by rw [h2.1, h2.2]; rfl)]⟩
    · cases h
theorem encS_no {rc : Rc} (h : (encS rc).2 ≠ 0) : (encS rc).1 = [] ∧ ((encS rc).2 = 1 ∨ (encS rc).2 = 2) := by
  unfold encS at h ⊢
  split
  · exact ⟨rfl, .inr rfl⟩
  · rename_i h1
    rw [if_neg h1] at h
    split
    · rename_i h2
      rw [if_pos h2] at h
      exact absurd rfl h
    · exact ⟨rfl, .inl rfl⟩
theorem file_le {rc : Rc} (h : (encS rc).2 = 0) (hv : ∀ e ∈ rc.evs, -9223372036854775808 ≤ e.vn ∧ e.vn ≤ 9223372036854775807) : (encS rc).1.length ≤ 100000000000 := by
  obtain ⟨h1, h2, h3, h4⟩ := encS_ok h
  rw [h4]
  show (fileL rc).length ≤ _
  have h5 := evF_le _ rc.evs (Nat.le_refl _) h1 hv
  unfold fileL
  rw [List.length_append, List.length_append, chS_len, lastL_len]
  show 2 + _ + _ ≤ _
  omega
theorem evIn_of {e : Ev} (h : evOk e = true) (hv : -9223372036854775808 ≤ e.vn ∧ e.vn ≤ 9223372036854775807) : evIn e := by
  obtain ⟨hok, hk1, hk8, hn0, hn1, -⟩ := evOk_parts h
  have := valOk_kind hok
  exact ⟨⟨by omega, by omega⟩, ⟨by omega, by omega⟩, ⟨by omega, by omega⟩, hv⟩
theorem enc_back (rc : Rc) (h : (encS rc).2 = 0) (hv : ∀ e ∈ rc.evs, -9223372036854775808 ≤ e.vn ∧ e.vn ≤ 9223372036854775807) : decS (encS rc).1 = (rc, 0) ∧ salS (encS rc).1 = (rc, (encS rc).1.length, 0) :=
  enc_dec rc h fun e he => evIn_of (List.all_eq_true.1 (encS_ok h).1 e he) (hv e he)
theorem ba_eq {a b : ByteArray} (h : a.data.toList = b.data.toList) : a = b := ByteArray.ext (Array.ext' h)
end Go.Proofs.YtdmiciblfbkndaaDoor
