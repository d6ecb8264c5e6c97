import Derived.Lib.Strings
import Derived.RowKit
namespace Go.Proofs.YtnnglgolddhigaaDoor
open Go.RowKit

def bracB (t : ByteArray) : Bool := decide (2 ≤ t.size) && (t.data.toList.getD 0 0 == 91) && (t.data.toList.getD (t.size - 1) 0 == 93)
/-- The number of a plain type, 0 of another text. -/
def baseN (t : ByteArray) : Nat := if t.toList = [105, 110, 116] then 1 else if t.toList = [98, 111, 111, 108] then 2 else if t.toList = [116, 101, 120, 116] then 3 else 0
def finN (n : Nat) (t : ByteArray) : Nat := if 4 < n then 0 else if baseN t = 0 then 0 else 4 * n + baseN t
theorem brac_size {t : ByteArray} (h : bracB t = true) : 2 ≤ t.size := by
  unfold bracB at h
  simp only [Bool.and_eq_true, decide_eq_true_eq, beq_iff_eq] at h
  exact h.1.1
/-- The number of a type where n brackets are gone. -/
def sortR (n : Nat) (t : ByteArray) : Nat := if h : bracB t = true then sortR (n + 1) (t.extract 1 (t.size - 1)) else finN n t
termination_by t.size
decreasing_by have := brac_size h; simp; omega

theorem sort_go (n : Nat) (t : ByteArray) (h : bracB t = true) : sortR n t = sortR (n + 1) (t.extract 1 (t.size - 1)) := by rw [sortR, dif_pos h]
theorem sort_stop (n : Nat) (t : ByteArray) (h : bracB t = false) : sortR n t = finN n t := by rw [sortR, dif_neg (by simp [h])]
theorem sort_big (k : Nat) : ∀ (n : Nat) (t : ByteArray), t.size ≤ k → 5 ≤ n → sortR n t = 0 := by
  induction k with
  | zero =>
    intro n t hk hn
    cases h : bracB t with
    | true => have := brac_size h; omega
    | false => rw [sort_stop n t h]; unfold finN; rw [if_pos (by omega)]
  | succ k ih =>
    intro n t hk hn
    cases h : bracB t with
    | true => rw [sort_go n t h]; exact ih _ _ (by have := brac_size h; simp; omega) (by omega)
    | false => rw [sort_stop n t h]; unfold finN; rw [if_pos (by omega)]
theorem brac_base {t : ByteArray} (h : bracB t = true) : baseN t = 0 := by
  unfold bracB at h
  simp only [Bool.and_eq_true, decide_eq_true_eq, beq_iff_eq] at h
  obtain ⟨⟨_, h0⟩, _⟩ := h
  unfold baseN
  rw [show t.toList = t.data.toList from ByteArray.toList_eq t]
  cases hl : t.data.toList with
  | nil => rfl
  | cons c r =>
    rw [hl] at h0
    simp at h0
    subst h0
    simp
theorem sort_base (n : Nat) (t : ByteArray) (h : baseN t ≠ 0) (hn : n ≤ 4) : sortR n t = 4 * n + baseN t := by
  cases hb : bracB t with
  | true => exact absurd (brac_base hb) h
  | false => rw [sort_stop n t hb]; unfold finN; rw [if_neg (by omega), if_neg h]
theorem sort_none (n : Nat) (t : ByteArray) (h : baseN t = 0) (hb : bracB t = false) : sortR n t = 0 := by
  rw [sort_stop n t hb]; unfold finN; simp [h]
theorem sort_lt (k : Nat) : ∀ (n : Nat) (t : ByteArray), t.size ≤ k → sortR n t < 20 := by
  induction k with
  | zero =>
    intro n t hk
    cases h : bracB t with
    | true => have := brac_size h; omega
    | false => rw [sort_stop n t h]; unfold finN baseN; repeat' split
               all_goals omega
  | succ k ih =>
    intro n t hk
    cases h : bracB t with
    | true => rw [sort_go n t h]; exact ih _ _ (by have := brac_size h; simp; omega)
    | false => rw [sort_stop n t h]; unfold finN baseN; repeat' split
               all_goals omega
theorem byte_at (t : ByteArray) (j : Nat) (h : j < t.size) : t.data.toList.getD j 0 = t[j]'h := by
  have h' : j < t.data.toList.length := by rw [← Lib.size_eq]; exact h
  rw [List.getD_eq_getElem?_getD, List.getElem?_eq_getElem h', Array.getElem_toList]
  rfl
end Go.Proofs.YtnnglgolddhigaaDoor
