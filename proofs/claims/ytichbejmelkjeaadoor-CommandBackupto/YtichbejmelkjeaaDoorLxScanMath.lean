import Derived.Test.YtichbejmelkjeaaDoorLxTokAt
namespace Go.Proofs.YtichbejmelkjeaaDoor.Lx
open Go.RowKit

theorem letter_inner {c : UInt8} (h : letterB c = true) : innerB c = true := by unfold innerB; rw [h]; rfl
theorem digit_inner {c : UInt8} (h : digitB c = true) : innerB c = true := by unfold innerB; rw [h]; simp

theorem tw_pos {p : UInt8 → Bool} {c : UInt8} {r : List UInt8} (h : p c = true) : 1 ≤ ((c :: r).takeWhile p).length := by rw [List.takeWhile_cons, if_pos h]; simp
theorem tw_le {p : UInt8 → Bool} (l : List UInt8) : (l.takeWhile p).length ≤ l.length := (List.takeWhile_sublist _).length_le

theorem word_len {c : UInt8} {r : List UInt8} {x : Tk} (hc : innerB c = true) (h : wordS (c :: r) = .inr x) : 1 ≤ x.len ∧ x.len ≤ (c :: r).length := by
  have h1 := tw_pos (r := r) hc
  have h2 := tw_le (p := innerB) (c :: r)
  unfold wordS at h
  simp only at h
  split at h
  · cases h; exact ⟨h1, h2⟩
  · split at h
    · cases h
    · cases h; exact ⟨h1, h2⟩
theorem num_len {c : UInt8} {r : List UInt8} {x : Tk} (hc : digitB c = true) (h : numS (c :: r) = .inr x) : 1 ≤ x.len ∧ x.len ≤ (c :: r).length := by
  have h1 := tw_pos (r := r) hc
  have h2 := tw_le (p := digitB) (c :: r)
  unfold numS at h
  simp only at h
  split at h
  · cases h
  · split at h
    · cases h
    · split at h
      · cases h; exact ⟨h1, h2⟩
      · cases h
theorem txt_len (f : Nat) : ∀ (n : Nat) (V l : List UInt8) (x : Tk), txtS f n V l = .inr x → n + 1 ≤ x.len ∧ x.len ≤ n + l.length := by
  induction f with
  | zero => intro n V l x h; simp [txtS] at h
  | succ f ih =>
    intro n V l x h
    match l with
    | [] => simp [txtS] at h
    | c :: r =>
      unfold txtS at h
      split at h
      · cases h
        simp
      · split at h
        · cases h
        · obtain ⟨h1, h2⟩ := ih _ _ _ _ h
          have hle := pcS_le (c :: r)
          rw [List.length_drop] at h2
          omega
theorem sgs_pos : ∀ s ∈ sgs, 1 ≤ s.size := by decide
theorem sign_len {l : List UInt8} {x : Tk} (h : signS l = .inr x) : 1 ≤ x.len ∧ x.len ≤ l.length := by
  unfold signS at h
  split at h
  · rename_i s hf
    cases h
    have hm := List.mem_of_find?_eq_some hf
    have hp := List.find?_some hf
    refine ⟨sgs_pos s hm, ?_⟩
    show s.size ≤ l.length
    rw [Lib.size_eq]
    exact (List.isPrefixOf_iff_prefix.1 hp).length_le
  · cases h
theorem tok_len {l : List UInt8} {x : Tk} (h : tokS l = .inr x) : 1 ≤ x.len ∧ x.len ≤ l.length := by
  match l with
  | [] => simp [tokS] at h
  | c :: r =>
    simp only [tokS] at h
    split at h
    · rename_i hc; exact word_len (letter_inner hc) h
    · split at h
      · rename_i hc; exact num_len hc h
      · split at h
        · have := txt_len _ _ _ _ _ h
          rw [List.length_cons]
          omega
        · exact sign_len h

theorem word_err {l : List UInt8} {e : Nat} (h : wordS l = .inl e) : 20 ≤ e ∧ e ≤ 23 := by
  unfold wordS at h
  simp only at h
  split at h
  · cases h
  · split at h
    · cases h; omega
    · cases h
theorem num_err {l : List UInt8} {e : Nat} (h : numS l = .inl e) : 20 ≤ e ∧ e ≤ 23 := by
  unfold numS at h
  simp only at h
  split at h
  · cases h; omega
  · split at h
    · cases h; omega
    · split at h
      · cases h
      · cases h; omega
theorem txt_err (f : Nat) : ∀ (n : Nat) (V l : List UInt8) (e : Nat), txtS f n V l = .inl e → 20 ≤ e ∧ e ≤ 23 := by
  induction f with
  | zero => intro n V l x h; simp [txtS] at h; omega
  | succ f ih =>
    intro n V l x h
    match l with
    | [] => simp [txtS] at h; omega
    | c :: r =>
      unfold txtS at h
      split at h
      · cases h
      · split at h
        · cases h; omega
        · exact ih _ _ _ _ h
theorem sign_err {l : List UInt8} {e : Nat} (h : signS l = .inl e) : 20 ≤ e ∧ e ≤ 23 := by
  unfold signS at h
  split at h
  · cases h
  · cases h; omega
theorem tok_err {l : List UInt8} {e : Nat} (h : tokS l = .inl e) : 20 ≤ e ∧ e ≤ 23 := by
  match l with
  | [] => simp [tokS] at h; omega
  | c :: r =>
    simp only [tokS] at h
    split at h
    · exact word_err h
    · split at h
      · exact num_err h
      · split at h
        · exact txt_err _ _ _ _ _ h
        · exact sign_err h

/-- Tokens ahead of what is scanned. -/
def comb (acc : List (Nat × Tk)) : Scanned → Scanned
  | .inl p => .inl p
  | .inr l => .inr (acc ++ l)

theorem scan_end (f k : Nat) : scanS (f + 1) k [] = .inr [(k, ⟨0, 0, [], 0⟩)] := rfl
theorem scan_blank (f k : Nat) (c : UInt8) (r : List UInt8) (h : blankB c = true) : scanS (f + 1) k (c :: r) = scanS f (k + 1) r := by
  simp only [scanS]; rw [if_pos h]
theorem scan_cmt (f k : Nat) (r : List UInt8) : scanS (f + 1) k (35 :: r) = scanS f (k + cmtS (35 :: r)) ((35 :: r).drop (cmtS (35 :: r))) := by
  simp only [scanS]; rw [if_neg (by decide), if_pos trivial]
theorem scan_bad (f k : Nat) (c : UInt8) (r : List UInt8) (e : Nat) (h : blankB c = false) (h2 : c ≠ 35) (ht : tokS (c :: r) = .inl e) : scanS (f + 1) k (c :: r) = .inl (e, k) := by
  simp only [scanS]; rw [if_neg (by rw [h]; simp), if_neg h2, ht]
theorem scan_tok (f k : Nat) (c : UInt8) (r : List UInt8) (x : Tk) (acc : List (Nat × Tk)) (h : blankB c = false) (h2 : c ≠ 35) (ht : tokS (c :: r) = .inr x) : comb acc (scanS (f + 1) k (c :: r)) = comb (acc ++ [(k, x)]) (scanS f (k + x.len) ((c :: r).drop x.len)) := by
  simp only [scanS]; rw [if_neg (by rw [h]; simp), if_neg h2, ht]
  simp only
  cases scanS f (k + x.len) ((c :: r).drop x.len) with
  | inl p => rfl
  | inr l => simp [comb]
theorem cmt_pos (r : List UInt8) : 1 ≤ cmtS (35 :: r) := by unfold cmtS; exact tw_pos (by decide)

def toksV (l : List (Nat × Tk)) : List Value := l.flatMap fun p => tkCells p.1 p.2
theorem toksV_app (a b : List (Nat × Tk)) : toksV (a ++ b) = toksV a ++ toksV b := List.flatMap_append
theorem toksV_len (a : List (Nat × Tk)) : (toksV a).length = a.length * 5 := by
  induction a with
  | nil => rfl
  | cons p a ih => unfold toksV at *; rw [List.flatMap_cons, List.length_append, ih, List.length_cons]; simp [tkCells]; omega
end Go.Proofs.YtichbejmelkjeaaDoor.Lx
