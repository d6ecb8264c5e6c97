import Derived.Test.YtichbejmelkjeaaGreatDoorP13
import Derived.Test.YtichbejmelkjeaaGreatDoorP12
import Derived.Test.YtichbejmelkjeaaGreatDoorP10
namespace Go.Proofs.YtichbejmelkjeaaGreatDoor
open Go.RowKit

/-! What is all of a word. -/
theorem scan_first : ∀ (f k : Nat) (l : List UInt8) (q : Nat) (x : Lx.Tk) (t : List (Nat × Lx.Tk)), Lx.scanS f k l = .inr ((q, x) :: t) → k ≤ q := by
  intro f
  induction f with
  | zero => intro k l q x t h; simp [Lx.scanS] at h
  | succ f ih =>
    intro k l q x t h
    match l with
    | [] => simp [Lx.scanS] at h; omega
    | c :: r =>
      unfold Lx.scanS at h
      split at h
      · have := ih _ _ _ _ _ h; omega
      · split at h
        · have := ih _ _ _ _ _ h; omega
        · split at h
          · cases h
          · split at h
            · cases h
            · cases h; omega
theorem whl_tok {w : List UInt8} (h : (whl w).kind ≠ 0) : Lx.tokS w = .inr (whl w) ∧ (whl w).len = w.length ∧ ∃ c r, w = c :: r ∧ Lx.blankB c = false ∧ c ≠ 35 := by
  unfold whl at h ⊢
  cases hs : Lx.scanS (w.length + 1) 0 w with
  | inl p => rw [hs] at h; exact absurd rfl h
  | inr L =>
    rw [hs] at h
    cases L with
    | nil => exact absurd rfl h
    | cons p t =>
      obtain ⟨k, x⟩ := p
      simp only at h ⊢
      by_cases hc : k = 0 ∧ x.len = w.length
      · rw [if_pos hc] at h ⊢
        obtain ⟨rfl, hl⟩ := hc
        cases w with
        | nil =>
          rw [Lx.scan_end] at hs
          cases hs
          exact absurd rfl h
        | cons c r =>
          rw [List.length_cons] at hs
          by_cases hb : Lx.blankB c = true
          · rw [Lx.scan_blank _ _ _ _ hb] at hs
            have := scan_first _ _ _ _ _ _ hs; omega
          · have hbf : Lx.blankB c = false := by simpa using hb
            by_cases h35 : c = 35
            · subst h35
              rw [Lx.scan_cmt] at hs
              have h1 := scan_first _ _ _ _ _ _ hs
              have h2 := Lx.cmt_pos r
              omega
            · cases ht : Lx.tokS (c :: r) with
              | inl e => rw [Lx.scan_bad _ _ _ _ _ hbf h35 ht] at hs; cases hs
              | inr y =>
                have hc := Lx.scan_tok (r.length + 1) 0 c r y [] hbf h35 ht
                rw [hs] at hc
                cases hz : Lx.scanS (r.length + 1) (0 + y.len) ((c :: r).drop y.len) with
                | inl p => rw [hz] at hc; cases hc
                | inr M =>
                  rw [hz] at hc
                  simp [Lx.comb] at hc
                  refine ⟨?_, hl, c, r, rfl, hbf, h35⟩
                  first | (rw [hc.1]; done) | (rw [hc.1]; exact ht)
      · rw [if_neg hc] at h; exact absurd rfl h
theorem whl_of {c : UInt8} {r : List UInt8} {x : Lx.Tk} (hb : Lx.blankB c = false) (h35 : c ≠ 35) (ht : Lx.tokS (c :: r) = .inr x) (hl : x.len = (c :: r).length) : whl (c :: r) = x := by
  have hc := Lx.scan_tok (r.length + 1) 0 c r x [] hb h35 ht
  rw [hl, List.drop_length, Lx.scan_end] at hc
  unfold whl
  rw [List.length_cons]
  cases hz : Lx.scanS (r.length + 1 + 1) 0 (c :: r) with
  | inl p => rw [hz] at hc; cases hc
  | inr M =>
    rw [hz] at hc
    simp only [Lx.comb, List.nil_append] at hc
    injection hc with hc
    subst hc
    simp only [List.cons_append]
    rw [if_pos ⟨trivial, by rw [hl, List.length_cons]⟩]
theorem whl_scan {w : List UInt8} (h : (whl w).kind ≠ 0) : Lx.scanS (w.length + 1) 0 w = .inr [(0, whl w), (w.length, ⟨0, 0, [], 0⟩)] := by
  obtain ⟨h1, h2, c, r, hw, hb, h35⟩ := whl_tok h
  generalize whl w = x at *
  subst hw
  have hc := Lx.scan_tok (r.length + 1) 0 c r x [] hb h35 h1
  rw [h2, List.drop_length, Lx.scan_end] at hc
  cases hz : Lx.scanS ((c :: r).length + 1) 0 (c :: r) with
  | inl p => rw [List.length_cons] at hz; rw [hz] at hc; cases hc
  | inr M =>
    rw [List.length_cons] at hz
    rw [hz] at hc
    simp only [Lx.comb, List.nil_append] at hc
    injection hc with hc
    rw [hc]; simp
theorem digit_sep {c : UInt8} (h : Lx.digitB c = true) : Lx.letterB c = false ∧ Lx.blankB c = false ∧ c ≠ 35 := by
  simp [Lx.digitB] at h
  refine ⟨?_, ?_, ?_⟩
  · simp [Lx.letterB]; omega
  · simp [Lx.blankB]; omega
  · rintro rfl; simp at h
theorem letter_sep {c : UInt8} (h : Lx.letterB c = true) : Lx.blankB c = false ∧ c ≠ 35 := by
  simp [Lx.letterB] at h
  refine ⟨?_, ?_⟩
  · simp [Lx.blankB]; omega
  · rintro rfl; simp at h
theorem txt_kind (f : Nat) : ∀ (n : Nat) (V l : List UInt8) (x : Lx.Tk), Lx.txtS f n V l = .inr x → x.kind = 3 := by
  induction f with
  | zero => intro n V l x h; simp [Lx.txtS] at h
  | succ f ih =>
    intro n V l x h
    match l with
    | [] => simp [Lx.txtS] at h
    | c :: r =>
      unfold Lx.txtS at h
      split at h
      · cases h; rfl
      · split at h
        · cases h
        · exact ih _ _ _ _ h
theorem sign_kind {l : List UInt8} {x : Lx.Tk} (h : Lx.signS l = .inr x) : x.kind = 5 := by
  unfold Lx.signS at h
  split at h
  · cases h; rfl
  · cases h
theorem num_kind {l : List UInt8} {x : Lx.Tk} (h : Lx.numS l = .inr x) : x.kind = 2 ∧ x.len = (l.takeWhile Lx.digitB).length ∧ Lib.parseIntB 64 (l.takeWhile Lx.digitB) = .ok x.int ∧ ¬ (1 < (l.takeWhile Lx.digitB).length ∧ (l.takeWhile Lx.digitB).head? = some 48) ∧ ¬ 19 < (l.takeWhile Lx.digitB).length := by
  unfold Lx.numS at h
  simp only at h
  split at h
  · cases h
  · rename_i h1
    split at h
    · cases h
    · split at h
      · rename_i v hv
        cases h
        exact ⟨rfl, rfl, hv, fun h => h1 (.inl h), fun h => h1 (.inr h)⟩
      · cases h
theorem word_kind {l : List UInt8} {x : Lx.Tk} (h : Lx.wordS l = .inr x) : (x.kind = 4 ∨ x.kind = 1) ∧ x.len = (l.takeWhile Lx.innerB).length ∧ x.text = l.takeWhile Lx.innerB := by
  unfold Lx.wordS at h
  simp only at h
  split at h
  · cases h; exact ⟨.inl rfl, rfl, rfl⟩
  · split at h
    · cases h
    · cases h; exact ⟨.inr rfl, rfl, rfl⟩
theorem tw_full {p : UInt8 → Bool} {l : List UInt8} (h : (l.takeWhile p).length = l.length) : l.takeWhile p = l := by
  have := List.takeWhile_prefix p (l := l)
  exact this.eq_of_length h
theorem tw_all {p : UInt8 → Bool} {l : List UInt8} (h : ∀ c ∈ l, p c = true) : l.takeWhile p = l := by
  induction l with
  | nil => rfl
  | cons c r ih => rw [List.takeWhile_cons, if_pos (h c (by simp)), ih (fun d hd => h d (by simp [hd]))]
theorem tok_two {l : List UInt8} {x : Lx.Tk} (h : Lx.tokS l = .inr x) (hk : x.kind = 2) : Lx.numS l = .inr x ∧ ∃ c r, l = c :: r ∧ Lx.digitB c = true := by
  match l with
  | [] => simp [Lx.tokS] at h
  | c :: r =>
    simp only [Lx.tokS] at h
    split at h
    · have := (word_kind h).1; omega
    · split at h
      · rename_i hd; exact ⟨h, c, r, rfl, hd⟩
      · split at h
        · have := txt_kind _ _ _ _ _ h; omega
        · have := sign_kind h; omega
theorem tok_name {l : List UInt8} {x : Lx.Tk} (h : Lx.tokS l = .inr x) (hk : x.kind = 1) : Lx.wordS l = .inr x ∧ ∃ c r, l = c :: r ∧ Lx.letterB c = true := by
  match l with
  | [] => simp [Lx.tokS] at h
  | c :: r =>
    simp only [Lx.tokS] at h
    split at h
    · rename_i hd; exact ⟨h, c, r, rfl, hd⟩
    · split at h
      · have := (num_kind h).1; omega
      · split at h
        · have := txt_kind _ _ _ _ _ h; omega
        · have := sign_kind h; omega
/-- A name is the text of its token. -/
theorem whl_name {w : List UInt8} (h : (whl w).kind = 1) : (whl w).text = w ∧ w ≠ [] := by
  obtain ⟨h1, h2, -⟩ := whl_tok (w := w) (by omega)
  obtain ⟨h3, c, r, h4, -⟩ := tok_name h1 h
  obtain ⟨-, h5, h6⟩ := word_kind h3
  refine ⟨?_, by rw [h4]; simp⟩
  rw [h6]
  exact tw_full (by omega)

/-- What the document's number is. -/
def rnS (w : List UInt8) : Int := if w = [] ∨ 19 < w.length ∨ (1 < w.length ∧ w.head? = some 48) ∨ (∃ c ∈ w, Lx.digitB c = false) ∨ 9223372036854775808 ≤ Lx.dv 0 w then -1 else (Lx.dv 0 w : Int)
theorem rn_yes {w : List UInt8} (h : (numO w).2 = true) : rnS w = (numO w).1 ∧ 0 ≤ (numO w).1 ∧ (numO w).1 ≤ 9223372036854775807 := by
  unfold numO at h ⊢
  simp only at h ⊢
  have hk : (whl w).kind = 2 := by simpa using h
  obtain ⟨h1, h2, -⟩ := whl_tok (w := w) (by omega)
  obtain ⟨h3, c, r, h4, hd⟩ := tok_two h1 hk
  obtain ⟨-, h5, h6, h7, h8⟩ := num_kind h3
  have hf := tw_full (p := Lx.digitB) (l := w) (by omega)
  have hdg := Lx.tw_digits w
  rw [hf] at h6 h7 h8 hdg
  have hne : w ≠ [] := by rw [h4]; simp
  rw [Lx.parse_D w hne hdg] at h6
  by_cases hlt : Lx.dv 0 w < 9223372036854775808
  · rw [if_pos hlt] at h6
    injection h6 with h6
    rw [← h6]
    refine ⟨?_, by omega, by omega⟩
    unfold rnS
    rw [if_neg]
    rintro (h | h | h | ⟨d, hd1, hd2⟩ | h)
    · exact hne h
    · exact h8 h
    · exact h7 h
    · rw [hdg d hd1] at hd2; cases hd2
    · omega
  · rw [if_neg hlt] at h6; cases h6
theorem rn_not {w : List UInt8} (h : (numO w).2 = false) : rnS w = -1 := by
  unfold rnS
  by_cases hc : w = [] ∨ 19 < w.length ∨ (1 < w.length ∧ w.head? = some 48) ∨ (∃ c ∈ w, Lx.digitB c = false) ∨ 9223372036854775808 ≤ Lx.dv 0 w
  · rw [if_pos hc]
  · exfalso
    have h0 : w ≠ [] := fun e => hc (.inl e)
    have h19 : ¬ 19 < w.length := fun e => hc (.inr (.inl e))
    have h48 : ¬ (1 < w.length ∧ w.head? = some 48) := fun e => hc (.inr (.inr (.inl e)))
    have hd : ∀ c ∈ w, Lx.digitB c = true := fun c hcm => by
      cases hq : Lx.digitB c with
      | true => rfl
      | false => exact absurd (.inr (.inr (.inr (.inl ⟨c, hcm, hq⟩)))) hc
    have hlt : Lx.dv 0 w < 9223372036854775808 := by
      rcases Nat.lt_or_ge (Lx.dv 0 w) 9223372036854775808 with h | h
      · exact h
      · exact absurd (.inr (.inr (.inr (.inr h)))) hc
    have htw : w.takeWhile Lx.digitB = w := tw_all hd
    have hs := Lx.num_small w (by rw [htw]; exact h0) (by rw [htw]; exact hlt)
    rw [htw, if_neg h48, List.drop_length, if_neg (by simp)] at hs
    match w, h0 with
    | c :: r, _ =>
      have hdc := hd c (by simp)
      obtain ⟨hl, hb, h35⟩ := digit_sep hdc
      have ht : Lx.tokS (c :: r) = .inr ⟨2, (c :: r).length, [], ((Lx.dv 0 (c :: r) : Nat) : Int)⟩ := by
        simp only [Lx.tokS]
        rw [if_neg (by rw [hl]; simp), if_pos hdc]; exact hs
      have := whl_of hb h35 ht rfl
      unfold numO at h
      rw [this] at h
      simp at h
end Go.Proofs.YtichbejmelkjeaaGreatDoor
