import Derived.Lib.ConvBytes
import Derived.WalkKit
namespace Go.Proofs.YtichbejmelkjeaaGreatDoor
open Go.RowKit

/-- A blank of a command's line. -/
def bl (c : UInt8) : Bool := ((c.toNat : Int) == 32) || ((c.toNat : Int) == 9)
def nb (c : UInt8) : Bool := !bl c
def ltr (l : List UInt8) : List UInt8 := l.dropWhile bl
def rtr (l : List UInt8) : List UInt8 := (l.reverse.dropWhile bl).reverse
def trm (l : List UInt8) : List UInt8 := rtr (ltr l)
/-- How long the word is that stands first. -/
def wln (l : List UInt8) : Nat := (l.takeWhile nb).length
def wrd (l : List UInt8) : List UInt8 := l.take (wln l)
theorem wrd_eq (l : List UInt8) : wrd l = l.takeWhile nb := by
  unfold wrd wln
  induction l with
  | nil => rfl
  | cons c l ih => simp only [List.takeWhile_cons]; split <;> simp [ih]
theorem wln_le (l : List UInt8) : wln l ≤ l.length := (List.takeWhile_sublist _).length_le
theorem wln_pos (c : UInt8) (r : List UInt8) (h : bl c = false) : 1 ≤ wln (c :: r) := by
  unfold wln; rw [List.takeWhile_cons, if_pos (by simp [nb, h])]; simp

theorem mem_tw {p : UInt8 → Bool} {l : List UInt8} {c : UInt8} (h : c ∈ l.takeWhile p) : p c = true := by
  induction l with
  | nil => cases h
  | cons d l ih =>
    rw [List.takeWhile_cons] at h
    split at h
    · rename_i hd
      rcases List.mem_cons.1 h with rfl | h
      · exact hd
      · exact ih h
    · cases h
inductive F2 {α β : Type} (R : α → β → Prop) : List α → List β → Prop
  | nil : F2 R [] []
  | cons {a : α} {b : β} {l : List α} {m : List β} (h : R a b) (t : F2 R l m) : F2 R (a :: l) (b :: m)
theorem F2.imp {α β : Type} {R S : α → β → Prop} (hRS : ∀ a b, R a b → S a b) {l : List α} {m : List β} (h : F2 R l m) : F2 S l m := by
  induction h with
  | nil => exact .nil
  | cons h _ ih => exact .cons (hRS _ _ h) ih

theorem ltr_head (l : List UInt8) : ltr l = [] ∨ ∃ c r, ltr l = c :: r ∧ bl c = false := by
  unfold ltr
  induction l with
  | nil => left; rfl
  | cons c l ih =>
    rw [List.dropWhile_cons]
    split
    · exact ih
    · rename_i h; right; exact ⟨c, l, rfl, by simpa using h⟩
theorem ltr_of_head {c : UInt8} {r : List UInt8} (h : bl c = false) : ltr (c :: r) = c :: r := by
  unfold ltr; rw [List.dropWhile_cons, if_neg (by simp [h])]
theorem ltr_ltr (l : List UInt8) : ltr (ltr l) = ltr l := by
  rcases ltr_head l with h | ⟨c, r, h, hc⟩
  · rw [h]; rfl
  · rw [h, ltr_of_head hc]
theorem rtr_rtr (l : List UInt8) : rtr (rtr l) = rtr l := by
  have := ltr_ltr l.reverse
  unfold ltr at this
  unfold rtr
  rw [List.reverse_reverse, this]
theorem rtr_nil : rtr [] = [] := rfl
theorem rtr_blank (l : List UInt8) (c : UInt8) (h : bl c = true) : rtr (l ++ [c]) = rtr l := by
  unfold rtr; rw [List.reverse_append]; simp [h]
theorem rtr_nblank (l : List UInt8) (c : UInt8) (h : bl c = false) : rtr (l ++ [c]) = l ++ [c] := by
  unfold rtr; rw [List.reverse_append]; simp [h]
/-- All blanks behind go. -/
theorem rtr_split (l : List UInt8) : ∃ B, l = rtr l ++ B ∧ ∀ c ∈ B, bl c = true := by
  refine ⟨(l.reverse.takeWhile bl).reverse, ?_, ?_⟩
  · unfold rtr
    rw [← List.reverse_append, List.takeWhile_append_dropWhile, List.reverse_reverse]
  · intro c hc
    exact mem_tw (List.mem_reverse.1 hc)
theorem ltr_split (l : List UInt8) : ∃ B, l = B ++ ltr l ∧ ∀ c ∈ B, bl c = true :=
  ⟨l.takeWhile bl, (List.takeWhile_append_dropWhile).symm, fun _ hc => mem_tw hc⟩
theorem ltr_app (B l : List UInt8) (h : ∀ c ∈ B, bl c = true) : ltr (B ++ l) = ltr l := by
  induction B with
  | nil => rfl
  | cons c B ih =>
    show ltr (c :: (B ++ l)) = _
    unfold ltr
    rw [List.dropWhile_cons, if_pos (h c (by simp))]
    exact ih (fun d hd => h d (by simp [hd]))
theorem rtr_app (l B : List UInt8) (h : ∀ c ∈ B, bl c = true) : rtr (l ++ B) = rtr l := by
  unfold rtr
  rw [List.reverse_append]
  have := ltr_app B.reverse l.reverse (fun c hc => h c (List.mem_reverse.1 hc))
  unfold ltr at this
  rw [this]
theorem rtr_cons {c : UInt8} (h : bl c = false) (l : List UInt8) : rtr (c :: l) = c :: rtr l := by
  obtain ⟨B, hB, hb⟩ := rtr_split l
  have e : rtr (c :: l) = rtr (c :: rtr l) := by
    conv => lhs; rw [hB]
    rw [← List.cons_append, rtr_app _ _ hb]
  rw [e]
  rcases List.eq_nil_or_concat (rtr l) with h0 | ⟨m, d, h1⟩
  · rw [h0]; exact rtr_nblank [] c h
  · rw [List.concat_eq_append] at h1
    have hd : bl d = false := by
      have := rtr_rtr l
      rw [h1] at this
      by_cases hd : bl d = true
      · rw [rtr_blank _ _ hd] at this
        have h2 : (rtr m).length ≤ m.length := by
          unfold rtr; rw [List.length_reverse]; exact Nat.le_trans (List.dropWhile_sublist _).length_le (by simp)
        have h3 := congrArg List.length this
        rw [List.length_append] at h3; simp at h3; omega
      · simpa using hd
    rw [h1, ← List.cons_append, rtr_nblank _ _ hd]
theorem rtr_last {l m : List UInt8} {x : UInt8} (hx : rtr l = m ++ [x]) : bl x = false := by
  by_cases hd : bl x = true
  · have h5 := rtr_rtr l
    rw [hx, rtr_blank _ _ hd] at h5
    have h6 : (rtr m).length ≤ m.length := by
      unfold rtr; rw [List.length_reverse]; exact Nat.le_trans (List.dropWhile_sublist _).length_le (by simp)
    have h7 := congrArg List.length h5
    rw [List.length_append] at h7; simp at h7; omega
  · simpa using hd
theorem rtr_app_ne (a : List UInt8) {b : List UInt8} (h : rtr b ≠ []) : rtr (a ++ b) = a ++ rtr b := by
  obtain ⟨B, hB, hb⟩ := rtr_split b
  rcases List.eq_nil_or_concat (rtr b) with h0 | ⟨m, x, hx⟩
  · exact absurd h0 h
  · rw [List.concat_eq_append] at hx
    have e : rtr (a ++ b) = rtr ((a ++ rtr b) ++ B) := by rw [List.append_assoc, ← hB]
    rw [e, rtr_app _ _ hb, hx, ← List.append_assoc, rtr_nblank _ _ (rtr_last hx)]
theorem ltr_rtr (l : List UInt8) : ltr (rtr l) = trm l := by
  unfold trm
  rcases ltr_head l with h | ⟨c, r, h, hc⟩
  · rw [h, rtr_nil]
    obtain ⟨B, hB, hb⟩ := ltr_split l
    rw [h, List.append_nil] at hB
    have : rtr l = [] := by
      have := rtr_app [] l (by rw [hB]; exact hb)
      simpa [rtr_nil] using this
    rw [this]; rfl
  · obtain ⟨B, hB, hb⟩ := ltr_split l
    rw [h] at hB
    rw [h, rtr_cons hc]
    have : rtr l = B ++ (c :: rtr r) := by
      obtain ⟨D, hD, hd⟩ := rtr_split r
      have e : l = (B ++ (c :: rtr r)) ++ D := by rw [hB]; conv => lhs; rw [hD]
                                                  simp
      rw [e, rtr_app _ _ hd]
      rcases List.eq_nil_or_concat (c :: rtr r) with h0 | ⟨m, x, h1⟩
      · cases h0
      · rw [List.concat_eq_append] at h1
        have hx : rtr (m ++ [x]) = m ++ [x] := by rw [← h1, rtr_cons hc, rtr_rtr]
        have hxb : bl x = false := by
          by_cases hd : bl x = true
          · rw [rtr_blank _ _ hd] at hx
            have h2 : (rtr m).length ≤ m.length := by
              unfold rtr; rw [List.length_reverse]; exact Nat.le_trans (List.dropWhile_sublist _).length_le (by simp)
            have h3 := congrArg List.length hx
            rw [List.length_append] at h3; simp at h3; omega
          · simpa using hd
        rw [h1, ← List.append_assoc, rtr_nblank _ _ hxb]
    rw [this, ltr_app _ _ hb, ltr_of_head hc]
theorem trm_trm (l : List UInt8) : trm (trm l) = trm l := by
  show rtr (ltr (rtr (ltr l))) = trm l
  rw [ltr_rtr (ltr l)]
  unfold trm
  rw [ltr_ltr, rtr_rtr]
theorem trm_rtr (l : List UInt8) : trm (rtr l) = trm l := by
  unfold trm; rw [ltr_rtr]; unfold trm; rw [rtr_rtr]
theorem trm_ltr (l : List UInt8) : trm (ltr l) = trm l := by unfold trm; rw [ltr_ltr]
theorem trm_head (l : List UInt8) : trm l = [] ∨ ∃ c r, trm l = c :: r ∧ bl c = false := by
  unfold trm
  rcases ltr_head l with h | ⟨c, r, h, hc⟩
  · left; rw [h]; rfl
  · right; exact ⟨c, rtr r, by rw [h, rtr_cons hc], hc⟩
theorem rtr_len (l : List UInt8) : (rtr l).length ≤ l.length := by
  unfold rtr; rw [List.length_reverse]; exact Nat.le_trans (List.dropWhile_sublist _).length_le (by simp)
theorem ltr_len (l : List UInt8) : (ltr l).length ≤ l.length := (List.dropWhile_sublist _).length_le
theorem trm_len (l : List UInt8) : (trm l).length ≤ l.length := Nat.le_trans (rtr_len _) (ltr_len _)
theorem trm_none (l : List UInt8) (h : ∀ c ∈ l, bl c = true) : trm l = [] := by
  have := ltr_app l [] h
  rw [List.append_nil] at this
  unfold trm; rw [this]; rfl

/-- The word of a list does not hang on blanks behind. -/
theorem wln_rtr {c : UInt8} (_h : bl c = false) (r : List UInt8) : wln (rtr (c :: r)) = wln (c :: r) := by
  obtain ⟨B, hB, hb⟩ := rtr_split (c :: r)
  have e : (c :: r).takeWhile nb = (rtr (c :: r) ++ B).takeWhile nb := by rw [← hB]
  unfold wln
  rw [e]
  cases B with
  | nil => rw [List.append_nil]
  | cons d B =>
    have hd : nb d = false := by simp [nb, hb d (by simp)]
    rw [List.takeWhile_append]
    split
    · rw [List.takeWhile_cons, if_neg (by simp [hd]), List.append_nil]
      rename_i h1
      rw [h1]
    · rfl
/-- What stands behind the first word. -/
def nxt (l : List UInt8) : List UInt8 := trm (l.drop (wln l))
theorem nxt_trm (l : List UInt8) : nxt (trm l) = nxt (ltr l) := by
  unfold trm
  rcases ltr_head l with h | ⟨c, r, h, hc⟩
  · rw [h]; rfl
  · rw [h]
    unfold nxt
    rw [wln_rtr hc]
    obtain ⟨B, hB, hb⟩ := rtr_split (c :: r)
    have hl : wln (c :: r) ≤ (rtr (c :: r)).length := by rw [← wln_rtr hc]; exact wln_le _
    have e : (c :: r).drop (wln (c :: r)) = (rtr (c :: r)).drop (wln (c :: r)) ++ B := by
      conv => lhs; arg 2; rw [hB]
      rw [List.drop_append_of_le_length hl]
    rw [e]
    have e2 : ∀ x : List UInt8, trm (x ++ B) = trm x := fun x => by
      rw [← trm_rtr (x ++ B), rtr_app _ _ hb, trm_rtr]
    rw [e2]
theorem nxt_len {l : List UInt8} (hh : ∃ c r, l = c :: r ∧ bl c = false) : (nxt l).length < l.length := by
  obtain ⟨c, r, rfl, hc⟩ := hh
  unfold nxt
  have h1 := trm_len ((c :: r).drop (wln (c :: r)))
  have h2 := wln_pos c r hc
  rw [List.length_drop] at h1
  simp only [List.length_cons] at *
  omega

/-- The rests of a line, each from a word on. -/
def chs : Nat → List UInt8 → List (List UInt8)
  | 0, _ => []
  | f + 1, r => if r = [] then [] else r :: chs f (nxt r)
def rsts (l : List UInt8) : List (List UInt8) := chs (l.length + 1) (trm l)
theorem chs_nil (f : Nat) : chs f [] = [] := by cases f <;> simp [chs]
theorem chs_fuel : ∀ (f g : Nat) (r : List UInt8), (r = [] ∨ ∃ c q, r = c :: q ∧ bl c = false) → r.length < f → r.length < g → chs f r = chs g r := by
  intro f
  induction f with
  | zero => intro g r _ h; omega
  | succ f ih =>
    intro g r hr hf hg
    cases g with
    | zero => omega
    | succ g =>
      unfold chs
      by_cases h : r = []
      · rw [if_pos h, if_pos h]
      · rw [if_neg h, if_neg h]
        have hh := hr.resolve_left h
        have hl := nxt_len hh
        rw [ih g (nxt r) (trm_head _) (by omega) (by omega)]

/-! The document's words. -/
def cutS : Nat → Nat → List UInt8 → List (List UInt8 × Nat)
  | 0, _, _ => []
  | _ + 1, _, [] => []
  | f + 1, k, c :: r => if bl c = true then cutS f (k + 1) r else (wrd (c :: r), k) :: cutS f (k + wln (c :: r)) ((c :: r).drop (wln (c :: r)))
def endS : List (List UInt8 × Nat) → Nat
  | [] => 0
  | [(t, a)] => a + t.length
  | _ :: r => endS r
theorem endS_cons (x : List UInt8 × Nat) {r : List (List UInt8 × Nat)} (h : r ≠ []) : endS (x :: r) = endS r := by
  cases r with
  | nil => exact absurd rfl h
  | cons y r => rfl
theorem chs_cons (f : Nat) {r : List UInt8} (h : r ≠ []) : chs (f + 1) r = r :: chs f (nxt r) := by
  show (if r = [] then _ else _) = _
  rw [if_neg h]
theorem wrd_len (l : List UInt8) : (wrd l).length = wln l := by rw [wrd_eq]; rfl

/-- The end of the last word is where the blanks behind begin. -/
theorem cut_end : ∀ (f k : Nat) (l : List UInt8), l.length < f → (trm l = [] ∧ cutS f k l = []) ∨ (cutS f k l ≠ [] ∧ endS (cutS f k l) = k + (rtr l).length ∧ trm l ≠ []) := by
  intro f
  induction f with
  | zero => intro k l h; omega
  | succ f ih =>
    intro k l hf
    cases l with
    | nil => left; exact ⟨rfl, rfl⟩
    | cons c r =>
      simp only [List.length_cons] at hf
      unfold cutS
      by_cases hc : bl c = true
      · rw [if_pos hc]
        have e : trm (c :: r) = trm r := by
          have := ltr_app [c] r (by simpa using hc)
          unfold trm; rw [← this]; rfl
        rw [e]
        rcases ih (k + 1) r (by omega) with h | ⟨h1, h2, h3⟩
        · left; exact h
        · right
          refine ⟨h1, ?_, h3⟩
          rw [h2]
          -- the blank ahead stays
          have hn : rtr r ≠ [] := fun h0 => h3 (by rw [← trm_rtr, h0]; rfl)
          have : rtr (c :: r) = c :: rtr r := rtr_app_ne [c] hn
          rw [this, List.length_cons]; omega
      · have hcf : bl c = false := by simpa using hc
        rw [if_neg hc]
        right
        have hp := wln_pos c r hcf
        have hw := wln_le (c :: r)
        have hne : trm (c :: r) ≠ [] := by
          unfold trm; rw [ltr_of_head hcf, rtr_cons hcf]; simp
        refine ⟨by simp, ?_, hne⟩
        have hlen : ((c :: r).drop (wln (c :: r))).length < f := by rw [List.length_drop, List.length_cons]; omega
        have hsp : (c :: r) = wrd (c :: r) ++ (c :: r).drop (wln (c :: r)) := by unfold wrd; rw [List.take_append_drop]
        rcases ih (k + wln (c :: r)) ((c :: r).drop (wln (c :: r))) hlen with ⟨h1, h2⟩ | ⟨h1, h2, h3⟩
        · rw [h2]
          show k + (wrd (c :: r)).length = _
          -- all that is behind is blank
          obtain ⟨D, hD, hd⟩ := rtr_split ((c :: r).drop (wln (c :: r)))
          have hz : rtr ((c :: r).drop (wln (c :: r))) = [] := by
            rw [← ltr_rtr] at h1
            rcases ltr_head (rtr ((c :: r).drop (wln (c :: r)))) with h | ⟨a, b, h, ha⟩
            · obtain ⟨B, hB, hb⟩ := ltr_split (rtr ((c :: r).drop (wln (c :: r))))
              rw [h, List.append_nil] at hB
              have := rtr_app [] (rtr ((c :: r).drop (wln (c :: r)))) (by rw [hB]; exact hb)
              rw [List.nil_append, rtr_rtr, rtr_nil] at this
              exact this
            · rw [h] at h1; cases h1
          rw [hz, List.nil_append] at hD
          have e4 : rtr (c :: r) = rtr (wrd (c :: r)) := by
            conv => lhs; rw [hsp]
            rw [hD, rtr_app _ _ hd]
          have e5 : rtr (wrd (c :: r)) = wrd (c :: r) := by
            rcases List.eq_nil_or_concat (wrd (c :: r)) with h0 | ⟨m, x, hx⟩
            · rw [h0]; rfl
            · rw [List.concat_eq_append] at hx
              have hm : x ∈ (c :: r).takeWhile nb := by rw [← wrd_eq, hx]; simp
              have := mem_tw hm
              rw [hx, rtr_nblank _ _ (by simpa [nb] using this)]
          rw [e4, e5]
        · rw [endS_cons _ h1, h2]
          have hn : rtr ((c :: r).drop (wln (c :: r))) ≠ [] := fun h0 => h3 (by rw [← trm_rtr, h0]; rfl)
          have e6 : rtr (c :: r) = wrd (c :: r) ++ rtr ((c :: r).drop (wln (c :: r))) := by rw [← rtr_app_ne _ hn, ← hsp]
          rw [e6, List.length_append, wrd_len]; omega
/-- A word of the document, with where it begins, against a rest of the line. -/
theorem cut_chs : ∀ (f k : Nat) (l : List UInt8), l.length < f →
    ∀ (g : Nat), l.length < g → F2 (fun (x : List UInt8 × Nat) (r : List UInt8) => x.1 = wrd r ∧ k ≤ x.2 ∧ r = (rtr l).drop (x.2 - k)) (cutS f k l) (chs g (trm l)) := by
  intro f
  induction f with
  | zero => intro k l h; omega
  | succ f ih =>
    intro k l hf g hg
    cases l with
    | nil => rw [show trm [] = [] from rfl, chs_nil]; exact .nil
    | cons c r =>
      simp only [List.length_cons] at hf hg
      unfold cutS
      by_cases hc : bl c = true
      · rw [if_pos hc]
        have e : trm (c :: r) = trm r := by
          have := ltr_app [c] r (by simpa using hc)
          unfold trm; rw [← this]; rfl
        rw [e]
        refine (ih (k + 1) r (by omega) g (by omega)).imp ?_
        rintro x y ⟨h1, h2, h3⟩
        refine ⟨h1, by omega, ?_⟩
        by_cases hn : rtr r = []
        · have hz : rtr (c :: r) = [] := by
            obtain ⟨B, hB, hb⟩ := rtr_split r
            rw [hn, List.nil_append] at hB
            have := rtr_app [] (c :: r) (by intro d hd; rcases List.mem_cons.1 hd with rfl | hd; exact hc; exact hb d (hB ▸ hd))
            simpa [rtr_nil] using this
          rw [h3, hn, hz]; simp
        · have : rtr (c :: r) = c :: rtr r := rtr_app_ne [c] hn
          rw [h3, this, show x.2 - k = (x.2 - (k + 1)) + 1 from by omega, List.drop_succ_cons]
      · have hcf : bl c = false := by simpa using hc
        rw [if_neg hc]
        have hp := wln_pos c r hcf
        have hw := wln_le (c :: r)
        have ht : trm (c :: r) = rtr (c :: r) := by unfold trm; rw [ltr_of_head hcf]
        have hne : rtr (c :: r) ≠ [] := by rw [rtr_cons hcf]; simp
        cases g with
        | zero => omega
        | succ g =>
        rw [ht, chs_cons _ hne]
        refine F2.cons ⟨?_, Nat.le_refl _, by simp⟩ ?_
        · show (c :: r).take (wln (c :: r)) = (rtr (c :: r)).take (wln (rtr (c :: r)))
          rw [wln_rtr hcf]
          obtain ⟨B, hB, _⟩ := rtr_split (c :: r)
          have hl : wln (c :: r) ≤ (rtr (c :: r)).length := by rw [← wln_rtr hcf]; exact wln_le _
          have := List.take_append_of_le_length (l₂ := B) hl
          rw [← hB] at this
          exact this
        · have e7 : nxt (rtr (c :: r)) = trm ((c :: r).drop (wln (c :: r))) := by
            have := nxt_trm (c :: r)
            rw [ht, ltr_of_head hcf] at this
            rw [this]; rfl
          rw [e7]
          have hlen : ((c :: r).drop (wln (c :: r))).length < f := by rw [List.length_drop, List.length_cons]; omega
          have hleng : ((c :: r).drop (wln (c :: r))).length < g := by rw [List.length_drop, List.length_cons]; omega
          have IH := ih (k + wln (c :: r)) ((c :: r).drop (wln (c :: r))) hlen g hleng
          rcases cut_end f (k + wln (c :: r)) ((c :: r).drop (wln (c :: r))) hlen with ⟨_, h2⟩ | ⟨_, _, h3⟩
          · rw [h2] at IH ⊢
            cases hq : chs g (trm ((c :: r).drop (wln (c :: r)))) with
            | nil => exact .nil
            | cons a b => rw [hq] at IH; cases IH
          · refine IH.imp ?_
            rintro x y ⟨h4, h5, h6⟩
            refine ⟨h4, by omega, ?_⟩
            have hsp : (c :: r) = wrd (c :: r) ++ (c :: r).drop (wln (c :: r)) := by unfold wrd; rw [List.take_append_drop]
            have hn : rtr ((c :: r).drop (wln (c :: r))) ≠ [] := fun h0 => h3 (by rw [← trm_rtr, h0]; rfl)
            have e6 : rtr (c :: r) = wrd (c :: r) ++ rtr ((c :: r).drop (wln (c :: r))) := by rw [← rtr_app_ne _ hn, ← hsp]
            have e8 : (wrd (c :: r)).drop (x.2 - k) = [] := List.drop_eq_nil_of_le (by rw [wrd_len]; omega)
            rw [e6, List.drop_append, e8, List.nil_append, wrd_len, h6]
            congr 1
            omega
end Go.Proofs.YtichbejmelkjeaaGreatDoor

namespace Go.Proofs.YtichbejmelkjeaaGreatDoor.Lx
open Go.RowKit

/-- The keywords. -/
def kws : List ByteArray := [⟨#[102, 110]⟩, ⟨#[118, 97, 114]⟩, ⟨#[105, 102]⟩, ⟨#[101, 108, 115, 101]⟩, ⟨#[119, 104, 105, 108, 101]⟩, ⟨#[102, 111, 114]⟩, ⟨#[116, 111]⟩, ⟨#[98, 114, 101, 97, 107]⟩, ⟨#[99, 111, 110, 116, 105, 110, 117, 101]⟩, ⟨#[114, 101, 116, 117, 114, 110]⟩, ⟨#[112, 114, 105, 110, 116]⟩, ⟨#[114, 101, 97, 100]⟩, ⟨#[116, 114, 117, 101]⟩, ⟨#[102, 97, 108, 115, 101]⟩, ⟨#[105, 110, 116]⟩, ⟨#[98, 111, 111, 108]⟩, ⟨#[116, 101, 120, 116]⟩, ⟨#[110, 101, 119]⟩, ⟨#[108, 101, 110]⟩, ⟨#[115, 116, 114]⟩]
def kw (s : ByteArray) : Bool := kws.any fun k => k.data.toList == s.data.toList

/-- The digits of a byte's number. -/
def hexs : ByteArray := ⟨#[48, 49, 50, 51, 52, 53, 54, 55, 56, 57, 97, 98, 99, 100, 101, 102]⟩
def hx (n : Nat) : UInt8 := hexs.data.toList.getD n 0
/-- A byte's piece. -/
def pc (c : UInt8) : List UInt8 := if c = 10 then [92, 110] else if c = 34 ∨ c = 92 then [92, c] else if 32 ≤ c.toNat ∧ c.toNat ≤ 126 then [c] else [92, 120, hx (c.toNat / 16), hx (c.toNat % 16)]
def pcs (l : List UInt8) : List UInt8 := l.flatMap pc
def qt (l : List UInt8) : List UInt8 := 34 :: (pcs l ++ [34])
theorem pc_len (c : UInt8) : (pc c).length ≤ 4 := by unfold pc; split; · simp
                                                     split; · simp
                                                     split <;> simp
theorem pcs_len (l : List UInt8) : (pcs l).length ≤ 4 * l.length := by
  induction l with
  | nil => simp [pcs]
  | cons c l ih => have := pc_len c; unfold pcs at *; rw [List.flatMap_cons, List.length_append, List.length_cons]; omega
theorem pcs_step (l : List UInt8) (k : Nat) (h : k < l.length) : pcs (l.take (k + 1)) = pcs (l.take k) ++ pc (l[k]) := by
  unfold pcs
  rw [List.take_succ_eq_append_getElem h, List.flatMap_append]
  simp

def bv (l : List UInt8) : List Value := l.map fun c => Value.int .u8 (c.toNat : Int)
theorem bv_app (a b : List UInt8) : bv (a ++ b) = bv a ++ bv b := List.map_append
theorem bv_len (a : List UInt8) : (bv a).length = a.length := List.length_map ..
end Go.Proofs.YtichbejmelkjeaaGreatDoor.Lx

namespace Go.Proofs.YtichbejmelkjeaaGreatDoor.Vs.Lx
open Go.RowKit

/-- The digits of a byte's number. -/
def hexs : ByteArray := ⟨#[48, 49, 50, 51, 52, 53, 54, 55, 56, 57, 97, 98, 99, 100, 101, 102]⟩
def hx (n : Nat) : UInt8 := hexs.data.toList.getD n 0
/-- A byte's piece. -/
def pc (c : UInt8) : List UInt8 := if c = 10 then [92, 110] else if c = 34 ∨ c = 92 then [92, c] else if 32 ≤ c.toNat ∧ c.toNat ≤ 126 then [c] else [92, 120, hx (c.toNat / 16), hx (c.toNat % 16)]
def pcs (l : List UInt8) : List UInt8 := l.flatMap pc
def qt (l : List UInt8) : List UInt8 := 34 :: (pcs l ++ [34])
theorem pc_len (c : UInt8) : (pc c).length ≤ 4 := by unfold pc; split; · simp
                                                     split; · simp
                                                     split <;> simp
theorem pcs_len (l : List UInt8) : (pcs l).length ≤ 4 * l.length := by
  induction l with
  | nil => simp [pcs]
  | cons c l ih => have := pc_len c; unfold pcs at *; rw [List.flatMap_cons, List.length_append, List.length_cons]; omega
theorem pcs_step (l : List UInt8) (k : Nat) (h : k < l.length) : pcs (l.take (k + 1)) = pcs (l.take k) ++ pc (l[k]) := by
  unfold pcs
  rw [List.take_succ_eq_append_getElem h, List.flatMap_append]
  simp

def bv (l : List UInt8) : List Value := l.map fun c => Value.int .u8 (c.toNat : Int)
theorem bv_app (a b : List UInt8) : bv (a ++ b) = bv a ++ bv b := List.map_append
theorem bv_len (a : List UInt8) : (bv a).length = a.length := List.length_map ..
def hv (a : UInt8) : Nat := hexs.data.toList.findIdx (fun c => c == a)
theorem hv_all : ∀ n : Fin 16, hv (hx n.val) = n.val ∧ 32 ≤ (hx n.val).toNat ∧ (hx n.val).toNat ≤ 126 := by decide +kernel
/-- The byte of a piece. -/
def unp : List UInt8 → UInt8
  | [] => 0
  | c :: r => if c ≠ 92 then c else match r with
    | [] => 0
    | d :: r => if d = 110 then 10 else if d = 34 ∨ d = 92 then d else match r with
      | a :: b :: _ => UInt8.ofNat (16 * hv a + hv b)
      | _ => 0
theorem unp_pc (c : UInt8) (rest : List UInt8) : unp (pc c ++ rest) = c := by
  have hc := UInt8.toNat_lt c
  unfold pc
  by_cases h1 : c = 10
  · rw [if_pos h1]; subst h1; simp [unp]
  · rw [if_neg h1]
    by_cases h2 : c = 34 ∨ c = 92
    · rw [if_pos h2]
      have h3 : c ≠ 110 := by rcases h2 with rfl | rfl <;> decide
      simp only [List.cons_append, List.nil_append, unp]
      rw [if_neg (by simp), if_neg h3, if_pos h2]
    · rw [if_neg h2]
      by_cases h3 : 32 ≤ c.toNat ∧ c.toNat ≤ 126
      · rw [if_pos h3]
        simp only [List.cons_append, List.nil_append, unp]
        rw [if_pos (fun e => h2 (Or.inr e))]
      · rw [if_neg h3]
        simp only [List.cons_append, List.nil_append, unp]
        rw [if_neg (by simp), if_neg (by decide), if_neg (by decide)]
        have g1 := (hv_all ⟨c.toNat / 16, by omega⟩).1
        have g2 := (hv_all ⟨c.toNat % 16, by omega⟩).1
        simp only at g1 g2
        rw [g1, g2]
        apply UInt8.toNat_inj.1
        rw [UInt8.toNat_ofNat_of_lt' (by show _ < 256; omega)]
        omega
theorem pc_head (c : UInt8) : ∃ d r, pc c = d :: r ∧ d ≠ 34 := by
  unfold pc
  by_cases h1 : c = 10
  · rw [if_pos h1]; exact ⟨_, _, rfl, by decide⟩
  · rw [if_neg h1]
    by_cases h2 : c = 34 ∨ c = 92
    · rw [if_pos h2]; exact ⟨_, _, rfl, by decide⟩
    · rw [if_neg h2]
      by_cases h3 : 32 ≤ c.toNat ∧ c.toNat ≤ 126
      · rw [if_pos h3]; exact ⟨_, _, rfl, fun e => h2 (Or.inl e)⟩
      · rw [if_neg h3]; exact ⟨_, _, rfl, by decide⟩
theorem pc_bytes (c : UInt8) : ∀ d ∈ pc c, 32 ≤ d.toNat ∧ d.toNat ≤ 126 := by
  have hc := UInt8.toNat_lt c
  unfold pc
  by_cases h1 : c = 10
  · rw [if_pos h1]; decide
  · rw [if_neg h1]
    by_cases h2 : c = 34 ∨ c = 92
    · rw [if_pos h2]; rcases h2 with rfl | rfl <;> decide
    · rw [if_neg h2]
      by_cases h3 : 32 ≤ c.toNat ∧ c.toNat ≤ 126
      · rw [if_pos h3]; intro d hd; rw [List.mem_singleton.1 hd]; exact h3
      · rw [if_neg h3]
        intro d hd
        simp only [List.mem_cons, List.not_mem_nil, or_false] at hd
        rcases hd with rfl | rfl | rfl | rfl
        · decide
        · decide
        · exact (hv_all ⟨c.toNat / 16, by omega⟩).2
        · exact (hv_all ⟨c.toNat % 16, by omega⟩).2
theorem pcs_cons (c : UInt8) (l : List UInt8) : pcs (c :: l) = pc c ++ pcs l := List.flatMap_cons
theorem qt_bytes (l : List UInt8) : ∀ d ∈ qt l, 32 ≤ d.toNat ∧ d.toNat ≤ 126 := by
  intro d hd
  unfold qt at hd
  rcases List.mem_cons.1 hd with rfl | hd
  · decide
  · rcases List.mem_append.1 hd with hd | hd
    · unfold pcs at hd
      obtain ⟨c, _, hc⟩ := List.mem_flatMap.1 hd
      exact pc_bytes c d hc
    · rw [List.mem_singleton.1 hd]; decide
theorem pcs_inj : ∀ (a b : List UInt8), pcs a ++ [34] = pcs b ++ [34] → a = b
  | [], [], _ => rfl
  | [], d :: b, h => by
    obtain ⟨x, r, e, hx⟩ := pc_head d
    rw [pcs_cons, e] at h
    simp [pcs] at h
  | c :: a, [], h => by
    obtain ⟨x, r, e, hx⟩ := pc_head c
    rw [pcs_cons, e] at h
    simp [pcs] at h
  | c :: a, d :: b, h => by
    rw [pcs_cons, pcs_cons, List.append_assoc, List.append_assoc] at h
    have h1 := unp_pc c (pcs a ++ [34])
    rw [h, unp_pc d] at h1
    subst h1
    rw [pcs_inj a b (List.append_cancel_left h)]
theorem qt_inj (a b : List UInt8) (h : qt a = qt b) : a = b := by
  unfold qt at h
  rw [List.cons.injEq] at h
  exact pcs_inj a b h.2
end Go.Proofs.YtichbejmelkjeaaGreatDoor.Vs.Lx
