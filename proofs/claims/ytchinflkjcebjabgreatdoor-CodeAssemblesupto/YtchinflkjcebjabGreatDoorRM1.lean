import Derived.Test.YtchinflkjcebjabGreatDoorCXb
import Derived.Test.YtchinflkjcebjabGreatDoorCX1
namespace Go.Proofs.YtchinflkjcebjabGreatDoor
open Go.RowKit

/-! The document's words of a line, over lists. -/
abbrev Tk := Bs × Bool
/-- A quoted word, from behind its first quote on: what it says, and what is left. -/
def rqF : Nat → Bs → Bs → Option (Bs × Bs)
  | 0, _, _ => none
  | f + 1, acc, l => match l with
    | [] => none
    | c :: r => if c = 34 then (if r = [] ∨ isSep (r.headD 0) = true then some (acc, r) else none) else match fpS (c :: r) with
      | some (b, n) => rqF f (acc ++ [b]) ((c :: r).drop n)
      | none => none
def rwF : Nat → Bs → Option (List Tk)
  | 0, _ => some []
  | _ + 1, [] => some []
  | f + 1, c :: r => if c = 35 then some [] else if c = 32 ∨ c = 9 then rwF f r else if c = 34 then (match rqF (r.length + 1) [] r with
      | none => none
      | some (t, l) => match rwF f l with | none => none | some T => some ((t, true) :: T))
    else match rwF f ((c :: r).dropWhile (fun d => !isSep d)) with | none => none | some T => some (((c :: r).takeWhile (fun d => !isSep d), false) :: T)
def rwS (l : Bs) : Option (List Tk) := rwF (l.length + 1) l
/-- The program's words, with no end. -/
def rawF : Nat → Bs → List Bs
  | 0, _ => []
  | _ + 1, [] => []
  | f + 1, c :: r => if c = 32 ∨ c = 9 then rawF f r else if c = 35 then [] else (c :: r).take (wdLen (c :: r)) :: rawF f ((c :: r).drop (wdLen (c :: r)))
def rawS (l : Bs) : List Bs := rawF (l.length + 1) l
/-- A quoted word with no bound. -/
def quF : Nat → Bs → Bs → Option Bs
  | 0, _, _ => none
  | f + 1, acc, l => match l with
    | [] => none
    | c :: r => if c = 34 then (if r = [] then some acc else none) else match fpS (c :: r) with
      | some (b, n) => quF f (acc ++ [b]) ((c :: r).drop n)
      | none => none
def quS (w : Bs) : Option Bs := match w with | [] => none | c :: r => if c = 34 then quF (r.length + 1) [] r else none
def isQ (w : Bs) : Bool := w.headD 0 == 34
def tokW (w : Bs) : Option Tk := if isQ w = true then (quS w).map (fun t => (t, true)) else some (w, false)
def toks : List Bs → Option (List Tk)
  | [] => some []
  | w :: L => match tokW w with | none => none | some t => match toks L with | none => none | some T => some (t :: T)

theorem wds_raw : ∀ (f k : Nat) (l : Bs), wdsF f k l = (rawF f l).take (255 - k)
  | 0, k, l => by simp [wdsF, rawF]
  | f + 1, k, [] => by simp [wdsF, rawF]
  | f + 1, k, c :: r => by
    rw [wdsF, rawF]
    by_cases hk : 254 < k
    · rw [if_pos hk, show 255 - k = 0 by omega, List.take_zero]
    · rw [if_neg hk]
      split
      · exact wds_raw f k r
      · split
        · simp
        · rw [wds_raw f (k + 1), show 255 - k = (255 - (k + 1)) + 1 by omega, List.take_succ_cons]
theorem wdsS_raw (l : Bs) : wdsS l = (rawS l).take 255 := wds_raw _ 0 l

theorem fp_ln3 {l : Bs} {b : UInt8} {n : Nat} (h : fpS l = some (b, n)) : 1 ≤ n ∧ n ≤ l.length := by
  unfold fpS at h
  split at h
  · cases h
  · rename_i c r
    split at h
    · split at h
      · simp only [Option.some.injEq, Prod.mk.injEq] at h
        rw [List.length_cons]; omega
      · cases h
    · split at h
      · cases h
      · rename_i d q
        split at h
        · simp only [Option.some.injEq, Prod.mk.injEq] at h
          simp only [List.length_cons]; omega
        · split at h
          · simp only [Option.some.injEq, Prod.mk.injEq] at h
            simp only [List.length_cons]; omega
          · split at h
            · split at h
              · rename_i x y q'
                split at h
                · simp only [Option.some.injEq, Prod.mk.injEq] at h
                  simp only [List.length_cons]; omega
                · cases h
              · cases h
            · cases h
def hexP (q : Bs) : Option (UInt8 × Nat) := match q with
  | x :: y :: _ => (match nib x, nib y with | some h, some l => some (UInt8.ofNat (16 * h + l), 4) | _, _ => none)
  | _ => none
theorem fp_bs (d : UInt8) (q : Bs) : fpS (92 :: d :: q) = if d = 110 then some (10, 2) else if d = 34 ∨ d = 92 then some (d, 2) else if d = 120 then hexP q else none := rfl
theorem nib_ne {x : UInt8} {a : Nat} (h : nib x = some a) : x ≠ 34 ∧ x ≠ 92 := by
  constructor
  · rintro rfl
    cases h
  · rintro rfl
    cases h
def quK (r : Bs) : Nat := qeS r + ((r.drop (qeS r)).takeWhile (fun c => !isSep c)).length
theorem fp_take {c : UInt8} {r : Bs} (hc : c ≠ 34) : 1 ≤ quK (c :: r) ∧ fpS ((c :: r).take (quK (c :: r))) = fpS (c :: r) ∧ ∀ b n, fpS (c :: r) = some (b, n) → quK (c :: r) = n + quK ((c :: r).drop n) := by
  by_cases h9 : c = 92
  · subst h9
    cases r with
    | nil => exact ⟨by decide, by decide, fun b n h => by cases h⟩
    | cons d q =>
      have e : quK (92 :: d :: q) = quK q + 2 := by
        unfold quK
        rw [qe2, show 2 + qeS q = qeS q + 2 by omega, List.drop_succ_cons, List.drop_succ_cons]
        omega
      refine ⟨by omega, ?_, fun b n h => ?_⟩
      · rw [e, List.take_succ_cons, List.take_succ_cons, fp_bs, fp_bs]
        split
        · rfl
        · split
          · rfl
          · split
            · unfold hexP
              cases q with
              | nil => simp
              | cons x q =>
                cases q with
                | nil =>
                  have : ([x] : Bs).take (quK [x]) = [] ∨ ([x] : Bs).take (quK [x]) = [x] := by
                    cases quK [x] with
                    | zero => exact .inl rfl
                    | succ k => right; simp
                  rcases this with e | e <;> rw [e]
                | cons y q =>
                  simp only
                  cases hx : nib x with
                  | none =>
                    generalize quK (x :: y :: q) = k
                    match k with
                    | 0 => rfl
                    | 1 => rfl
                    | k + 2 => simp only [List.take_succ_cons]; rw [hx]
                  | some a =>
                    cases hy : nib y with
                    | none =>
                      generalize quK (x :: y :: q) = k
                      match k with
                      | 0 => rfl
                      | 1 => rfl
                      | k + 2 => simp only [List.take_succ_cons]; rw [hx, hy]
                    | some a' =>
                      have nx : x ≠ 34 ∧ x ≠ 92 := nib_ne hx
                      have ny : y ≠ 34 ∧ y ≠ 92 := nib_ne hy
                      have ek : ∃ k, quK (x :: y :: q) = k + 2 := by
                        refine ⟨quK (x :: y :: q) - 2, ?_⟩
                        unfold quK
                        rw [qe1 _ nx.1 nx.2, qe1 _ ny.1 ny.2]
                        omega
                      obtain ⟨k, ek⟩ := ek
                      rw [ek]
                      simp only [List.take_succ_cons]
                      rw [hx, hy]
            · rfl
      · rw [fp_bs] at h
        unfold hexP at h
        split at h
        · simp only [Option.some.injEq, Prod.mk.injEq] at h
          rw [e, ← h.2]
          exact Nat.add_comm _ _
        · split at h
          · simp only [Option.some.injEq, Prod.mk.injEq] at h
            rw [e, ← h.2]
            exact Nat.add_comm _ _
          · split at h
            · split at h
              · rename_i x y q'
                split at h
                · rename_i a a' hx hy
                  simp only [Option.some.injEq, Prod.mk.injEq] at h
                  have nx : x ≠ 34 ∧ x ≠ 92 := nib_ne hx
                  have ny : y ≠ 34 ∧ y ≠ 92 := nib_ne hy
                  rw [e, ← h.2]
                  show quK (x :: y :: q') + 2 = 4 + quK q'
                  unfold quK
                  rw [qe1 _ nx.1 nx.2, qe1 _ ny.1 ny.2, show 1 + (1 + qeS q') = qeS q' + 2 by omega, List.drop_succ_cons, List.drop_succ_cons]
                  omega
                · cases h
              · cases h
            · cases h
  · have e : quK (c :: r) = quK r + 1 := by
      unfold quK
      rw [qe1 _ hc h9, show 1 + qeS r = qeS r + 1 by omega, List.drop_succ_cons]
      omega
    refine ⟨by omega, ?_, fun b n h => ?_⟩
    · rw [e, List.take_succ_cons]
      unfold fpS
      simp only
      rw [if_pos h9, if_pos h9]
    · unfold fpS at h
      simp only at h
      rw [if_pos h9] at h
      split at h
      · simp only [Option.some.injEq, Prod.mk.injEq] at h
        rw [e, ← h.2, List.drop_one, List.tail_cons]
        omega
      · cases h
theorem rq_qu : ∀ (f g : Nat) (acc r : Bs), r.length < f → r.length < g → rqF f acc r = (quF g acc (r.take (quK r))).map (fun t => (t, r.drop (quK r)))
  | 0, _, _, _, h, _ => by omega
  | _, 0, _, _, _, h => by omega
  | f + 1, g + 1, acc, [], _, _ => rfl
  | f + 1, g + 1, acc, c :: r, hf, hg => by
    rw [List.length_cons] at hf hg
    by_cases hc : c = 34
    · subst hc
      have eq1 : qeS (34 :: r) = 1 := by rw [qeS.eq_def]; rfl
      have e : quK (34 :: r) = (r.takeWhile (fun c => !isSep c)).length + 1 := by
        unfold quK
        rw [eq1, List.drop_one, List.tail_cons]
        omega
      have et : r.take (r.takeWhile (fun c => !isSep c)).length = r.takeWhile (fun c => !isSep c) := by
        conv => lhs; rw [← List.takeWhile_append_dropWhile (p := fun c => !isSep c) (l := r)]
        rw [List.takeWhile_append_dropWhile]
        conv => lhs; arg 2; rw [← List.takeWhile_append_dropWhile (p := fun c => !isSep c) (l := r)]
        rw [List.take_left]
      rw [e, List.take_succ_cons, et, rqF, quF, if_pos rfl, if_pos rfl, List.drop_succ_cons]
      cases r with
      | nil => rfl
      | cons d q =>
        cases hd : isSep d with
        | true =>
          rw [List.takeWhile_cons_of_neg (by rw [hd]; simp), if_pos (.inr hd), if_pos rfl]
          rfl
        | false =>
          rw [List.takeWhile_cons_of_pos (by rw [hd]; rfl), if_neg (by rintro (x | x); cases x; rw [List.headD_cons, hd] at x; cases x), if_neg (by simp)]
          rfl
    · obtain ⟨h1, h2, h3⟩ := fp_take (r := r) hc
      have hcons : ∃ r', (c :: r).take (quK (c :: r)) = c :: r' := by
        obtain ⟨k, ek⟩ : ∃ k, quK (c :: r) = k + 1 := ⟨quK (c :: r) - 1, by omega⟩
        rw [ek, List.take_succ_cons]
        exact ⟨_, rfl⟩
      obtain ⟨r', er⟩ := hcons
      rw [rqF]
      try simp only
      rw [if_neg hc]
      cases hp : fpS (c :: r) with
      | none =>
        rw [er] at h2 ⊢
        rw [quF]
        simp only
        rw [if_neg hc, h2, hp]
        rfl
      | some bn =>
        obtain ⟨b, n⟩ := bn
        have hn := fp_ln3 hp
        have ek := h3 b n hp
        simp only
        have ed : (c :: r').drop n = ((c :: r).drop n).take (quK ((c :: r).drop n)) := by
          rw [← er, List.drop_take, ek, Nat.add_sub_cancel_left]
        have ih := rq_qu f g (acc ++ [b]) ((c :: r).drop n) (by rw [List.length_drop, List.length_cons]; omega) (by rw [List.length_drop, List.length_cons]; omega)
        rw [ih, ← ed, List.drop_drop, ← ek]
        rw [er] at h2
        rw [er, quF]
        try simp only
        rw [if_neg hc, h2, hp]
theorem quF_len : ∀ (f : Nat) (acc l t : Bs), quF f acc l = some t → acc.length ≤ t.length
  | 0, _, _, _, h => by cases h
  | f + 1, acc, [], t, h => by cases h
  | f + 1, acc, c :: r, t, h => by
    rw [quF] at h
    try simp only at h
    split at h
    · split at h
      · injection h with h; rw [h]; exact Nat.le_refl _
      · cases h
    · split at h
      · have := quF_len f _ _ t h
        rw [List.length_append, List.length_singleton] at this
        omega
      · cases h
theorem qd_qu : ∀ (f : Nat) (acc l : Bs), acc.length ≤ 200 → qdF f acc l = (match quF f acc l with | some t => if t.length ≤ 200 then some t else none | none => none)
  | 0, _, _, _ => rfl
  | f + 1, acc, [], _ => rfl
  | f + 1, acc, c :: r, h => by
    rw [qdF, quF]
    try simp only
    split
    · split
      · simp only; rw [if_pos h]
      · rfl
    · cases hp : fpS (c :: r) with
      | none => rfl
      | some bn =>
        obtain ⟨b, n⟩ := bn
        simp only
        by_cases ha : acc.length = 200
        · rw [if_pos ha]
          cases hq : quF f (acc ++ [b]) ((c :: r).drop n) with
          | none => rfl
          | some t =>
            have := quF_len _ _ _ _ hq
            rw [List.length_append, List.length_singleton] at this
            simp only
            rw [if_neg (by omega)]
        · rw [if_neg ha, qd_qu f (acc ++ [b]) _ (by rw [List.length_append, List.length_singleton]; omega)]
theorem qdS_qu (w : Bs) : qdS w = (match quS w with | some t => if t.length ≤ 200 then some t else none | none => none) := by
  unfold qdS quS
  cases w with
  | nil => rfl
  | cons c r =>
    simp only
    split
    · exact qd_qu _ _ _ (by simp)
    · rfl
/-! The words of the document are the program's. -/
theorem wdLen_quote (r : Bs) : wdLen (34 :: r) = 1 + quK r := by
  unfold wdLen qlS quK
  simp only
  rw [if_pos trivial, show 1 + qeS r = qeS r + 1 by omega, List.drop_succ_cons]
  omega
theorem wdLen_plain {c : UInt8} (r : Bs) (h : c ≠ 34) : wdLen (c :: r) = ((c :: r).takeWhile (fun d => !isSep d)).length := by
  unfold wdLen qlS
  simp only
  rw [if_neg h, List.drop_zero, Nat.zero_add]
theorem quK_le (r : Bs) : quK r ≤ r.length := by
  unfold quK
  have h1 : ∀ (m : Nat) (l : Bs), l.length ≤ m → qeS l ≤ l.length := by
    intro m
    induction m with
    | zero =>
      intro l h
      cases l with
      | nil => simp [qeS]
      | cons _ _ => simp at h
    | succ m ih =>
      intro l h
      cases l with
      | nil => simp [qeS]
      | cons c r =>
        rw [List.length_cons] at h ⊢
        rw [qeS.eq_def]
        simp only
        split
        · omega
        · split
          · cases r with
            | nil => simp
            | cons d q =>
              simp only [List.length_cons] at h ⊢
              have := ih q (by omega)
              omega
          · have := ih r (by omega)
            omega
  have h2 := h1 _ r (Nat.le_refl _)
  have h3 := (List.takeWhile_sublist (p := fun c => !isSep c) (l := r.drop (qeS r))).length_le
  rw [List.length_drop] at h3
  omega
theorem take_tw (l : Bs) : l.take (l.takeWhile (fun d => !isSep d)).length = l.takeWhile (fun d => !isSep d) ∧ l.drop (l.takeWhile (fun d => !isSep d)).length = l.dropWhile (fun d => !isSep d) := by
  have e := List.takeWhile_append_dropWhile (p := fun d => !isSep d) (l := l)
  generalize l.takeWhile (fun d => !isSep d) = a at *
  generalize l.dropWhile (fun d => !isSep d) = b at *
  rw [← e, List.take_left, List.drop_left]
  exact ⟨rfl, rfl⟩
theorem rw_raw : ∀ (f : Nat) (l : Bs), l.length < f → rwF f l = toks (rawF f l)
  | 0, _, h => by omega
  | f + 1, [], _ => rfl
  | f + 1, c :: r, hf => by
    rw [List.length_cons] at hf
    rw [rwF, rawF]
    by_cases h5 : c = 35
    · subst h5
      rw [if_pos rfl, if_neg (by decide), if_pos rfl]
      rfl
    · rw [if_neg h5]
      by_cases hb : c = 32 ∨ c = 9
      · rw [if_pos hb, if_pos hb]
        exact rw_raw f r (by omega)
      · rw [if_neg hb, if_neg hb, if_neg h5, toks]
        by_cases hq : c = 34
        · subst hq
          rw [if_pos rfl, wdLen_quote, show 1 + quK r = quK r + 1 by omega, List.take_succ_cons, List.drop_succ_cons]
          have e1 : tokW (34 :: r.take (quK r)) = (quF ((r.take (quK r)).length + 1) [] (r.take (quK r))).map (fun t => (t, true)) := by
            unfold tokW isQ
            rw [List.headD_cons, if_pos (by decide)]
            unfold quS
            simp only
            rw [if_pos trivial]
          have hl : (r.take (quK r)).length = quK r := by rw [List.length_take]; have := quK_le r; omega
          have e2 : ∀ (a b : Nat) (acc l : Bs), l.length < a → l.length < b → quF a acc l = quF b acc l := by
            intro a
            induction a with
            | zero => intro b acc l h; omega
            | succ a ih =>
              intro b acc l h1 h2
              cases b with
              | zero => omega
              | succ b =>
                cases l with
                | nil => rfl
                | cons c r =>
                  rw [List.length_cons] at h1 h2
                  rw [quF, quF]
                  try simp only
                  split
                  · rfl
                  · cases hp : fpS (c :: r) with
                    | none => rfl
                    | some bn =>
                      obtain ⟨b', n⟩ := bn
                      have hn := fp_ln3 hp
                      simp only
                      exact ih b _ _ (by rw [List.length_drop, List.length_cons]; omega) (by rw [List.length_drop, List.length_cons]; omega)
          rw [e1, rq_qu (r.length + 1) (r.length + 1) [] r (by omega) (by omega), e2 (r.length + 1) ((r.take (quK r)).length + 1) [] _ (by have := quK_le r; omega) (by omega)]
          cases hu : quF ((r.take (quK r)).length + 1) [] (r.take (quK r)) with
          | none => rfl
          | some t =>
            simp only [Option.map_some]
            rw [rw_raw f (r.drop (quK r)) (by rw [List.length_drop]; omega)]
        · rw [if_neg hq, wdLen_plain r hq]
          obtain ⟨t1, t2⟩ := take_tw (c :: r)
          rw [t1, t2]
          have hs : isSep c = false := by
            unfold isSep
            simp only [Bool.or_eq_false_iff, beq_eq_false_iff_ne, ne_eq]
            exact ⟨⟨fun x => hb (.inl x), fun x => hb (.inr x)⟩, h5⟩
          have e1 : tokW ((c :: r).takeWhile (fun d => !isSep d)) = some ((c :: r).takeWhile (fun d => !isSep d), false) := by
            unfold tokW isQ
            rw [List.takeWhile_cons_of_pos (by rw [hs]; rfl), List.headD_cons, if_neg (by simpa using hq)]
          rw [e1]
          simp only
          have hdl : ((c :: r).dropWhile (fun d => !isSep d)).length < f := by
            rw [List.dropWhile_cons_of_pos (by rw [hs]; rfl)]
            have := (List.dropWhile_sublist (p := fun d => !isSep d) (l := r)).length_le
            omega
          rw [rw_raw f _ hdl]
theorem rwS_raw (l : Bs) : rwS l = toks (rawS l) := rw_raw _ l (by omega)
end Go.Proofs.YtchinflkjcebjabGreatDoor
namespace Go.Proofs.YtchinflkjcebjabGreatDoor
open Go.RowKit

/-! Numbers, as the document reads them. -/
def rnumS (w : Bs) : Option Int :=
  let b := w.headD 0 == 45
  let s := if b = true then w.drop 1 else w
  if s.length < 1 ∨ 19 < s.length ∨ (s.headD 0 = 48 ∧ (1 < s.length ∨ b = true)) then none
  else if s.all digB = true then (if b = true then (if dv 0 s ≤ 9223372036854775808 then some (-(dv 0 s : Int)) else none) else if dv 0 s ≤ 9223372036854775807 then some (dv 0 s : Int) else none) else none
theorem dig_of {c : UInt8} (h : 48 ≤ c.toNat ∧ c.toNat ≤ 57) : digB c = true := by
  unfold digB
  simp only [Bool.and_eq_true, decide_eq_true_eq]
  exact h
theorem dig_to {c : UInt8} (h : digB c = true) : 48 ≤ c.toNat ∧ c.toNat ≤ 57 := by
  unfold digB at h
  simpa only [Bool.and_eq_true, decide_eq_true_eq] using h
theorem dv_lead {c : UInt8} {D : Bs} (hd : 48 ≤ c.toNat) (h : c ≠ 48) : 10 ^ D.length ≤ dv 0 (c :: D) := by
  have h1 : 1 ≤ c.toNat - 48 := by
    have : c.toNat ≠ 48 := fun e => h (UInt8.toNat_inj.1 (by rw [e]; rfl))
    omega
  rw [dv_cons, Nat.zero_mul, Nat.zero_add]
  refine Nat.le_trans ?_ (dv_ge D (c.toNat - 48))
  exact Nat.le_mul_of_pos_left _ h1
theorem dec_dv : ∀ (m : Nat) (D : Bs), D.length ≤ m → (∀ c ∈ D, 48 ≤ c.toNat ∧ c.toNat ≤ 57) → D ≠ [] → (D.headD 0 ≠ 48 ∨ D.length = 1) → Lib.decDigits (dv 0 D) = D
  | 0, D, hm, _, hne, _ => by
    cases D with
    | nil => exact absurd rfl hne
    | cons _ _ => simp at hm
  | m + 1, D, hm, hd, hne, h0 => by
    have e := List.dropLast_concat_getLast hne
    generalize D.dropLast = A at e
    generalize D.getLast hne = c at e
    subst e
    rw [List.length_append, List.length_singleton] at hm
    have hc := hd c (by simp)
    rw [dv_snoc, Lib.decDigits]
    cases A with
    | nil =>
      rw [dv_nil, Nat.zero_mul, Nat.zero_add, dif_pos (by omega), show 48 + (c.toNat - 48) = c.toNat by omega, UInt8.ofNat_toNat]
      rfl
    | cons a A =>
      have ha := hd a (by simp)
      have ha0 : a ≠ 48 := by
        rcases h0 with h0 | h0
        · simpa using h0
        · simp at h0
      have hl : 1 ≤ dv 0 (a :: A) := Nat.le_trans (Nat.pow_pos (by omega)) (dv_lead ha.1 ha0)
      rw [dif_neg (by omega), show (dv 0 (a :: A) * 10 + (c.toNat - 48)) / 10 = dv 0 (a :: A) by omega, show (dv 0 (a :: A) * 10 + (c.toNat - 48)) % 10 = c.toNat - 48 by omega, show 48 + (c.toNat - 48) = c.toNat by omega, UInt8.ofNat_toNat, dec_dv m (a :: A) (by omega) (fun x hx => hd x (by simp only [List.mem_append]; exact .inl hx)) (by simp) (.inl (by simpa using ha0))]
theorem dec_head (u : Nat) : 0 < u → ∃ c r, Lib.decDigits u = c :: r ∧ c ≠ 48 := by
  induction u using Nat.strongRecOn with
  | ind u ih =>
    intro hu
    rw [Lib.decDigits]
    by_cases h : u < 10
    · rw [dif_pos h]
      refine ⟨_, _, rfl, fun e => ?_⟩
      have := dd_pos u h
      rw [e] at this
      simp at this
      omega
    · rw [dif_neg h]
      obtain ⟨c, r, e, hc⟩ := ih (u / 10) (by omega) (by omega)
      rw [e]
      exact ⟨c, _, rfl, hc⟩
theorem dec_len {u : Nat} (h : u ≤ 9223372036854775808) : (Lib.decDigits u).length ≤ 19 := by
  by_cases hu : 0 < u
  · obtain ⟨c, r, e, hc⟩ := dec_head u hu
    obtain ⟨d1, -, d3⟩ := dec_digits u
    rw [e] at d1 d3 ⊢
    have := dv_lead (D := r) (d1 c (by simp)).1 hc
    rw [d3] at this
    rw [List.length_cons]
    by_cases hr : r.length ≤ 18
    · omega
    · have h2 : 10 ^ 19 ≤ 10 ^ r.length := Nat.pow_le_pow_right (by omega) (by omega)
      have h3 : (10 : Nat) ^ 19 = 10000000000000000000 := by decide
      omega
  · rw [show u = 0 by omega, Lib.decDigits, dif_pos (by omega)]
    decide
theorem rnum_itoa {n : Int} (h0 : -9223372036854775808 ≤ n) (h1 : n ≤ 9223372036854775807) : rnumS (Lib.itoa n) = some n := by
  unfold Lib.itoa
  by_cases hn : n < 0
  · rw [if_pos hn]
    obtain ⟨d1, d2, d3⟩ := dec_digits n.natAbs
    have hl := dec_len (u := n.natAbs) (by omega)
    obtain ⟨c, r, e, hc⟩ := dec_head n.natAbs (by omega)
    unfold rnumS
    simp only [List.headD_cons, List.drop_succ_cons, List.drop_zero, beq_self_eq_true, if_true]
    rw [if_neg (by
      rw [e] at hl ⊢
      simp only [List.length_cons, List.headD_cons] at hl ⊢
      rintro (x | x | x)
      · omega
      · omega
      · exact hc x.1), if_pos (List.all_eq_true.2 fun x hx => dig_of (d1 x hx)), d3, if_pos (by omega)]
    congr 1
    omega
  · rw [if_neg hn]
    obtain ⟨d1, d2, d3⟩ := dec_digits n.toNat
    have hl := dec_len (u := n.toNat) (by omega)
    have hb : ((Lib.decDigits n.toNat).headD 0 == 45) = false := by
      cases hD : Lib.decDigits n.toNat with
      | nil => exact absurd hD d2
      | cons c r =>
        have := d1 c (by rw [hD]; simp)
        rw [List.headD_cons, beq_eq_false_iff_ne]
        rintro rfl
        simp at this
    have hz : ¬ ((Lib.decDigits n.toNat).headD 0 = 48 ∧ 1 < (Lib.decDigits n.toNat).length) := by
      by_cases hp : 0 < n.toNat
      · obtain ⟨c, r, e, hc⟩ := dec_head n.toNat hp
        rw [e, List.headD_cons]
        exact fun x => hc x.1
      · rw [show n.toNat = 0 by omega, Lib.decDigits, dif_pos (by omega)]
        decide
    have hlp : 0 < (Lib.decDigits n.toNat).length := List.length_pos_iff.2 d2
    unfold rnumS
    simp only [hb, Bool.false_eq_true, if_false, or_false]
    rw [if_neg (by
      rintro (x | x | x)
      · omega
      · omega
      · exact hz x), if_pos (List.all_eq_true.2 fun x hx => dig_of (d1 x hx)), d3, if_pos (by omega)]
    congr 1
    omega
theorem rnum_back {w : Bs} {n : Int} (h : rnumS w = some n) : Lib.itoa n = w ∧ -9223372036854775808 ≤ n ∧ n ≤ 9223372036854775807 := by
  unfold rnumS at h
  simp only at h
  by_cases hb : (w.headD 0 == 45) = true
  · rw [hb] at h
    simp only [if_true, or_true, and_true] at h
    split at h
    · cases h
    · rename_i hx
      split at h
      · rename_i hd
        split at h
        · rename_i hv
          injection h with h
          have hd' : ∀ c ∈ w.drop 1, 48 ≤ c.toNat ∧ c.toNat ≤ 57 := fun c hc => dig_to (List.all_eq_true.1 hd c hc)
          have hne : w.drop 1 ≠ [] := fun e => hx (.inl (by rw [e]; simp))
          have h48 : (w.drop 1).headD 0 ≠ 48 := fun e => hx (.inr (.inr e))
          have hp : 1 ≤ dv 0 (w.drop 1) := by
            generalize w.drop 1 = s at *
            cases s with
            | nil => exact absurd rfl hne
            | cons c r => exact Nat.le_trans (Nat.pow_pos (by omega)) (dv_lead (hd' c (by simp)).1 (by simpa using h48))
          refine ⟨?_, by omega, by omega⟩
          rw [← h]
          unfold Lib.itoa
          rw [if_pos (by omega), show (-(dv 0 (w.drop 1) : Int)).natAbs = dv 0 (w.drop 1) by omega, dec_dv _ _ (Nat.le_refl _) hd' hne (.inl h48)]
          cases w with
          | nil => cases hb
          | cons c r =>
            rw [List.headD_cons, beq_iff_eq] at hb
            rw [hb]
            rfl
        · cases h
      · cases h
  · have hb' : (w.headD 0 == 45) = false := by simpa using hb
    rw [hb'] at h
    simp only [Bool.false_eq_true, if_false, or_false] at h
    split at h
    · cases h
    · rename_i hx
      split at h
      · rename_i hd
        split at h
        · rename_i hv
          injection h with h
          have hd' : ∀ c ∈ w, 48 ≤ c.toNat ∧ c.toNat ≤ 57 := fun c hc => dig_to (List.all_eq_true.1 hd c hc)
          have hne : w ≠ [] := fun e => hx (.inl (by rw [e]; simp))
          have h48 : w.headD 0 ≠ 48 ∨ w.length = 1 := by
            by_cases hl : 1 < w.length
            · exact .inl fun e => hx (.inr (.inr ⟨e, hl⟩))
            · have : 0 < w.length := List.length_pos_iff.2 hne
              exact .inr (by omega)
          refine ⟨?_, by omega, by omega⟩
          rw [← h]
          unfold Lib.itoa
          rw [if_neg (by omega), show ((dv 0 w : Nat) : Int).toNat = dv 0 w by omega, dec_dv _ _ (Nat.le_refl _) hd' hne h48]
        · cases h
      · cases h
theorem numS_itoa {w : Bs} {n : Int} (h : numS w = some n) : Lib.itoa n = w := by
  unfold numS at h
  split at h
  · split at h
    · injection h with h
      rw [← h]
      assumption
    · cases h
  · cases h
theorem readO_num {o : Nat} (ho : o < 13) (ht : tabO o = false) (w : Bs) : readO o w = (match rnumS w with | some n => if mayS o n = true then some n else none | none => none) := by
  have hi := sh_i64 ⟨o, ho⟩
  simp only at hi
  unfold readO
  rw [if_neg (by rw [ht]; simp)]
  cases hr : rnumS w with
  | some n =>
    obtain ⟨e, h0, h1⟩ := rnum_back hr
    have := num_ok h0 h1
    rw [e] at this
    rw [this]
  | none =>
    cases hn : numS w with
    | none => rfl
    | some n =>
      simp only
      split
      · rename_i hm
        have := may_lohi hm
        have e := numS_itoa hn
        have e2 := rnum_itoa (n := n) (by omega) (by omega)
        rw [e, hr] at e2
        cases e2
      · rfl
/-! Words in quotes are none of the others. -/
theorem plain_q {w : Bs} (h : plainB w = true) : isQ w = false := by
  unfold plainB at h
  simp only [Bool.and_eq_true, List.all_eq_true, bne_iff_ne, ne_eq, Bool.not_eq_true'] at h
  unfold isQ
  cases w with
  | nil => rfl
  | cons c r => rw [List.headD_cons, beq_eq_false_iff_ne]; exact (h.2 c (by simp)).2.1
theorem seekO_q {o : Nat} {w : Bs} (ho : o < 13) (hq : isQ w = true) : ∀ (k : Nat) (n : Int), seekO o w k n = none
  | 0, _ => rfl
  | k + 1, n => by
    rw [seekO, seekO_q ho hq k]
    rw [if_neg (fun h => by
      simp only [Bool.and_eq_true, beq_iff_eq] at h
      have := plain_q (readO_ok ho h.1).2
      rw [h.2, hq] at this
      cases this)]
theorem readO_q {o : Nat} {w : Bs} (ho : o < 13) (hq : isQ w = true) : readO o w = none := by
  unfold readO
  split
  · exact seekO_q ho hq _ _
  · cases hn : numS w with
    | none => rfl
    | some n =>
      have e := numS_itoa hn
      have := plain_q (itoa_plain n)
      rw [e, hq] at this
      cases this
theorem ty_noq : ∀ k : Fin 20, isQ (tyT.getD k.val e0).data.toList = false := by decide +kernel
theorem wd_noq : ∀ k : Fin 24, isQ (wdT.getD k.val e0).data.toList = false := by decide +kernel
theorem seekT_q {w : Bs} (hq : isQ w = true) : ∀ (k n : Nat), n + k ≤ 20 → seekT w k n = 0
  | 0, _, _ => rfl
  | k + 1, n, h => by
    rw [seekT, seekT_q hq k (n + 1) (by omega), if_neg (fun e => by
      have := ty_noq ⟨n, by omega⟩
      simp only [e, hq] at this
      cases this)]
theorem rdSort_q {w : Bs} (hq : isQ w = true) : rdSort w = 0 := seekT_q hq 20 0 (by omega)
theorem seekI_q {w : Bs} (hq : isQ w = true) : ∀ (k n : Nat), n + k ≤ 24 → seekI w k n = none
  | 0, _, _ => rfl
  | k + 1, n, h => by
    rw [seekI, seekI_q hq k (n + 1) (by omega), if_neg (fun e => by
      have := wd_noq ⟨n, by omega⟩
      simp only [e, hq] at this
      cases this)]
theorem name_q {w : Bs} (hq : isQ w = true) : nameS w = false := by
  cases hn : nameS w with
  | false => rfl
  | true =>
    have := plain_q (name_plain hn)
    rw [hq] at this
    cases this

/-! A line's tokens, taken. -/
def tAt (T : List Tk) (i : Nat) : Tk := T.getD i ([], false)
def rdO (o : Nat) (t : Tk) : Option Int := if t.2 = true then none else readO o t.1
def sortT (t : Tk) : Int := if t.2 = true then 0 else rdSort t.1
def rEnt (T : List Tk) : Option En := if T.length < 4 ∨ (tAt T 1).2 = true ∨ (tAt T 3).2 = true then none else match rdO 12 (tAt T 2) with
  | none => none
  | some p => if sortT (tAt T 3) = 0 ∧ (tAt T 3).1 ≠ [45] then none else
    let e : En := ⟨bk (tAt T 1).1, 0, p, (T.drop 4).map sortT, sortT (tAt T 3)⟩
    if entS e then some e else none
def rNext (o : Nat) (T : List Tk) : Option (Int × List Tk) := if o = 0 then some (0, T) else match T with
  | [] => none
  | t :: r => match rdO o t with | some n => some (n, r) | none => none
def rIns (T : List Tk) : Option In := if (tAt T 0).2 = true then none else match seekI (tAt T 0).1 24 0 with
  | none => none
  | some op => match rNext (opA.getD op 0) (T.drop 1) with
    | none => none
    | some (a, r) => match rNext (opB.getD op 0) r with
      | none => none
      | some (b, r') => if r' = [] then some ((op : Int), a, b) else none
def rlMain (s : St) (T : List Tk) : Option St := if T.length = 2 ∧ tAt T 0 = ([109, 97, 105, 110], false) then (rdO 8 (tAt T 1)).map fun m => ⟨{ s.c with main := m }, true⟩ else none
def rlPool (s : St) (T : List Tk) : Option St := if T.length = 2 ∧ (tAt T 1).2 = true ∧ s.c.ens.length = 0 ∧ s.c.txs.length ≠ 4000 ∧ (tAt T 1).1.length ≤ 200 then some ⟨{ s.c with txs := s.c.txs ++ [bk (tAt T 1).1] }, s.begun⟩ else none
def rlEnt (s : St) (T : List Tk) : Option St := if s.c.ens.length ≠ 60 ∧ s.c.ins.length ≠ 60000 ∧ bareS s.c = false then (rEnt T).map fun e => ⟨{ s.c with ens := s.c.ens ++ [{ e with start := (s.c.ins.length : Int) }] }, s.begun⟩ else none
def rlIns (s : St) (T : List Tk) : Option St := if s.c.ens.length ≠ 0 ∧ s.c.ins.length ≠ 60000 then (rIns T).map fun x => ⟨{ s.c with ins := s.c.ins ++ [x] }, s.begun⟩ else none
def rlS (s : St) (T : List Tk) : Option St := if s.begun = false then rlMain s T else if tAt T 0 = ([112, 111, 111, 108], false) then rlPool s T else if tAt T 0 = ([102, 110], false) then rlEnt s T else rlIns s T
theorem toks_len : ∀ {R : List Bs} {T : List Tk}, toks R = some T → T.length = R.length
  | [], T, h => by
    injection h with h
    rw [← h]
    rfl
  | w :: R, T, h => by
    rw [toks] at h
    split at h
    · cases h
    · split at h
      · cases h
      · rename_i T' hT
        injection h with h
        rw [← h, List.length_cons, List.length_cons, toks_len hT]
theorem toks_at : ∀ {R : List Bs} {T : List Tk}, toks R = some T → ∀ i, tokW (wAt R i) = some (tAt T i)
  | [], T, h, i => by
    injection h with h
    rw [← h]
    rfl
  | w :: R, T, h, i => by
    rw [toks] at h
    split at h
    · cases h
    · rename_i t ht
      split at h
      · cases h
      · rename_i T' hT
        injection h with h
        rw [← h]
        cases i with
        | zero => exact ht
        | succ i => exact toks_at hT i
theorem toks_drop : ∀ {R : List Bs} {T : List Tk} (k : Nat), toks R = some T → toks (R.drop k) = some (T.drop k)
  | R, T, 0, h => h
  | [], T, k + 1, h => by
    injection h with h
    rw [← h]
    rfl
  | w :: R, T, k + 1, h => by
    rw [toks] at h
    split at h
    · cases h
    · split at h
      · cases h
      · rename_i T' hT
        injection h with h
        rw [← h]
        exact toks_drop k hT
theorem tok_q {w : Bs} {t : Tk} (h : tokW w = some t) : t.2 = isQ w ∧ (isQ w = false → t.1 = w) ∧ (isQ w = true → quS w = some t.1) := by
  unfold tokW at h
  split at h
  · rename_i hq
    rw [hq]
    cases hu : quS w with
    | none => rw [hu] at h; cases h
    | some x =>
      rw [hu] at h
      simp only [Option.map_some, Option.some.injEq] at h
      rw [← h]
      exact ⟨rfl, fun x => by (cases x), fun _ => rfl⟩
  · rename_i hq
    have hq' : isQ w = false := by simpa using hq
    rw [hq']
    injection h with h
    rw [← h]
    exact ⟨rfl, fun _ => rfl, fun x => by (cases x)⟩
theorem tok_lit {w l : Bs} {t : Tk} (h : tokW w = some t) (hl : isQ l = false) : w = l ↔ t = (l, false) := by
  obtain ⟨h1, h2, -⟩ := tok_q h
  obtain ⟨a, b⟩ := t
  simp only at h1 h2
  constructor
  · rintro rfl
    rw [h1, h2 hl, hl]
  · intro e
    injection e with e1 e2
    rw [e2] at h1
    rw [← h2 h1.symm, e1]
theorem tok_rd {w : Bs} {t : Tk} (h : tokW w = some t) {o : Nat} (ho : o < 13) : readO o w = rdO o t := by
  obtain ⟨h1, h2, -⟩ := tok_q h
  unfold rdO
  cases hq : isQ w with
  | true => rw [if_pos (by rw [h1, hq]), readO_q ho hq]
  | false => rw [if_neg (by rw [h1, hq]; simp), h2 hq]
theorem tok_sort {w : Bs} {t : Tk} (h : tokW w = some t) : rdSort w = sortT t := by
  obtain ⟨h1, h2, -⟩ := tok_q h
  unfold sortT
  cases hq : isQ w with
  | true => rw [if_pos (by rw [h1, hq]), rdSort_q hq]
  | false => rw [if_neg (by rw [h1, hq]; simp), h2 hq]
theorem toks_map : ∀ {R : List Bs} {T : List Tk}, toks R = some T → R.map rdSort = T.map sortT
  | [], T, h => by
    injection h with h
    rw [← h]
    rfl
  | w :: R, T, h => by
    rw [toks] at h
    split at h
    · cases h
    · rename_i t ht
      split at h
      · cases h
      · rename_i T' hT
        injection h with h
        rw [← h, List.map_cons, List.map_cons, tok_sort ht, toks_map hT]
theorem tok_next {R : List Bs} {T : List Tk} (h : toks R = some T) {o : Nat} (ho : o < 13) : (nextO o R = none ∧ rNext o T = none) ∨ ∃ n R' T', nextO o R = some (n, R') ∧ rNext o T = some (n, T') ∧ toks R' = some T' := by
  unfold nextO rNext
  by_cases hz : o = 0
  · rw [if_pos hz, if_pos hz]
    exact .inr ⟨_, _, _, rfl, rfl, h⟩
  · rw [if_neg hz, if_neg hz]
    cases R with
    | nil =>
      injection h with h
      rw [← h]
      exact .inl ⟨rfl, rfl⟩
    | cons w R =>
      rw [toks] at h
      split at h
      · cases h
      · rename_i t ht
        split at h
        · cases h
        · rename_i T' hT
          injection h with h
          rw [← h]
          simp only
          rw [tok_rd ht ho]
          cases rdO o t with
          | none => exact .inl ⟨rfl, rfl⟩
          | some n => exact .inr ⟨n, R, T', rfl, rfl, hT⟩
theorem tok_ins {R : List Bs} {T : List Tk} (h : toks R = some T) : rdIns R = rIns T := by
  have h0 := toks_at h 0
  obtain ⟨q1, q2, -⟩ := tok_q h0
  unfold rdIns rIns
  cases hq : isQ (wAt R 0) with
  | true =>
    rw [if_pos (by rw [q1, hq]), seekI_q hq 24 0 (by omega)]
  | false =>
    rw [if_neg (by rw [q1, hq]; simp), q2 hq]
    cases seekI (wAt R 0) 24 0 with
    | none => rfl
    | some op =>
      simp only
      rcases tok_next (toks_drop 1 h) (opA_lt op) with ⟨e1, e2⟩ | ⟨n, R', T', e1, e2, h'⟩
      · rw [e1, e2]
      · rw [e1, e2]
        simp only
        rcases tok_next h' (opB_lt op) with ⟨e1, e2⟩ | ⟨m, R2, T2, e1, e2, h2⟩
        · rw [e1, e2]
        · rw [e1, e2]
          simp only
          have hl := toks_len h2
          by_cases hr : R2 = []
          · rw [if_pos hr, if_pos (by rw [hr] at hl; exact List.length_eq_zero_iff.1 hl)]
          · rw [if_neg hr, if_neg (fun e => hr (by rw [e] at hl; exact List.length_eq_zero_iff.1 hl.symm))]
theorem ent_name {e : En} (h : nameS e.name.data.toList = false) : entS e = false := by
  unfold entS
  rw [h]
  rfl
theorem tok_ent {R : List Bs} {T : List Tk} (h : toks R = some T) : rdEnt R = rEnt T := by
  have hl := toks_len h
  have h1 := toks_at h 1
  have h2 := toks_at h 2
  have h3 := toks_at h 3
  obtain ⟨a1, a2, -⟩ := tok_q h1
  obtain ⟨c1, c2, -⟩ := tok_q h3
  have hs3 := tok_sort h3
  have hm := toks_map (toks_drop 4 h)
  unfold rdEnt rEnt
  by_cases hlen : R.length < 4
  · rw [if_pos hlen, if_pos (show T.length < 4 ∨ (tAt T 1).2 = true ∨ (tAt T 3).2 = true from .inl (by omega))]
  · rw [if_neg hlen]
    cases hq3 : isQ (wAt R 3) with
    | true =>
      rw [if_pos (show T.length < 4 ∨ (tAt T 1).2 = true ∨ (tAt T 3).2 = true from .inr (.inr (by rw [c1, hq3])))]
      cases readO 12 (wAt R 2) with
      | none => rfl
      | some p =>
        simp only
        rw [if_pos (show wAt R 3 ≠ [45] ∧ rdSort (wAt R 3) = 0 from ⟨fun e => by (rw [e] at hq3; cases hq3), rdSort_q hq3⟩)]
    | false =>
      cases hq1 : isQ (wAt R 1) with
      | true =>
        rw [if_pos (show T.length < 4 ∨ (tAt T 1).2 = true ∨ (tAt T 3).2 = true from .inr (.inl (by rw [a1, hq1])))]
        cases readO 12 (wAt R 2) with
        | none => rfl
        | some p =>
          simp only
          split
          · rfl
          · rw [if_neg (by rw [ent_name (by exact name_q hq1)]; simp)]
      | false =>
        rw [if_neg (show ¬ (T.length < 4 ∨ (tAt T 1).2 = true ∨ (tAt T 3).2 = true) from by
          rintro (x | x | x)
          · omega
          · rw [a1, hq1] at x; cases x
          · rw [c1, hq3] at x; cases x), tok_rd h2 (by decide)]
        cases rdO 12 (tAt T 2) with
        | none => rfl
        | some p =>
          simp only
          rw [← hs3, ← hm, a2 hq1, c2 hq3]
          by_cases h45 : wAt R 3 = [45]
          · rw [h45]
            have ez : rdSort [45] = 0 := by decide
            rw [ez, if_pos (show ([45] : Bs) = [45] from rfl), if_neg (show ¬ (([45] : Bs) ≠ [45] ∧ (0 : Int) = 0) from fun x => x.1 rfl), if_neg (show ¬ ((0 : Int) = 0 ∧ ([45] : Bs) ≠ [45]) from fun x => x.2 rfl)]
          · rw [if_neg h45]
            by_cases hz : rdSort (wAt R 3) = 0
            · rw [if_pos (show wAt R 3 ≠ [45] ∧ rdSort (wAt R 3) = 0 from ⟨h45, hz⟩), if_pos (show rdSort (wAt R 3) = 0 ∧ wAt R 3 ≠ [45] from ⟨hz, h45⟩)]
            · rw [if_neg (show ¬ (wAt R 3 ≠ [45] ∧ rdSort (wAt R 3) = 0) from fun x => hz x.2), if_neg (show ¬ (rdSort (wAt R 3) = 0 ∧ wAt R 3 ≠ [45]) from fun x => hz x.1)]
theorem tok_pool {R : List Bs} {T : List Tk} (h : toks R = some T) (s : St) : takePool s R = rlPool s T := by
  have hl := toks_len h
  have h1 := toks_at h 1
  obtain ⟨a1, a2, a3⟩ := tok_q h1
  unfold takePool rlPool
  rw [hl]
  by_cases hc : R.length = 2 ∧ s.c.ens.length = 0 ∧ s.c.txs.length ≠ 4000
  · rw [if_pos hc, qdS_qu]
    cases hq : isQ (wAt R 1) with
    | false =>
      rw [if_neg (fun x => by have := x.2.1; rw [a1, hq] at this; cases this)]
      have : quS (wAt R 1) = none := by
        unfold isQ at hq
        unfold quS
        cases hw : wAt R 1 with
        | nil => rfl
        | cons c r =>
          rw [hw, List.headD_cons, beq_eq_false_iff_ne] at hq
          simp only
          rw [if_neg hq]
      rw [this]
      rfl
    | true =>
      rw [a3 hq]
      simp only
      by_cases h2 : (tAt T 1).1.length ≤ 200
      · rw [if_pos h2, if_pos ⟨hc.1, by rw [a1, hq], hc.2.1, hc.2.2, h2⟩]
        rfl
      · rw [if_neg h2, if_neg (fun x => h2 x.2.2.2.2)]
        rfl
  · rw [if_neg hc, if_neg (fun x => hc ⟨x.1, x.2.2.1, x.2.2.2.1⟩)]
theorem tok_takes {R : List Bs} {T : List Tk} (h : toks R = some T) (s : St) : takeS s R = rlS s T := by
  have hl := toks_len h
  have h0 := toks_at h 0
  have h1 := toks_at h 1
  unfold takeS rlS
  by_cases hb : s.begun = false
  · rw [if_pos hb, if_pos hb]
    unfold takeMain rlMain
    have e0 := tok_lit h0 (l := [109, 97, 105, 110]) (by decide)
    rw [hl, tok_rd h1 (o := 8) (by decide)]
    by_cases hc : wAt R 0 = [109, 97, 105, 110] ∧ R.length = 2
    · rw [if_pos hc, if_pos ⟨hc.2, e0.1 hc.1⟩]
    · rw [if_neg hc, if_neg (fun x => hc ⟨e0.2 x.2, x.1⟩)]
  · rw [if_neg hb, if_neg hb]
    have e1 := tok_lit h0 (l := [112, 111, 111, 108]) (by decide)
    have e2 := tok_lit h0 (l := [102, 110]) (by decide)
    by_cases hp : wAt R 0 = [112, 111, 111, 108]
    · rw [if_pos hp, if_pos (e1.1 hp), tok_pool h]
    · rw [if_neg hp, if_neg (fun x => hp (e1.2 x))]
      by_cases hf : wAt R 0 = [102, 110]
      · rw [if_pos hf, if_pos (e2.1 hf)]
        unfold takeEnt rlEnt
        rw [tok_ent h]
      · rw [if_neg hf, if_neg (fun x => hf (e2.2 x))]
        unfold takeIns rlIns
        rw [tok_ins h]
end Go.Proofs.YtchinflkjcebjabGreatDoor
namespace Go.Proofs.YtchinflkjcebjabGreatDoor
open Go.RowKit

/-! A line that is too long, or has bad quotes, is not taken. -/
theorem ent_sorts {e : En} (h : entS e = true) : e.sorts.length ≤ 250 ∧ nameS e.name.data.toList = true ∧ ∀ n ∈ e.sorts, sortS n = true := by
  unfold entS at h
  simp only [Bool.and_eq_true, decide_eq_true_eq, List.all_eq_true] at h
  exact ⟨h.1.1.1.1.1.2, h.1.1.1.1.1.1, h.2⟩
theorem rdEnt_q {ws : List Bs} {e : En} (h : rdEnt ws = some e) : 4 ≤ ws.length ∧ ws.length ≤ 254 ∧ isQ (wAt ws 1) = false ∧ isQ (wAt ws 2) = false ∧ isQ (wAt ws 3) = false ∧ ∀ w ∈ ws.drop 4, isQ w = false := by
  unfold rdEnt at h
  split at h
  · cases h
  · rename_i hl
    split at h
    · cases h
    · rename_i p hp
      split at h
      · cases h
      · rename_i h3
        simp only at h
        generalize (if wAt ws 3 = [45] then (0 : Int) else rdSort (wAt ws 3)) = res at h
        split at h
        · rename_i he
          obtain ⟨e1, e2, e3⟩ := ent_sorts he
          simp only [List.length_map, List.length_drop] at e1
          refine ⟨by omega, by omega, ?_, ?_, ?_, fun w hw => ?_⟩
          · cases hq : isQ (wAt ws 1) with
            | false => rfl
            | true =>
              have : nameS (bk (wAt ws 1)).data.toList = false := name_q hq
              rw [this] at e2
              cases e2
          · cases hq : isQ (wAt ws 2) with
            | false => rfl
            | true => rw [readO_q (by decide) hq] at hp; cases hp
          · cases hq : isQ (wAt ws 3) with
            | false => rfl
            | true => exact absurd ⟨fun e => by (rw [e] at hq; cases hq), rdSort_q hq⟩ h3
          · cases hq : isQ w with
            | false => rfl
            | true =>
              have := e3 (rdSort w) (List.mem_map.2 ⟨w, hw, rfl⟩)
              rw [rdSort_q hq] at this
              cases this
        · cases h
theorem nextO_q {o : Nat} {ws r : List Bs} {v : Int} (ho : o < 13) (h : nextO o ws = some (v, r)) : ws.length ≤ r.length + 1 ∧ ((∀ w ∈ r, isQ w = false) → ∀ w ∈ ws, isQ w = false) := by
  unfold nextO at h
  split at h
  · injection h with h
    injection h with h1 h2
    rw [h2]
    exact ⟨by omega, fun x => x⟩
  · split at h
    · cases h
    · rename_i w r'
      split at h
      · rename_i n hn
        injection h with h
        injection h with h1 h2
        rw [← h2]
        refine ⟨by simp, fun x y hy => ?_⟩
        rcases List.mem_cons.1 hy with rfl | hy
        · cases hq : isQ y with
          | false => rfl
          | true => rw [readO_q ho hq] at hn; cases hn
        · exact x y hy
      · cases h
theorem rdIns_q {ws : List Bs} {x : In} (h : rdIns ws = some x) : ws.length ≤ 3 ∧ ∀ w ∈ ws, isQ w = false := by
  unfold rdIns at h
  split at h
  · cases h
  · rename_i op hop
    split at h
    · cases h
    · rename_i a r ha
      split at h
      · cases h
      · rename_i b r' hb
        split at h
        · rename_i hr
          obtain ⟨a1, a2⟩ := nextO_q (opA_lt op) ha
          obtain ⟨b1, b2⟩ := nextO_q (opB_lt op) hb
          rw [hr] at b1 b2
          have h0 : isQ (wAt ws 0) = false := by
            cases hq : isQ (wAt ws 0) with
            | false => rfl
            | true => rw [seekI_q hq 24 0 (by omega)] at hop; cases hop
          have h1 := a2 (b2 (fun w hw => by cases hw))
          rw [List.length_drop] at a1
          simp only [List.length_nil] at b1
          refine ⟨by omega, fun w hw => ?_⟩
          cases ws with
          | nil => cases hw
          | cons v ws =>
            rcases List.mem_cons.1 hw with rfl | hw
            · exact h0
            · exact h1 w hw
        · cases h
theorem two_of {ws : List Bs} (h : ws.length = 2) : ws = [wAt ws 0, wAt ws 1] := by
  match ws, h with
  | [a, b], _ => rfl
theorem noq_tok {w : Bs} (h : isQ w = false) : tokW w ≠ none := by
  unfold tokW
  rw [if_neg (by rw [h]; simp)]
  simp
theorem takes_some {s s' : St} {ws : List Bs} (h : takeS s ws = some s') : ws.length ≤ 254 ∧ ∀ w ∈ ws, tokW w ≠ none := by
  unfold takeS at h
  split at h
  · unfold takeMain at h
    split at h
    · rename_i hc
      rw [two_of hc.2]
      refine ⟨by simp, fun w hw => ?_⟩
      simp only [List.mem_cons, List.not_mem_nil, or_false] at hw
      rcases hw with rfl | rfl
      · rw [hc.1]; exact noq_tok (by decide)
      · refine noq_tok ?_
        cases hq : isQ (wAt ws 1) with
        | false => rfl
        | true => rw [readO_q (by decide) hq] at h; cases h
    · cases h
  · split at h
    · rename_i h0
      unfold takePool at h
      split at h
      · rename_i hc
        rw [two_of hc.1]
        refine ⟨by simp, fun w hw => ?_⟩
        simp only [List.mem_cons, List.not_mem_nil, or_false] at hw
        rcases hw with rfl | rfl
        · rw [h0]; exact noq_tok (by decide)
        · rw [qdS_qu] at h
          unfold tokW
          split
          · cases hu : quS (wAt ws 1) with
            | none => rw [hu] at h; cases h
            | some t => simp
          · simp
      · cases h
    · split at h
      · rename_i h0
        unfold takeEnt at h
        split at h
        · cases he : rdEnt ws with
          | none => rw [he] at h; cases h
          | some e =>
            obtain ⟨e1, e2, e3, e4, e5, e6⟩ := rdEnt_q he
            refine ⟨e2, fun w hw => noq_tok ?_⟩
            match ws, e1 with
            | a :: b :: c :: d :: r, _ =>
              have h0' : a = [102, 110] := h0
              simp only [List.mem_cons] at hw
              rcases hw with rfl | rfl | rfl | rfl | hw
              · rw [h0']; decide
              · exact e3
              · exact e4
              · exact e5
              · exact e6 w hw
        · cases h
      · unfold takeIns at h
        split at h
        · cases he : rdIns ws with
          | none => rw [he] at h; cases h
          | some e =>
            obtain ⟨e1, e2⟩ := rdIns_q he
            exact ⟨by omega, fun w hw => noq_tok (e2 w hw)⟩
        · cases h
theorem toks_all : ∀ {R : List Bs}, (∀ w ∈ R, tokW w ≠ none) → ∃ T, toks R = some T
  | [], _ => ⟨[], rfl⟩
  | w :: R, h => by
    obtain ⟨T, e⟩ := toks_all (R := R) (fun x hx => h x (List.mem_cons_of_mem _ hx))
    have hw := h w (by simp)
    rw [toks]
    cases ht : tokW w with
    | none => exact absurd ht hw
    | some t => rw [e]; exact ⟨_, rfl⟩
/-- A line, as the document takes it. -/
def rstepS (s : St) (l : Bs) : Option St := match rwS l with | none => none | some T => if T = [] then some s else rlS s T
theorem rstep_eq (s : St) (l : Bs) : rstepS s l = stepS s l := by
  unfold rstepS stepS
  rw [rwS_raw, wdsS_raw]
  generalize rawS l = R
  by_cases hl : R.length ≤ 255
  · rw [List.take_of_length_le hl]
    cases ht : toks R with
    | none =>
      simp only
      have hne : R ≠ [] := by rintro rfl; cases ht
      rw [if_neg hne]
      cases hs : takeS s R with
      | none => rfl
      | some s' =>
        obtain ⟨T, e⟩ := toks_all (takes_some hs).2
        rw [ht] at e
        cases e
    | some T =>
      have hlen := toks_len ht
      simp only
      by_cases hr : R = []
      · rw [if_pos hr, if_pos (by rw [hr] at hlen; exact List.length_eq_zero_iff.1 hlen)]
      · rw [if_neg hr, if_neg (fun e => hr (by rw [e] at hlen; exact List.length_eq_zero_iff.1 hlen.symm)), tok_takes ht]
  · have hw : (R.take 255).length = 255 := by rw [List.length_take]; omega
    have h1 : ∀ W : List Bs, 255 ≤ W.length → takeS s W = none := fun W h => by
      cases hs : takeS s W with
      | none => rfl
      | some s' => have := (takes_some hs).1; omega
    rw [if_neg (fun e => by (rw [e] at hw; cases hw)), h1 _ (by omega)]
    cases ht : toks R with
    | none => rfl
    | some T =>
      have hlen := toks_len ht
      simp only
      rw [if_neg (fun e => by (rw [e] at hlen; simp at hlen; omega)), ← tok_takes ht, h1 _ (by omega)]
/-- All lines. -/
def rasF : Nat → Nat → St → Bs → (St × Nat) ⊕ Nat
  | 0, n, _, _ => .inr n
  | f + 1, n, s, l => match rstepS s (lineOf l) with
    | none => .inr n
    | some s' => if 10 ∈ l then rasF f (n + 1) s' (restOf l) else .inl (s', n + 1)
theorem rest_none : ∀ {l : Bs}, 10 ∉ l → restOf l = [] ∧ l.count 10 = 0 := fun {l} h => by
  refine ⟨?_, List.count_eq_zero.2 h⟩
  unfold restOf
  have e : l.dropWhile (fun c => c != 10) = [] := by
    induction l with
    | nil => rfl
    | cons c r ih =>
      rw [List.dropWhile_cons_of_pos (by simp only [bne_iff_ne, ne_eq]; rintro rfl; exact h (by simp))]
      exact ih (fun x => h (by simp [x]))
  rw [e]
  rfl
theorem rest_some : ∀ {l : Bs}, 10 ∈ l → (restOf l).length < l.length ∧ l.count 10 = (restOf l).count 10 + 1
  | [], h => by cases h
  | c :: r, h => by
    by_cases hc : c = 10
    · subst hc
      have e : restOf (10 :: r) = r := rfl
      rw [e, List.length_cons, List.count_cons_self]
      omega
    · have e : restOf (c :: r) = restOf r := by
        unfold restOf
        rw [List.dropWhile_cons_of_pos (by simpa using hc)]
      have h' : 10 ∈ r := by
        rcases List.mem_cons.1 h with x | x
        · exact absurd x.symm hc
        · exact x
      obtain ⟨a, b⟩ := rest_some h'
      rw [e, List.length_cons, List.count_cons_of_ne (by simpa using hc)]
      omega
theorem ras_eq : ∀ (f n : Nat) (s : St) (l : Bs), l.length < f → rasF f n s l = (match asmF f n s l with | .inr m => .inr m | .inl s' => .inl (s', n + l.count 10 + 1))
  | 0, _, _, _, h => by omega
  | f + 1, n, s, l, h => by
    rw [rasF, asmF, rstep_eq]
    by_cases hl : l = []
    · subst hl
      rw [if_pos rfl]
      have e : stepS s (lineOf []) = some s := rfl
      rw [e]
      rfl
    · rw [if_neg hl]
      cases hs : stepS s (lineOf l) with
      | none => rfl
      | some s' =>
        simp only
        by_cases h10 : 10 ∈ l
        · obtain ⟨a, b⟩ := rest_some h10
          rw [if_pos h10, ras_eq f (n + 1) s' (restOf l) (by omega)]
          cases asmF f (n + 1) s' (restOf l) with
          | inr m => rfl
          | inl t =>
            simp only
            rw [b, show n + 1 + (restOf l).count 10 + 1 = n + ((restOf l).count 10 + 1) + 1 by omega]
        · obtain ⟨a, b⟩ := rest_none h10
          rw [if_neg h10, a, b]
          have e : asmF f (n + 1) s' [] = .inl s' := by cases f <;> rfl
          rw [e]
def rasS (l : Bs) : Cd ⊕ Nat := match rasF (l.length + 1) 1 st0 l with
  | .inr n => .inr n
  | .inl (s, n) => if lackS s then .inr n else .inl s.c
theorem ras_asm (l : Bs) : rasS l = asmS l := by
  unfold rasS asmS
  rw [ras_eq _ _ _ _ (by omega)]
  cases asmF (l.length + 1) 1 st0 l with
  | inr n => rfl
  | inl s =>
    simp only
    rw [show 1 + l.count 10 + 1 = l.count 10 + 2 by omega]
end Go.Proofs.YtchinflkjcebjabGreatDoor
