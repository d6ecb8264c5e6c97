import Derived.Test.YtlahcmhjnhangaaDoorTextMath
namespace Go.Proofs.YtlahcmhjnhangaaDoor
open Go.RowKit

theorem blank_not_inner {c : UInt8} (h : blankB c = true) : innerB c = false ∧ digitB c = false := by
  have hv : (c.toNat : Int) = 32 ∨ (c.toNat : Int) = 9 ∨ (c.toNat : Int) = 13 ∨ (c.toNat : Int) = 10 := by
    unfold blankB at h
    simp only [Bool.or_eq_true, beq_iff_eq] at h
    omega
  unfold innerB letterB digitB
  rcases hv with h | h | h | h <;> rw [h] <;> decide

theorem tw_app {p : UInt8 → Bool} : ∀ (l : List UInt8) {c : UInt8} {r : List UInt8}, (l.takeWhile p).length = l.length → p c = false → (l ++ c :: r).takeWhile p = l
  | [], c, r, _, hc => by simp [hc]
  | d :: l, c, r, h, hc => by
    by_cases hd : p d = true
    · rw [List.takeWhile_cons, if_pos hd, List.length_cons, List.length_cons] at h
      rw [List.cons_append, List.takeWhile_cons, if_pos hd, tw_app l (by omega) hc]
    · rw [List.takeWhile_cons, if_neg hd] at h
      simp at h
theorem tw_all {p : UInt8 → Bool} (l : List UInt8) (h : (l.takeWhile p).length = l.length) : l.takeWhile p = l :=
  (List.takeWhile_sublist p).eq_of_length h

theorem word_app {l : List UInt8} {x : Tk} {c : UInt8} {r : List UInt8} (h : wordS l = .inr x) (hl : x.len = l.length) (hc : innerB c = false) : wordS (l ++ c :: r) = .inr x := by
  have hw : (l.takeWhile innerB).length = l.length := by
    unfold wordS at h
    simp only at h
    split at h
    · injection h with h; subst h; exact hl
    · split at h
      · cases h
      · injection h with h; subst h; exact hl
  unfold wordS at h ⊢
  rw [tw_app l hw hc]
  rw [tw_all l hw] at h
  exact h

theorem num_app {l : List UInt8} {x : Tk} {c : UInt8} {r : List UInt8} (h : numS l = .inr x) (hl : x.len = l.length) (hc : digitB c = false) (hi : innerB c = false) : numS (l ++ c :: r) = .inr x := by
  have hw : (l.takeWhile digitB).length = l.length := by
    unfold numS at h
    simp only at h
    split at h
    · cases h
    · split at h
      · cases h
      · split at h
        · injection h with h; subst h; exact hl
        · cases h
  unfold numS at h ⊢
  rw [tw_app l hw hc]
  rw [tw_all l hw] at h
  simp only at h ⊢
  split at h
  · cases h
  · rename_i h1
    rw [if_neg h1]
    rw [if_neg (by rw [List.drop_left]; simp [hi])]
    rw [List.drop_length] at h
    simpa using h

theorem pc_app {l : List UInt8} (r : List UInt8) (h : (pcS l).2 ≠ 0) : pcS (l ++ r) = pcS l := by
  match l with
  | [] => simp [pcS] at h
  | c :: l =>
    by_cases hc : c = 92
    · subst hc
      match l with
      | [] => simp [pcS] at h
      | d :: l =>
        simp only [pcS, List.cons_append] at h ⊢
        by_cases h1 : d = 110
        · simp [h1]
        · by_cases h2 : d = 34 ∨ d = 92
          · simp [h1, h2]
          · by_cases h3 : d = 120
            · match l with
              | [] => simp [h3] at h
              | [a] => simp [h3] at h
              | a :: b :: l => simp
            · simp [h1, h2, h3] at h
    · simp only [pcS, List.cons_append]
      rw [if_pos hc, if_pos hc]

theorem pc_le (l : List UInt8) : (pcS l).2 ≤ l.length := by
  match l with
  | [] => simp [pcS]
  | c :: l =>
    simp only [pcS]
    split
    · split <;> simp
    · match l with
      | [] => simp
      | d :: l =>
        simp only
        split
        · simp
        · split
          · simp
          · split
            · match l with
              | [] => simp
              | [a] => simp
              | a :: b :: l => simp only; split <;> simp
            · simp

theorem txt_app (f : Nat) : ∀ (f' n : Nat) (V l : List UInt8) (x : Tk) (r : List UInt8), txtS f n V l = .inr x → f ≤ f' → txtS f' n V (l ++ r) = .inr x := by
  induction f with
  | zero => intro f' n V l x r h; cases h
  | succ f ih =>
    intro f' n V l x r h hf
    obtain ⟨f', rfl⟩ : ∃ q, f' = q + 1 := ⟨f' - 1, by omega⟩
    match l with
    | [] => cases h
    | c :: l =>
      rw [List.cons_append]
      simp only [txtS] at h ⊢
      by_cases hc : c = 34
      · rw [if_pos hc] at h ⊢
        exact h
      · rw [if_neg hc] at h ⊢
        by_cases h2 : (pcS (c :: l)).2 = 0 ∨ V.length = 200
        · rw [if_pos h2] at h; cases h
        · rw [if_neg h2] at h
          have e := pc_app (l := c :: l) r (fun e => h2 (Or.inl e))
          rw [List.cons_append] at e
          rw [e, if_neg h2, ← List.cons_append, List.drop_append_of_le_length (pc_le _)]
          exact ih _ _ _ _ _ _ h (by omega)

theorem pre_app : ∀ (p l : List UInt8) {c : UInt8} {r : List UInt8}, c ∉ p → p.isPrefixOf (l ++ c :: r) = p.isPrefixOf l
  | [], l, c, r, _ => by simp
  | a :: p, [], c, r, h => by
    have : (a == c) = false := by rw [beq_eq_false_iff_ne]; intro e; subst e; simp at h
    simp [List.isPrefixOf, this]
  | a :: p, d :: l, c, r, h => by
    simp only [List.cons_append, List.isPrefixOf]
    rw [pre_app p l (fun e => h (by simp [e]))]

theorem sgs_noblank : ∀ s ∈ sgs, ∀ c ∈ s.data.toList, blankB c = false := by
  intro s hs
  simp only [sgs, List.mem_cons, List.not_mem_nil, or_false] at hs
  rcases hs with rfl | rfl | rfl | rfl | rfl | rfl | rfl | rfl | rfl | rfl | rfl | rfl | rfl | rfl | rfl | rfl | rfl | rfl | rfl | rfl | rfl | rfl | rfl | rfl | rfl <;> decide

theorem find_congr {α : Type} {p q : α → Bool} : ∀ (l : List α), (∀ a ∈ l, p a = q a) → l.find? p = l.find? q
  | [], _ => rfl
  | a :: l, h => by
    rw [List.find?_cons, List.find?_cons, h a (by simp), find_congr l (fun b hb => h b (by simp [hb]))]

theorem sign_app (l : List UInt8) {c : UInt8} (r : List UInt8) (hc : blankB c = true) : signS (l ++ c :: r) = signS l := by
  unfold signS
  rw [find_congr sgs (fun s hs => pre_app s.data.toList l (fun hm => by rw [sgs_noblank s hs c hm] at hc; cases hc))]

/-- A token with a blank behind it is that token. -/
theorem tok_app {l : List UInt8} {x : Tk} {c : UInt8} (r : List UInt8) (h : tokS l = .inr x) (hl : x.len = l.length) (hc : blankB c = true) : tokS (l ++ c :: r) = .inr x := by
  obtain ⟨hi, hd⟩ := blank_not_inner hc
  match l with
  | [] => cases h
  | d :: l =>
    simp only [tokS, List.cons_append] at h ⊢
    by_cases h1 : letterB d = true
    · rw [if_pos h1] at h ⊢
      exact word_app h hl hi
    · rw [if_neg h1] at h ⊢
      by_cases h2 : digitB d = true
      · rw [if_pos h2] at h ⊢
        exact num_app h hl hd hi
      · rw [if_neg h2] at h ⊢
        by_cases h3 : d = 34
        · rw [if_pos h3] at h ⊢
          exact txt_app _ _ _ _ _ _ _ h (by simp)
        · rw [if_neg h3] at h ⊢
          have := sign_app (d :: l) r hc
          rw [List.cons_append] at this
          rw [this]
          exact h

/-- What stands between two tokens of a row: a blank, and perhaps a comment with its line's end. -/
def gpOk (G : List UInt8) : Prop := ∃ c, blankB c = true ∧ (G = [c] ∨ ∃ N, (∀ d ∈ N, d ≠ 10) ∧ G = c :: 35 :: (N ++ [10]))

theorem gp_head {G : List UInt8} (h : gpOk G) (r : List UInt8) : ∃ c t, G ++ r = c :: t ∧ blankB c = true := by
  obtain ⟨c, hc, rfl | ⟨N, _, rfl⟩⟩ := h
  · exact ⟨c, r, rfl, hc⟩
  · exact ⟨c, _, rfl, hc⟩

theorem scan_gap (G rest : List UInt8) (h : gpOk G) (f k : Nat) (hf : (G ++ rest).length < f) : ∃ f', rest.length < f' ∧ scanS f k (G ++ rest) = scanS f' (k + G.length) rest := by
  obtain ⟨f, rfl⟩ : ∃ q, f = q + 1 := ⟨f - 1, by omega⟩
  obtain ⟨c, hc, rfl | ⟨N, hN, rfl⟩⟩ := h
  · rw [List.length_append] at hf
    exact ⟨f, by simp at hf; omega, by rw [List.singleton_append, scan_blank f k c rest hc]; rfl⟩
  · simp only [List.length_append, List.length_cons, List.length_nil] at hf
    obtain ⟨f, rfl⟩ : ∃ q, f = q + 1 := ⟨f - 1, by omega⟩
    obtain ⟨f, rfl⟩ : ∃ q, f = q + 1 := ⟨f - 1, by omega⟩
    have e : c :: 35 :: (N ++ [10]) ++ rest = c :: 35 :: (N ++ 10 :: rest) := by simp
    have hcm : cmtS (35 :: (N ++ 10 :: rest)) = N.length + 1 := by
      unfold cmtS
      rw [show 35 :: (N ++ 10 :: rest) = (35 :: N) ++ 10 :: rest from rfl, List.takeWhile_append_of_pos]
      · simp
      · intro a ha
        rw [List.mem_cons] at ha
        rcases ha with rfl | ha
        · decide
        · simpa using hN a ha
    refine ⟨f, by omega, ?_⟩
    rw [e, scan_blank _ _ _ _ hc, scan_cmt, hcm, List.drop_succ_cons, List.drop_left, scan_blank _ _ _ _ (by decide)]
    congr 1
    simp
    omega

/-- A text whose tokens are known, whatever comes behind it with a blank ahead. -/
def Sc (T : List UInt8) (W : List (Nat × Tk)) : Prop :=
  ∀ (rest : List UInt8) (f : Nat), (rest = [] ∨ ∃ c r, rest = c :: r ∧ blankB c = true) → (T ++ rest).length < f → ∃ f', rest.length < f' ∧ scanS f 0 (T ++ rest) = comb W (scanS f' T.length rest)

theorem back_nil : Sc [] [] := by
  intro rest f _ hf
  refine ⟨f, hf, ?_⟩
  rw [List.nil_append, List.length_nil]
  cases scanS f 0 rest <;> simp [comb]

theorem back_step {T : List UInt8} {W : List (Nat × Tk)} {G wr : List UInt8} {x : Tk} (h : Sc T W) (hG : gpOk G) (ht : tokS wr = .inr x) (hl : x.len = wr.length) : Sc (T ++ G ++ wr) (W ++ [(T.length + G.length, x)]) := by
  intro rest f hr hf
  have e : T ++ G ++ wr ++ rest = T ++ (G ++ (wr ++ rest)) := by simp
  rw [e] at hf ⊢
  obtain ⟨f1, a1, e1⟩ := h (G ++ (wr ++ rest)) f (Or.inr (gp_head hG _)) hf
  obtain ⟨f2, a2, e2⟩ := scan_gap G (wr ++ rest) hG f1 T.length a1
  obtain ⟨f2, rfl⟩ : ∃ q, f2 = q + 1 := ⟨f2 - 1, by omega⟩
  have ht2 : tokS (wr ++ rest) = .inr x := by
    rcases hr with rfl | ⟨c, r, rfl, hc⟩
    · rw [List.append_nil]; exact ht
    · exact tok_app r ht hl hc
  have hp := (tok_len ht).1
  match hw : wr with
  | [] => cases ht
  | c :: r =>
    obtain ⟨h1, h2⟩ := tok_begins ht
    rw [List.cons_append] at ht2
    have h3 := scan_tok f2 (T.length + G.length) c (r ++ rest) x W h1 h2 ht2
    rw [e1, e2, List.cons_append, h3, ← List.cons_append, List.drop_left' hl.symm]
    refine ⟨f2, by simp at a2; omega, ?_⟩
    rw [show T.length + G.length + x.len = (T ++ G ++ c :: r).length from by rw [hl]; simp; omega]

theorem back_end {T : List UInt8} {W : List (Nat × Tk)} {G : List UInt8} (h : Sc T W) (hG : gpOk G) : scanS ((T ++ G).length + 1) 0 (T ++ G) = .inr (W ++ [((T ++ G).length, ⟨0, 0, [], 0⟩)]) := by
  obtain ⟨c, t, e, hc⟩ := gp_head hG []
  rw [List.append_nil] at e
  obtain ⟨f1, a1, e1⟩ := h G ((T ++ G).length + 1) (Or.inr ⟨c, t, e, hc⟩) (by omega)
  obtain ⟨f2, a2, e2⟩ := scan_gap G [] hG f1 T.length (by rw [List.append_nil]; exact a1)
  obtain ⟨f2, rfl⟩ : ∃ q, f2 = q + 1 := ⟨f2 - 1, by omega⟩
  rw [List.append_nil] at e2
  rw [e1, e2, scan_end, List.length_append]
  rfl
end Go.Proofs.YtlahcmhjnhangaaDoor
