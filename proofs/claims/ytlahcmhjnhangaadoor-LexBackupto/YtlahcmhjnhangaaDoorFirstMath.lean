import Derived.Test.YtlahcmhjnhangaaDoorScanMath
namespace Go.Proofs.YtlahcmhjnhangaaDoor
open Go.RowKit

/-! A token is found again in the text that ends behind it. -/
theorem tw_take (p : UInt8 → Bool) : ∀ (l : List UInt8) (m : Nat), (l.takeWhile p).length ≤ m → (l.take m).takeWhile p = l.takeWhile p := by
  intro l
  induction l with
  | nil => intro m _; simp
  | cons c r ih =>
    intro m hm
    by_cases hc : p c = true
    · rw [List.takeWhile_cons, if_pos hc] at hm ⊢
      obtain ⟨m, rfl⟩ : ∃ k, m = k + 1 := ⟨m - 1, by rw [List.length_cons] at hm; omega⟩
      rw [List.take_succ_cons, List.takeWhile_cons, if_pos hc, ih m (by rw [List.length_cons] at hm; omega)]
    · rw [List.takeWhile_cons, if_neg hc]
      cases m with
      | zero => rfl
      | succ m => rw [List.take_succ_cons, List.takeWhile_cons, if_neg hc]

theorem word_take {l : List UInt8} {x : Tk} {m : Nat} (h : wordS l = .inr x) (hm : x.len ≤ m) : wordS (l.take m) = .inr x := by
  have hl : x.len = (l.takeWhile innerB).length := by
    unfold wordS at h
    simp only at h
    split at h
    · cases h; rfl
    · split at h
      · cases h
      · cases h; rfl
  have e := tw_take innerB l m (by omega)
  rw [← h]
  unfold wordS
  simp only [e]

theorem head_take {α : Type} (l : List α) (n m : Nat) : ((l.take m).drop n).head? = none ∨ ((l.take m).drop n).head? = (l.drop n).head? := by
  rw [List.drop_take]
  by_cases h : m - n = 0
  · left; rw [h]; simp
  · right
    obtain ⟨k, hk⟩ : ∃ k, m - n = k + 1 := ⟨m - n - 1, by omega⟩
    rw [hk]
    cases l.drop n <;> simp

theorem num_take {l : List UInt8} {x : Tk} {m : Nat} (h : numS l = .inr x) (hm : x.len ≤ m) : numS (l.take m) = .inr x := by
  have hl : x.len = (l.takeWhile digitB).length := by
    unfold numS at h
    simp only at h
    split at h
    · cases h
    · split at h
      · cases h
      · split at h
        · cases h; rfl
        · cases h
  have e := tw_take digitB l m (by omega)
  unfold numS at h ⊢
  simp only [e] at h ⊢
  split at h
  · cases h
  · rename_i h1
    rw [if_neg h1]
    split at h
    · cases h
    · rename_i h2
      rw [if_neg (by
        rcases head_take l (l.takeWhile digitB).length m with h3 | h3
        · rw [h3]; simp
        · rw [h3]; exact h2)]
      exact h

theorem pcS_take (l : List UInt8) (m : Nat) (hm : (pcS l).2 ≤ m) (h0 : (pcS l).2 ≠ 0) : pcS (l.take m) = pcS l := by
  match l with
  | [] => simp
  | c :: r =>
    obtain ⟨m, rfl⟩ : ∃ k, m = k + 1 := ⟨m - 1, by omega⟩
    rw [List.take_succ_cons]
    by_cases hc : c ≠ 92
    · simp only [pcS]
      rw [if_pos hc, if_pos hc]
    · simp only [pcS] at hm h0 ⊢
      rw [if_neg hc] at hm h0 ⊢
      rw [if_neg hc]
      match r with
      | [] => simp
      | d :: r =>
        simp only at hm h0 ⊢
        have hm1 : 1 ≤ m := by
          by_cases d1 : d = 110
          · rw [if_pos d1] at hm; simp only at hm; omega
          · rw [if_neg d1] at hm h0
            by_cases d2 : d = 34 ∨ d = 92
            · rw [if_pos d2] at hm; simp only at hm; omega
            · rw [if_neg d2] at hm h0
              by_cases d3 : d = 120
              · rw [if_pos d3] at hm h0
                match r with
                | [] => simp at h0
                | [a] => simp at h0
                | a :: b :: r =>
                  simp only at hm h0
                  split at hm
                  · simp only at hm; omega
                  · rename_i hn; rw [if_neg hn] at h0; simp at h0
              · rw [if_neg d3] at h0; simp at h0
        obtain ⟨m, rfl⟩ : ∃ k, m = k + 1 := ⟨m - 1, by omega⟩
        rw [List.take_succ_cons]
        simp only
        by_cases d1 : d = 110
        · rw [if_pos d1, if_pos d1]
        · rw [if_neg d1] at hm h0 ⊢
          rw [if_neg d1]
          by_cases d2 : d = 34 ∨ d = 92
          · rw [if_pos d2, if_pos d2]
          · rw [if_neg d2] at hm h0 ⊢
            rw [if_neg d2]
            by_cases d3 : d = 120
            · rw [if_pos d3] at hm h0 ⊢
              rw [if_pos d3]
              match r with
              | [] => simp at h0
              | [a] => simp at h0
              | a :: b :: r =>
                simp only at hm h0 ⊢
                have hm2 : 2 ≤ m := by
                  split at hm
                  · simp only at hm; omega
                  · rename_i hn; rw [if_neg hn] at h0; simp at h0
                obtain ⟨m, rfl⟩ : ∃ k, m = k + 2 := ⟨m - 2, by omega⟩
                rw [List.take_succ_cons, List.take_succ_cons]
            · rw [if_neg d3, if_neg d3]

theorem txt_take (f : Nat) : ∀ (f' n m : Nat) (V l : List UInt8) (x : Tk), txtS f n V l = .inr x → x.len ≤ n + m → f ≤ f' ∨ m < f' → txtS f' n V (l.take m) = .inr x := by
  induction f with
  | zero => intro f' n m V l x h _ _; simp [txtS] at h
  | succ f ih =>
    intro f' n m V l x h hm hf
    match l with
    | [] => simp [txtS] at h
    | c :: r =>
      have hlen := txt_len _ _ _ _ _ h
      obtain ⟨m, rfl⟩ : ∃ k, m = k + 1 := ⟨m - 1, by omega⟩
      obtain ⟨f', rfl⟩ : ∃ k, f' = k + 1 := ⟨f' - 1, by omega⟩
      rw [List.take_succ_cons]
      unfold txtS at h ⊢
      by_cases hq : c = 34
      · rw [if_pos hq] at h ⊢
        exact h
      · rw [if_neg hq] at h ⊢
        by_cases hb : (pcS (c :: r)).2 = 0 ∨ V.length = 200
        · rw [if_pos hb] at h; cases h
        · rw [if_neg hb] at h
          have hl2 := txt_len _ _ _ _ _ h
          have hp0 : (pcS (c :: r)).2 ≠ 0 := fun e => hb (Or.inl e)
          have e := pcS_take (c :: r) (m + 1) (by omega) hp0
          rw [List.take_succ_cons] at e
          rw [e, if_neg hb, ← List.take_succ_cons, List.drop_take]
          exact ih _ _ _ _ _ _ h (by omega) (by omega)

theorem sign_take {l : List UInt8} {x : Tk} {m : Nat} (h : signS l = .inr x) (hm : x.len ≤ m) : signS (l.take m) = .inr x := by
  unfold signS at h
  split at h
  · rename_i s hf
    cases h
    simp only at hm
    have hf2 : sgs.find? (fun s => s.data.toList.isPrefixOf (l.take m)) = some s := by
      rw [List.find?_eq_some_iff_append] at hf ⊢
      obtain ⟨hp, l1, l2, e, hn⟩ := hf
      refine ⟨?_, l1, l2, e, fun a ha => ?_⟩
      · rw [List.isPrefixOf_iff_prefix] at hp ⊢
        rw [Lib.size_eq] at hm
        exact List.prefix_take_iff.2 ⟨hp, hm⟩
      · have := hn a ha
        rw [Bool.not_eq_true', ← Bool.not_eq_true] at this ⊢
        intro h2
        apply this
        rw [List.isPrefixOf_iff_prefix] at h2 ⊢
        exact h2.trans (List.take_prefix _ _)
    unfold signS
    rw [hf2]
  · cases h

theorem tok_take {l : List UInt8} {x : Tk} {m : Nat} (h : tokS l = .inr x) (hm : x.len ≤ m) : tokS (l.take m) = .inr x := by
  match l with
  | [] => simp [tokS] at h
  | c :: r =>
    have hlen := tok_len h
    obtain ⟨m, rfl⟩ : ∃ k, m = k + 1 := ⟨m - 1, by omega⟩
    rw [List.take_succ_cons]
    simp only [tokS] at h ⊢
    by_cases h1 : letterB c = true
    · rw [if_pos h1] at h ⊢
      have := word_take h hm
      rwa [List.take_succ_cons] at this
    · rw [if_neg h1] at h ⊢
      by_cases h2 : digitB c = true
      · rw [if_pos h2] at h ⊢
        have := num_take h hm
        rwa [List.take_succ_cons] at this
      · rw [if_neg h2] at h ⊢
        by_cases h3 : c = 34
        · rw [if_pos h3] at h ⊢
          have hl2 := txt_len _ _ _ _ _ h
          refine txt_take _ _ _ _ _ _ _ h (by omega) ?_
          rw [List.length_take]
          omega
        · rw [if_neg h3] at h ⊢
          have := sign_take h hm
          rwa [List.take_succ_cons] at this

/-- Where the first problem stands. -/
theorem scan_err (f : Nat) : ∀ (k : Nat) (l : List UInt8) (e q : Nat), l.length < f → scanS f k l = .inl (e, q) → ∃ m, q = k + m ∧ m < l.length ∧ ∃ c r, l.drop m = c :: r ∧ blankB c = false ∧ c ≠ 35 ∧ tokS (c :: r) = .inl e ∧ ∃ toks, toks ≠ [] ∧ scanS f k (l.take m) = .inr toks := by
  induction f with
  | zero => intro k l e q hl _; omega
  | succ f ih =>
    intro k l e q hl h
    match l with
    | [] => cases h
    | c :: r =>
      rw [List.length_cons] at hl
      by_cases hb : blankB c = true
      · rw [scan_blank f k c r hb] at h
        obtain ⟨m, rfl, hm, c2, r2, hd, h1, h2, h3, toks, ht, hs⟩ := ih _ _ _ _ (by omega) h
        refine ⟨m + 1, by omega, by rw [List.length_cons]; omega, c2, r2, by rw [List.drop_succ_cons]; exact hd, h1, h2, h3, toks, ht, ?_⟩
        rw [List.take_succ_cons, scan_blank f k c _ hb]
        exact hs
      · have hbf : blankB c = false := by simpa using hb
        by_cases h35 : c = 35
        · subst h35
          have hcp := cmt_pos r
          have hcl := cmt_le (35 :: r)
          rw [scan_cmt] at h
          obtain ⟨m, rfl, hm, c2, r2, hd, h1, h2, h3, toks, ht, hs⟩ := ih _ _ _ _ (by rw [List.length_drop, List.length_cons]; omega) h
          rw [List.length_drop] at hm
          rw [List.drop_drop] at hd
          refine ⟨cmtS (35 :: r) + m, by omega, by omega, c2, r2, hd, h1, h2, h3, toks, ht, ?_⟩
          have ec : cmtS ((35 :: r).take (cmtS (35 :: r) + m)) = cmtS (35 :: r) := by
            unfold cmtS
            rw [tw_take _ (35 :: r) _ (by omega)]
          obtain ⟨p, hp⟩ : ∃ p, cmtS (35 :: r) + m = p + 1 := ⟨cmtS (35 :: r) + m - 1, by omega⟩
          have e2 : (35 :: r).take (cmtS (35 :: r) + m) = 35 :: r.take p := by rw [hp, List.take_succ_cons]
          rw [e2, scan_cmt, ← e2, ec, List.drop_take, Nat.add_sub_cancel_left]
          exact hs
        · cases hk : tokS (c :: r) with
          | inl e' =>
            rw [scan_bad f k c r e' hbf h35 hk] at h
            cases h
            exact ⟨0, by omega, by simp, c, r, rfl, hbf, h35, hk, [(k, ⟨0, 0, [], 0⟩)], by simp, by rw [List.take_zero]; exact scan_end f k⟩
          | inr x =>
            obtain ⟨hl1, hl2⟩ := tok_len hk
            have hcomb := scan_tok f k c r x [] hbf h35 hk
            rw [h] at hcomb
            have hrec : scanS f (k + x.len) ((c :: r).drop x.len) = .inl (e, q) := by
              cases hz : scanS f (k + x.len) ((c :: r).drop x.len) with
              | inl p => rw [hz] at hcomb; exact hcomb.symm
              | inr l => rw [hz] at hcomb; cases hcomb
            obtain ⟨m, rfl, hm, c2, r2, hd, h1, h2, h3, toks, ht, hs⟩ := ih _ _ _ _ (by rw [List.length_drop, List.length_cons]; omega) hrec
            rw [List.length_drop] at hm
            rw [List.drop_drop] at hd
            refine ⟨x.len + m, by omega, by omega, c2, r2, hd, h1, h2, h3, (k, x) :: toks, by simp, ?_⟩
            obtain ⟨p, hp⟩ : ∃ p, x.len + m = p + 1 := ⟨x.len + m - 1, by omega⟩
            have e2 : (c :: r).take (x.len + m) = c :: r.take p := by rw [hp, List.take_succ_cons]
            have hk2 := tok_take (m := x.len + m) hk (by omega)
            rw [e2] at hk2
            have hc2 := scan_tok f k c (r.take p) x [] hbf h35 hk2
            rw [← e2, List.drop_take, Nat.add_sub_cancel_left, hs] at hc2
            rw [e2] at hc2 ⊢
            cases hz : scanS (f + 1) k (c :: r.take p) with
            | inl q => rw [hz] at hc2; cases hc2
            | inr l => rw [hz] at hc2; simpa [comb] using hc2
theorem scan_some (f : Nat) : ∀ (k : Nat) (l : List UInt8) (toks : List (Nat × Tk)), scanS f k l = .inr toks → toks ≠ [] := by
  induction f with
  | zero => intro k l toks h; cases h
  | succ f ih =>
    intro k l toks h
    match l with
    | [] => cases h; simp
    | c :: r =>
      simp only [scanS] at h
      split at h
      · exact ih _ _ _ h
      · split at h
        · exact ih _ _ _ h
        · split at h
          · cases h
          · split at h
            · cases h
            · cases h; simp
end Go.Proofs.YtlahcmhjnhangaaDoor
namespace Go.Proofs.YtlahcmhjnhangaaDoor
/-- More fuel makes no difference. -/
theorem scan_more (f : Nat) : ∀ (f' k : Nat) (l : List UInt8) {p : Scanned}, l.length < f → f ≤ f' → scanS f k l = p → scanS f' k l = p := by
  induction f with
  | zero => intro f' k l p hl; omega
  | succ f ih =>
    intro f' k l p hl hf h
    obtain ⟨f', rfl⟩ : ∃ g, f' = g + 1 := ⟨f' - 1, by omega⟩
    match l with
    | [] => exact h
    | c :: r =>
      rw [List.length_cons] at hl
      by_cases hb : blankB c = true
      · rw [scan_blank _ k c r hb] at h ⊢
        exact ih _ _ _ (by omega) (by omega) h
      · have hbf : blankB c = false := by simpa using hb
        by_cases h35 : c = 35
        · subst h35
          have hcp := cmt_pos r
          rw [scan_cmt] at h ⊢
          exact ih _ _ _ (by rw [List.length_drop, List.length_cons]; omega) (by omega) h
        · cases hk : tokS (c :: r) with
          | inl e =>
            rw [scan_bad _ k c r e hbf h35 hk] at h ⊢
            exact h
          | inr x =>
            obtain ⟨hl1, hl2⟩ := tok_len hk
            have hrec := ih f' (k + x.len) ((c :: r).drop x.len) (by rw [List.length_drop, List.length_cons]; omega) (by omega) rfl
            rw [← h]
            simp only [scanS]
            rw [if_neg hb, if_neg h35, hk]
            simp only [hrec]
            rw [if_neg hb, if_neg h35]
end Go.Proofs.YtlahcmhjnhangaaDoor
