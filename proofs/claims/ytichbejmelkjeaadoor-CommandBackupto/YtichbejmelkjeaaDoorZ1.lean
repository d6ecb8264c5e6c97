import Derived.Test.YtichbejmelkjeaaDoorLxScanMath
import Derived.Test.YtichbejmelkjeaaDoorcSpec
import Derived.Test.YtichbejmelkjeaaDoorLxNumMath
import Derived.Test.YtichbejmelkjeaaDoorcLn
import Derived.Test.YtichbejmelkjeaaDoorXB
namespace Go.Proofs.YtichbejmelkjeaaDoor.Lx
open Go.RowKit

/-! A token is found again in the text that ends behind it. -/
theorem tw_take (p : UInt8 → Bool) : ∀ (l : List UInt8) (m : Nat), (l.takeWhile p).length ≤ m → (l.take m).takeWhile p = l.takeWhile p := by
  intro l
  induction l with
  | nil => intro m _; simp
  | cons c r ih =>
    intro m hm
    by_cases hc : p c = true
    · rw [List.takeWhile_cons, if_pos hc] at hm ⊢
      obtain ⟨m, rfl⟩ : ∃ k, m = k + 1 := ⟨m - 1, by rw [List.length_cons] at hm; omega⟩
      rw [List.take_succ_cons, List.takeWhile_cons, if_pos hc, ih m (by rw [List.length_cons] at hm; omega)]
    · rw [List.takeWhile_cons, if_neg hc]
      cases m with
      | zero => rfl
      | succ m => rw [List.take_succ_cons, List.takeWhile_cons, if_neg hc]

theorem word_take {l : List UInt8} {x : Tk} {m : Nat} (h : wordS l = .inr x) (hm : x.len ≤ m) : wordS (l.take m) = .inr x := by
  have hl : x.len = (l.takeWhile innerB).length := by
    unfold wordS at h
    simp only at h
    split at h
    · cases h; rfl
    · split at h
      · cases h
      · cases h; rfl
  have e := tw_take innerB l m (by omega)
  rw [← h]
  unfold wordS
  simp only [e]

theorem head_take {α : Type} (l : List α) (n m : Nat) : ((l.take m).drop n).head? = none ∨ ((l.take m).drop n).head? = (l.drop n).head? := by
  rw [List.drop_take]
  by_cases h : m - n = 0
  · left; rw [h]; simp
  · right
    obtain ⟨k, hk⟩ : ∃ k, m - n = k + 1 := ⟨m - n - 1, by omega⟩
    rw [hk]
    cases l.drop n <;> simp

theorem num_take {l : List UInt8} {x : Tk} {m : Nat} (h : numS l = .inr x) (hm : x.len ≤ m) : numS (l.take m) = .inr x := by
  have hl : x.len = (l.takeWhile digitB).length := by
    unfold numS at h
    simp only at h
    split at h
    · cases h
    · split at h
      · cases h
      · split at h
        · cases h; rfl
        · cases h
  have e := tw_take digitB l m (by omega)
  unfold numS at h ⊢
  simp only [e] at h ⊢
  split at h
  · cases h
  · rename_i h1
    rw [if_neg h1]
    split at h
    · cases h
    · rename_i h2
      rw [if_neg (by
        rcases head_take l (l.takeWhile digitB).length m with h3 | h3
        · rw [h3]; simp
        · rw [h3]; exact h2)]
      exact h

theorem pcS_take (l : List UInt8) (m : Nat) (hm : (pcS l).2 ≤ m) (h0 : (pcS l).2 ≠ 0) : pcS (l.take m) = pcS l := by
  match l with
  | [] => simp
  | c :: r =>
    obtain ⟨m, rfl⟩ : ∃ k, m = k + 1 := ⟨m - 1, by omega⟩
    rw [List.take_succ_cons]
    by_cases hc : c ≠ 92
    · simp only [pcS]
      rw [if_pos hc, if_pos hc]
    · simp only [pcS] at hm h0 ⊢
      rw [if_neg hc] at hm h0 ⊢
      rw [if_neg hc]
      match r with
      | [] => simp
      | d :: r =>
        simp only at hm h0 ⊢
        have hm1 : 1 ≤ m := by
          by_cases d1 : d = 110
          · rw [if_pos d1] at hm; simp only at hm; omega
          · rw [if_neg d1] at hm h0
            by_cases d2 : d = 34 ∨ d = 92
            · rw [if_pos d2] at hm; simp only at hm; omega
            · rw [if_neg d2] at hm h0
              by_cases d3 : d = 120
              · rw [if_pos d3] at hm h0
                match r with
                | [] => simp at h0
                | [a] => simp at h0
                | a :: b :: r =>
                  simp only at hm h0
                  split at hm
                  · simp only at hm; omega
                  · rename_i hn; rw [if_neg hn] at h0; simp at h0
              · rw [if_neg d3] at h0; simp at h0
        obtain ⟨m, rfl⟩ : ∃ k, m = k + 1 := ⟨m - 1, by omega⟩
        rw [List.take_succ_cons]
        simp only
        by_cases d1 : d = 110
        · rw [if_pos d1, if_pos d1]
        · rw [if_neg d1] at hm h0 ⊢
          rw [if_neg d1]
          by_cases d2 : d = 34 ∨ d = 92
          · rw [if_pos d2, if_pos d2]
          · rw [if_neg d2] at hm h0 ⊢
            rw [if_neg d2]
            by_cases d3 : d = 120
            · rw [if_pos d3] at hm h0 ⊢
              rw [if_pos d3]
              match r with
              | [] => simp at h0
              | [a] => simp at h0
              | a :: b :: r =>
                simp only at hm h0 ⊢
                have hm2 : 2 ≤ m := by
                  split at hm
                  · simp only at hm; omega
                  · rename_i hn; rw [if_neg hn] at h0; simp at h0
                obtain ⟨m, rfl⟩ : ∃ k, m = k + 2 := ⟨m - 2, by omega⟩
                rw [List.take_succ_cons, List.take_succ_cons]
            · rw [if_neg d3, if_neg d3]

theorem txt_take (f : Nat) : ∀ (f' n m : Nat) (V l : List UInt8) (x : Tk), txtS f n V l = .inr x → x.len ≤ n + m → f ≤ f' ∨ m < f' → txtS f' n V (l.take m) = .inr x := by
  induction f with
  | zero => intro f' n m V l x h _ _; simp [txtS] at h
  | succ f ih =>
    intro f' n m V l x h hm hf
    match l with
    | [] => simp [txtS] at h
    | c :: r =>
      have hlen := txt_len _ _ _ _ _ h
      obtain ⟨m, rfl⟩ : ∃ k, m = k + 1 := ⟨m - 1, by omega⟩
      obtain ⟨f', rfl⟩ : ∃ k, f' = k + 1 := ⟨f' - 1, by omega⟩
      rw [List.take_succ_cons]
      unfold txtS at h ⊢
      by_cases hq : c = 34
      · rw [if_pos hq] at h ⊢
        exact h
      · rw [if_neg hq] at h ⊢
        by_cases hb : (pcS (c :: r)).2 = 0 ∨ V.length = 200
        · rw [if_pos hb] at h; cases h
        · rw [if_neg hb] at h
          have hl2 := txt_len _ _ _ _ _ h
          have hp0 : (pcS (c :: r)).2 ≠ 0 := fun e => hb (Or.inl e)
          have e := pcS_take (c :: r) (m + 1) (by omega) hp0
          rw [List.take_succ_cons] at e
          rw [e, if_neg hb, ← List.take_succ_cons, List.drop_take]
          exact ih _ _ _ _ _ _ h (by omega) (by omega)

theorem sign_take {l : List UInt8} {x : Tk} {m : Nat} (h : signS l = .inr x) (hm : x.len ≤ m) : signS (l.take m) = .inr x := by
  unfold signS at h
  split at h
  · rename_i s hf
    cases h
    simp only at hm
    have hf2 : sgs.find? (fun s => s.data.toList.isPrefixOf (l.take m)) = some s := by
      rw [List.find?_eq_some_iff_append] at hf ⊢
      obtain ⟨hp, l1, l2, e, hn⟩ := hf
      refine ⟨?_, l1, l2, e, fun a ha => ?_⟩
      · rw [List.isPrefixOf_iff_prefix] at hp ⊢
        rw [Lib.size_eq] at hm
        exact List.prefix_take_iff.2 ⟨hp, hm⟩
      · have := hn a ha
        rw [Bool.not_eq_true', ← Bool.not_eq_true] at this ⊢
        intro h2
        apply this
        rw [List.isPrefixOf_iff_prefix] at h2 ⊢
        exact h2.trans (List.take_prefix _ _)
    unfold signS
    rw [hf2]
  · cases h

theorem tok_take {l : List UInt8} {x : Tk} {m : Nat} (h : tokS l = .inr x) (hm : x.len ≤ m) : tokS (l.take m) = .inr x := by
  match l with
  | [] => simp [tokS] at h
  | c :: r =>
    have hlen := tok_len h
    obtain ⟨m, rfl⟩ : ∃ k, m = k + 1 := ⟨m - 1, by omega⟩
    rw [List.take_succ_cons]
    simp only [tokS] at h ⊢
    by_cases h1 : letterB c = true
    · rw [if_pos h1] at h ⊢
      have := word_take h hm
      rwa [List.take_succ_cons] at this
    · rw [if_neg h1] at h ⊢
      by_cases h2 : digitB c = true
      · rw [if_pos h2] at h ⊢
        have := num_take h hm
        rwa [List.take_succ_cons] at this
      · rw [if_neg h2] at h ⊢
        by_cases h3 : c = 34
        · rw [if_pos h3] at h ⊢
          have hl2 := txt_len _ _ _ _ _ h
          refine txt_take _ _ _ _ _ _ _ h (by omega) ?_
          rw [List.length_take]
          omega
        · rw [if_neg h3] at h ⊢
          have := sign_take h hm
          rwa [List.take_succ_cons] at this

/-- Where the first problem stands. -/
theorem scan_err (f : Nat) : ∀ (k : Nat) (l : List UInt8) (e q : Nat), l.length < f → scanS f k l = .inl (e, q) → ∃ m, q = k + m ∧ m < l.length ∧ ∃ c r, l.drop m = c :: r ∧ blankB c = false ∧ c ≠ 35 ∧ tokS (c :: r) = .inl e ∧ ∃ toks, toks ≠ [] ∧ scanS f k (l.take m) = .inr toks := by
  induction f with
  | zero => intro k l e q hl _; omega
  | succ f ih =>
    intro k l e q hl h
    match l with
    | [] => cases h
    | c :: r =>
      rw [List.length_cons] at hl
      by_cases hb : blankB c = true
      · rw [scan_blank f k c r hb] at h
        obtain ⟨m, rfl, hm, c2, r2, hd, h1, h2, h3, toks, ht, hs⟩ := ih _ _ _ _ (by omega) h
        refine ⟨m + 1, by omega, by rw [List.length_cons]; omega, c2, r2, by rw [List.drop_succ_cons]; exact hd, h1, h2, h3, toks, ht, ?_⟩
        rw [List.take_succ_cons, scan_blank f k c _ hb]
        exact hs
      · have hbf : blankB c = false := by simpa using hb
        by_cases h35 : c = 35
        · subst h35
          have hcp := cmt_pos r
          have hcl := cmt_le (35 :: r)
          rw [scan_cmt] at h
          obtain ⟨m, rfl, hm, c2, r2, hd, h1, h2, h3, toks, ht, hs⟩ := ih _ _ _ _ (by rw [List.length_drop, List.length_cons]; omega) h
          rw [List.length_drop] at hm
          rw [List.drop_drop] at hd
          refine ⟨cmtS (35 :: r) + m, by omega, by omega, c2, r2, hd, h1, h2, h3, toks, ht, ?_⟩
          have ec : cmtS ((35 :: r).take (cmtS (35 :: r) + m)) = cmtS (35 :: r) := by
            unfold cmtS
            rw [tw_take _ (35 :: r) _ (by omega)]
          obtain ⟨p, hp⟩ : ∃ p, cmtS (35 :: r) + m = p + 1 := ⟨cmtS (35 :: r) + m - 1, by omega⟩
          have e2 : (35 :: r).take (cmtS (35 :: r) + m) = 35 :: r.take p := by rw [hp, List.take_succ_cons]
          rw [e2, scan_cmt, ← e2, ec, List.drop_take, Nat.add_sub_cancel_left]
          exact hs
        · cases hk : tokS (c :: r) with
          | inl e' =>
            rw [scan_bad f k c r e' hbf h35 hk] at h
            cases h
            exact ⟨0, by omega, by simp, c, r, rfl, hbf, h35, hk, [(k, ⟨0, 0, [], 0⟩)], by simp, by rw [List.take_zero]; exact scan_end f k⟩
          | inr x =>
            obtain ⟨hl1, hl2⟩ := tok_len hk
            have hcomb := scan_tok f k c r x [] hbf h35 hk
            rw [h] at hcomb
            have hrec : scanS f (k + x.len) ((c :: r).drop x.len) = .inl (e, q) := by
              cases hz : scanS f (k + x.len) ((c :: r).drop x.len) with
              | inl p => rw [hz] at hcomb; exact hcomb.symm
              | inr l => rw [hz] at hcomb; cases hcomb
            obtain ⟨m, rfl, hm, c2, r2, hd, h1, h2, h3, toks, ht, hs⟩ := ih _ _ _ _ (by rw [List.length_drop, List.length_cons]; omega) hrec
            rw [List.length_drop] at hm
            rw [List.drop_drop] at hd
            refine ⟨x.len + m, by omega, by omega, c2, r2, hd, h1, h2, h3, (k, x) :: toks, by simp, ?_⟩
            obtain ⟨p, hp⟩ : ∃ p, x.len + m = p + 1 := ⟨x.len + m - 1, by omega⟩
            have e2 : (c :: r).take (x.len + m) = c :: r.take p := by rw [hp, List.take_succ_cons]
            have hk2 := tok_take (m := x.len + m) hk (by omega)
            rw [e2] at hk2
            have hc2 := scan_tok f k c (r.take p) x [] hbf h35 hk2
            rw [← e2, List.drop_take, Nat.add_sub_cancel_left, hs] at hc2
            rw [e2] at hc2 ⊢
            cases hz : scanS (f + 1) k (c :: r.take p) with
            | inl q => rw [hz] at hc2; cases hc2
            | inr l => rw [hz] at hc2; simpa [comb] using hc2
theorem scan_some (f : Nat) : ∀ (k : Nat) (l : List UInt8) (toks : List (Nat × Tk)), scanS f k l = .inr toks → toks ≠ [] := by
  induction f with
  | zero => intro k l toks h; cases h
  | succ f ih =>
    intro k l toks h
    match l with
    | [] => cases h; simp
    | c :: r =>
      simp only [scanS] at h
      split at h
      · exact ih _ _ _ h
      · split at h
        · exact ih _ _ _ h
        · split at h
          · cases h
          · split at h
            · cases h
            · cases h; simp
end Go.Proofs.YtichbejmelkjeaaDoor.Lx
namespace Go.Proofs.YtichbejmelkjeaaDoor.Lx
/-- More fuel makes no difference. -/
theorem scan_more (f : Nat) : ∀ (f' k : Nat) (l : List UInt8) {p : Scanned}, l.length < f → f ≤ f' → scanS f k l = p → scanS f' k l = p := by
  induction f with
  | zero => intro f' k l p hl; omega
  | succ f ih =>
    intro f' k l p hl hf h
    obtain ⟨f', rfl⟩ : ∃ g, f' = g + 1 := ⟨f' - 1, by omega⟩
    match l with
    | [] => exact h
    | c :: r =>
      rw [List.length_cons] at hl
      by_cases hb : blankB c = true
      · rw [scan_blank _ k c r hb] at h ⊢
        exact ih _ _ _ (by omega) (by omega) h
      · have hbf : blankB c = false := by simpa using hb
        by_cases h35 : c = 35
        · subst h35
          have hcp := cmt_pos r
          rw [scan_cmt] at h ⊢
          exact ih _ _ _ (by rw [List.length_drop, List.length_cons]; omega) (by omega) h
        · cases hk : tokS (c :: r) with
          | inl e =>
            rw [scan_bad _ k c r e hbf h35 hk] at h ⊢
            exact h
          | inr x =>
            obtain ⟨hl1, hl2⟩ := tok_len hk
            have hrec := ih f' (k + x.len) ((c :: r).drop x.len) (by rw [List.length_drop, List.length_cons]; omega) (by omega) rfl
            rw [← h]
            simp only [scanS]
            rw [if_neg hb, if_neg h35, hk]
            simp only [hrec]
            rw [if_neg hb, if_neg h35]
end Go.Proofs.YtichbejmelkjeaaDoor.Lx
namespace Go.Proofs.YtichbejmelkjeaaDoor
open Go.RowKit

theorem hd_nxt (r : List UInt8) : nxt r = [] ∨ ∃ c q, nxt r = c :: q ∧ bl c = false := trm_head _
/-- Three words are taken, and none was the one that stops: all the others are. -/
theorem tkn_all : ∀ (f : Nat) (ws : List (List UInt8)) (r : List UInt8), 3 ≤ ws.length → (r = [] ∨ ∃ c q, r = c :: q ∧ bl c = false) → r.length < f → tkn f ws r = (ws ++ (chs f r).map wrd, []) := by
  intro f
  induction f with
  | zero => intro ws r _ _ h; omega
  | succ f ih =>
    intro ws r h3 hh hf
    by_cases h0 : r = []
    · subst h0; rw [chs_nil]; simp [tkn]
    · have hl := nxt_len (hh.resolve_left h0)
      unfold tkn
      rw [if_neg h0, if_neg (by
        rintro (⟨h, -⟩ | ⟨h, -⟩) <;> simp only [List.length_append, List.length_cons, List.length_nil] at h <;> omega), ih _ _ (by rw [List.length_append]; omega) (hd_nxt r) (by omega), chs_cons _ h0]
      simp
theorem chs_one {f : Nat} {r : List UInt8} (hf : 0 < f) (h : nxt r = []) (h0 : r ≠ []) : chs f r = [r] := by
  obtain ⟨g, rfl⟩ : ∃ g, f = g + 1 := ⟨f - 1, by omega⟩
  rw [chs_cons _ h0, h, chs_nil]

/-- What the program reads is what the rests say. -/
theorem cmd_eq (f : Nat) (r : List UInt8) (hh : r = [] ∨ ∃ c q, r = c :: q ∧ bl c = false) (hf : r.length + 4 < f) : (fun x : List (List UInt8) × List UInt8 => cmdP x.1 x.2) (tkn f [] r) = cmdS (chs f r) := by
  obtain ⟨f3, rfl⟩ : ∃ g, f = g + 4 := ⟨f - 4, by omega⟩
  by_cases h0 : r = []
  · subst h0; rw [chs_nil]; rfl
  have l1 := nxt_len (hh.resolve_left h0)
  have hb1 := hd_nxt r
  obtain ⟨r1, hr1⟩ : ∃ r1, nxt r = r1 := ⟨_, rfl⟩
  rw [hr1] at l1 hb1
  rw [show f3 + 4 = (f3 + 3) + 1 from rfl, chs_cons _ h0, hr1]
  obtain ⟨w0, hw0⟩ : ∃ w0, wrd r = w0 := ⟨_, rfl⟩
  have key : ∀ ws e, tkn (f3 + 3 + 1) [] r = (ws, e) → cmdP ws e = cmdS (r :: chs (f3 + 3) r1) → (fun x : List (List UInt8) × List UInt8 => cmdP x.1 x.2) (tkn (f3 + 3 + 1) [] r) = cmdS (r :: chs (f3 + 3) r1) := fun ws e h1 h2 => by rw [h1]; exact h2
  by_cases h6 : tks (knd w0) = 6
  · refine key [w0] r1 ?_ ?_
    · unfold tkn
      rw [if_neg h0, hw0, hr1, if_pos (.inl ⟨rfl, h6⟩)]; rfl
    · unfold cmdP cmdS
      simp only [hw0, h6]
      by_cases h1 : r1 = []
      · subst h1; rw [chs_nil]; simp
      · rw [show f3 + 3 = (f3 + 2) + 1 from rfl, chs_cons _ h1]; simp [h1]
  have hgo1 : tkn (f3 + 3 + 1) [] r = tkn (f3 + 3) [w0] r1 := by
    conv => lhs; unfold tkn
    rw [if_neg h0, hw0, hr1, if_neg (by
      rintro (⟨-, h⟩ | ⟨h, -⟩)
      · exact h6 h
      · simp at h)]
    rfl
  rw [hgo1] at key
  by_cases h1 : r1 = []
  · subst h1
    rw [hgo1]
    refine key [w0] [] (by simp [tkn]) ?_
    rw [chs_nil]
    unfold cmdP cmdS
    simp only [hw0, h6]
    simp
  have l2 := nxt_len (hb1.resolve_left h1)
  have hb2 := hd_nxt r1
  obtain ⟨r2, hr2⟩ : ∃ r2, nxt r1 = r2 := ⟨_, rfl⟩
  rw [hr2] at l2 hb2
  obtain ⟨w1, hw1⟩ : ∃ w1, wrd r1 = w1 := ⟨_, rfl⟩
  have hgo2 : tkn (f3 + 3) [w0] r1 = tkn (f3 + 2) [w0, w1] r2 := by
    conv => lhs; unfold tkn
    rw [if_neg h1, hw1, hr2, if_neg (by
      rintro (⟨h, -⟩ | ⟨h, -⟩) <;> simp at h)]
    rfl
  rw [hgo1]
  rw [hgo2] at key ⊢
  rw [show f3 + 3 = (f3 + 2) + 1 from rfl, chs_cons _ h1, hr2] at key ⊢
  by_cases h2 : r2 = []
  · subst h2
    refine key [w0, w1] [] (by simp [tkn]) ?_
    rw [chs_nil]
    unfold cmdP cmdS
    simp only [hw0, hw1, h6]
    simp
  have l3 := nxt_len (hb2.resolve_left h2)
  have hb3 := hd_nxt r2
  obtain ⟨r3, hr3⟩ : ∃ r3, nxt r2 = r3 := ⟨_, rfl⟩
  rw [hr3] at l3 hb3
  obtain ⟨w2, hw2⟩ : ∃ w2, wrd r2 = w2 := ⟨_, rfl⟩
  rw [show f3 + 2 = (f3 + 1) + 1 from rfl, chs_cons _ h2, hr3] at key ⊢
  by_cases hif : w2 = ifw
  · refine key [w0, w1, w2] r3 ?_ ?_
    · unfold tkn
      rw [if_neg h2, hw2, hr3, if_pos (.inr ⟨rfl, hif⟩)]; rfl
    · unfold cmdP cmdS
      simp only [hw0, h6, hif]
      by_cases h3 : r3 = []
      · subst h3; rw [chs_nil]; simp
      · rw [chs_cons _ h3]; simp [h3, hw1, hw2, hif]
  · have hgo3 : tkn (f3 + 1 + 1) [w0, w1] r2 = tkn (f3 + 1) [w0, w1, w2] r3 := by
      conv => lhs; unfold tkn
      rw [if_neg h2, hw2, hr3, if_neg (by
        rintro (⟨h, -⟩ | ⟨-, h⟩)
        · simp at h
        · exact hif h)]
      rfl
    rw [hgo3] at key ⊢
    refine key _ _ (tkn_all (f3 + 1) [w0, w1, w2] r3 (by simp) hb3 (by omega)) ?_
    unfold cmdP cmdS
    simp only [hw0, h6]
    cases hc : chs (f3 + 1) r3 with
    | nil => simp
    | cons a b => simp [hw2, hif]
theorem par_rsts (l : List UInt8) : parP l = if 300 < l.length ∨ 10 ∈ l then none else cmdS (chs (l.length + 6) (trm l)) := by
  unfold parP
  split
  · rfl
  · have hfu : ∀ (f g : Nat) (ws : List (List UInt8)) (r : List UInt8), (r = [] ∨ ∃ c q, r = c :: q ∧ bl c = false) → r.length < f → r.length < g → tkn f ws r = tkn g ws r := by
      intro f
      induction f with
      | zero => intro g ws r _ h; omega
      | succ f ih =>
        intro g ws r hr hf hg
        cases g with
        | zero => omega
        | succ g =>
          unfold tkn
          by_cases h : r = []
          · rw [if_pos h, if_pos h]
          · rw [if_neg h, if_neg h]
            have hl := nxt_len (hr.resolve_left h)
            rw [ih g _ (nxt r) (hd_nxt r) (by omega) (by omega)]
    have hl := trm_len l
    rw [hfu (l.length + 1) (l.length + 6) [] (trm l) (trm_head l) (by omega) (by omega)]
    exact cmd_eq _ _ (trm_head l) (by omega)
end Go.Proofs.YtichbejmelkjeaaDoor
namespace Go.Proofs.YtichbejmelkjeaaDoor
open Go.RowKit

/-! What is all of a word. -/
theorem scan_first : ∀ (f k : Nat) (l : List UInt8) (q : Nat) (x : Lx.Tk) (t : List (Nat × Lx.Tk)), Lx.scanS f k l = .inr ((q, x) :: t) → k ≤ q := by
  intro f
  induction f with
  | zero => intro k l q x t h; simp [Lx.scanS] at h
  | succ f ih =>
    intro k l q x t h
    match l with
    | [] => simp [Lx.scanS] at h; omega
    | c :: r =>
      unfold Lx.scanS at h
      split at h
      · have := ih _ _ _ _ _ h; omega
      · split at h
        · have := ih _ _ _ _ _ h; omega
        · split at h
          · cases h
          · split at h
            · cases h
            · cases h; omega
theorem whl_tok {w : List UInt8} (h : (whl w).kind ≠ 0) : Lx.tokS w = .inr (whl w) ∧ (whl w).len = w.length ∧ ∃ c r, w = c :: r ∧ Lx.blankB c = false ∧ c ≠ 35 := by
  unfold whl at h ⊢
  cases hs : Lx.scanS (w.length + 1) 0 w with
  | inl p => rw [hs] at h; exact absurd rfl h
  | inr L =>
    rw [hs] at h
    cases L with
    | nil => exact absurd rfl h
    | cons p t =>
      obtain ⟨k, x⟩ := p
      simp only at h ⊢
      by_cases hc : k = 0 ∧ x.len = w.length
      · rw [if_pos hc] at h ⊢
        obtain ⟨rfl, hl⟩ := hc
        cases w with
        | nil =>
          rw [Lx.scan_end] at hs
          cases hs
          exact absurd rfl h
        | cons c r =>
          rw [List.length_cons] at hs
          by_cases hb : Lx.blankB c = true
          · rw [Lx.scan_blank _ _ _ _ hb] at hs
            have := scan_first _ _ _ _ _ _ hs; omega
          · have hbf : Lx.blankB c = false := by simpa using hb
            by_cases h35 : c = 35
            · subst h35
              rw [Lx.scan_cmt] at hs
              have h1 := scan_first _ _ _ _ _ _ hs
              have h2 := Lx.cmt_pos r
              omega
            · cases ht : Lx.tokS (c :: r) with
              | inl e => rw [Lx.scan_bad _ _ _ _ _ hbf h35 ht] at hs; cases hs
              | inr y =>
                have hc := Lx.scan_tok (r.length + 1) 0 c r y [] hbf h35 ht
                rw [hs] at hc
                cases hz : Lx.scanS (r.length + 1) (0 + y.len) ((c :: r).drop y.len) with
                | inl p => rw [hz] at hc; cases hc
                | inr M =>
                  rw [hz] at hc
                  simp [Lx.comb] at hc
                  refine ⟨?_, hl, c, r, rfl, hbf, h35⟩
                  first | (rw [hc.1]; done) | (rw [hc.1]; exact ht)
      · rw [if_neg hc] at h; exact absurd rfl h
theorem whl_of {c : UInt8} {r : List UInt8} {x : Lx.Tk} (hb : Lx.blankB c = false) (h35 : c ≠ 35) (ht : Lx.tokS (c :: r) = .inr x) (hl : x.len = (c :: r).length) : whl (c :: r) = x := by
  have hc := Lx.scan_tok (r.length + 1) 0 c r x [] hb h35 ht
  rw [hl, List.drop_length, Lx.scan_end] at hc
  unfold whl
  rw [List.length_cons]
  cases hz : Lx.scanS (r.length + 1 + 1) 0 (c :: r) with
  | inl p => rw [hz] at hc; cases hc
  | inr M =>
    rw [hz] at hc
    simp only [Lx.comb, List.nil_append] at hc
    injection hc with hc
    subst hc
    simp only [List.cons_append]
    rw [if_pos ⟨trivial, by rw [hl, List.length_cons]⟩]
theorem whl_scan {w : List UInt8} (h : (whl w).kind ≠ 0) : Lx.scanS (w.length + 1) 0 w = .inr [(0, whl w), (w.length, ⟨0, 0, [], 0⟩)] := by
  obtain ⟨h1, h2, c, r, hw, hb, h35⟩ := whl_tok h
  generalize whl w = x at *
  subst hw
  have hc := Lx.scan_tok (r.length + 1) 0 c r x [] hb h35 h1
  rw [h2, List.drop_length, Lx.scan_end] at hc
  cases hz : Lx.scanS ((c :: r).length + 1) 0 (c :: r) with
  | inl p => rw [List.length_cons] at hz; rw [hz] at hc; cases hc
  | inr M =>
    rw [List.length_cons] at hz
    rw [hz] at hc
    simp only [Lx.comb, List.nil_append] at hc
    injection hc with hc
    rw [hc]; simp
theorem digit_sep {c : UInt8} (h : Lx.digitB c = true) : Lx.letterB c = false ∧ Lx.blankB c = false ∧ c ≠ 35 := by
  simp [Lx.digitB] at h
  refine ⟨?_, ?_, ?_⟩
  · simp [Lx.letterB]; omega
  · simp [Lx.blankB]; omega
  · rintro rfl; simp at h
theorem letter_sep {c : UInt8} (h : Lx.letterB c = true) : Lx.blankB c = false ∧ c ≠ 35 := by
  simp [Lx.letterB] at h
  refine ⟨?_, ?_⟩
  · simp [Lx.blankB]; omega
  · rintro rfl; simp at h
theorem txt_kind (f : Nat) : ∀ (n : Nat) (V l : List UInt8) (x : Lx.Tk), Lx.txtS f n V l = .inr x → x.kind = 3 := by
  induction f with
  | zero => intro n V l x h; simp [Lx.txtS] at h
  | succ f ih =>
    intro n V l x h
    match l with
    | [] => simp [Lx.txtS] at h
    | c :: r =>
      unfold Lx.txtS at h
      split at h
      · cases h; rfl
      · split at h
        · cases h
        · exact ih _ _ _ _ h
theorem sign_kind {l : List UInt8} {x : Lx.Tk} (h : Lx.signS l = .inr x) : x.kind = 5 := by
  unfold Lx.signS at h
  split at h
  · cases h; rfl
  · cases h
theorem num_kind {l : List UInt8} {x : Lx.Tk} (h : Lx.numS l = .inr x) : x.kind = 2 ∧ x.len = (l.takeWhile Lx.digitB).length ∧ Lib.parseIntB 64 (l.takeWhile Lx.digitB) = .ok x.int ∧ ¬ (1 < (l.takeWhile Lx.digitB).length ∧ (l.takeWhile Lx.digitB).head? = some 48) ∧ ¬ 19 < (l.takeWhile Lx.digitB).length := by
  unfold Lx.numS at h
  simp only at h
  split at h
  · cases h
  · rename_i h1
    split at h
    · cases h
    · split at h
      · rename_i v hv
        cases h
        exact ⟨rfl, rfl, hv, fun h => h1 (.inl h), fun h => h1 (.inr h)⟩
      · cases h
theorem word_kind {l : List UInt8} {x : Lx.Tk} (h : Lx.wordS l = .inr x) : (x.kind = 4 ∨ x.kind = 1) ∧ x.len = (l.takeWhile Lx.innerB).length ∧ x.text = l.takeWhile Lx.innerB := by
  unfold Lx.wordS at h
  simp only at h
  split at h
  · cases h; exact ⟨.inl rfl, rfl, rfl⟩
  · split at h
    · cases h
    · cases h; exact ⟨.inr rfl, rfl, rfl⟩
theorem tw_full {p : UInt8 → Bool} {l : List UInt8} (h : (l.takeWhile p).length = l.length) : l.takeWhile p = l := by
  have := List.takeWhile_prefix p (l := l)
  exact this.eq_of_length h
theorem tw_all {p : UInt8 → Bool} {l : List UInt8} (h : ∀ c ∈ l, p c = true) : l.takeWhile p = l := by
  induction l with
  | nil => rfl
  | cons c r ih => rw [List.takeWhile_cons, if_pos (h c (by simp)), ih (fun d hd => h d (by simp [hd]))]
theorem tok_two {l : List UInt8} {x : Lx.Tk} (h : Lx.tokS l = .inr x) (hk : x.kind = 2) : Lx.numS l = .inr x ∧ ∃ c r, l = c :: r ∧ Lx.digitB c = true := by
  match l with
  | [] => simp [Lx.tokS] at h
  | c :: r =>
    simp only [Lx.tokS] at h
    split at h
    · have := (word_kind h).1; omega
    · split at h
      · rename_i hd; exact ⟨h, c, r, rfl, hd⟩
      · split at h
        · have := txt_kind _ _ _ _ _ h; omega
        · have := sign_kind h; omega
theorem tok_name {l : List UInt8} {x : Lx.Tk} (h : Lx.tokS l = .inr x) (hk : x.kind = 1) : Lx.wordS l = .inr x ∧ ∃ c r, l = c :: r ∧ Lx.letterB c = true := by
  match l with
  | [] => simp [Lx.tokS] at h
  | c :: r =>
    simp only [Lx.tokS] at h
    split at h
    · rename_i hd; exact ⟨h, c, r, rfl, hd⟩
    · split at h
      · have := (num_kind h).1; omega
      · split at h
        · have := txt_kind _ _ _ _ _ h; omega
        · have := sign_kind h; omega
/-- A name is the text of its token. -/
theorem whl_name {w : List UInt8} (h : (whl w).kind = 1) : (whl w).text = w ∧ w ≠ [] := by
  obtain ⟨h1, h2, -⟩ := whl_tok (w := w) (by omega)
  obtain ⟨h3, c, r, h4, -⟩ := tok_name h1 h
  obtain ⟨-, h5, h6⟩ := word_kind h3
  refine ⟨?_, by rw [h4]; simp⟩
  rw [h6]
  exact tw_full (by omega)

/-- What the document's number is. -/
def rnS (w : List UInt8) : Int := if w = [] ∨ 19 < w.length ∨ (1 < w.length ∧ w.head? = some 48) ∨ (∃ c ∈ w, Lx.digitB c = false) ∨ 9223372036854775808 ≤ Lx.dv 0 w then -1 else (Lx.dv 0 w : Int)
theorem rn_yes {w : List UInt8} (h : (numO w).2 = true) : rnS w = (numO w).1 ∧ 0 ≤ (numO w).1 ∧ (numO w).1 ≤ 9223372036854775807 := by
  unfold numO at h ⊢
  simp only at h ⊢
  have hk : (whl w).kind = 2 := by simpa using h
  obtain ⟨h1, h2, -⟩ := whl_tok (w := w) (by omega)
  obtain ⟨h3, c, r, h4, hd⟩ := tok_two h1 hk
  obtain ⟨-, h5, h6, h7, h8⟩ := num_kind h3
  have hf := tw_full (p := Lx.digitB) (l := w) (by omega)
  have hdg := Lx.tw_digits w
  rw [hf] at h6 h7 h8 hdg
  have hne : w ≠ [] := by rw [h4]; simp
  rw [Lx.parse_D w hne hdg] at h6
  by_cases hlt : Lx.dv 0 w < 9223372036854775808
  · rw [if_pos hlt] at h6
    injection h6 with h6
    rw [← h6]
    refine ⟨?_, by omega, by omega⟩
    unfold rnS
    rw [if_neg]
    rintro (h | h | h | ⟨d, hd1, hd2⟩ | h)
    · exact hne h
    · exact h8 h
    · exact h7 h
    · rw [hdg d hd1] at hd2; cases hd2
    · omega
  · rw [if_neg hlt] at h6; cases h6
theorem rn_not {w : List UInt8} (h : (numO w).2 = false) : rnS w = -1 := by
  unfold rnS
  by_cases hc : w = [] ∨ 19 < w.length ∨ (1 < w.length ∧ w.head? = some 48) ∨ (∃ c ∈ w, Lx.digitB c = false) ∨ 9223372036854775808 ≤ Lx.dv 0 w
  · rw [if_pos hc]
  · exfalso
    have h0 : w ≠ [] := fun e => hc (.inl e)
    have h19 : ¬ 19 < w.length := fun e => hc (.inr (.inl e))
    have h48 : ¬ (1 < w.length ∧ w.head? = some 48) := fun e => hc (.inr (.inr (.inl e)))
    have hd : ∀ c ∈ w, Lx.digitB c = true := fun c hcm => by
      cases hq : Lx.digitB c with
      | true => rfl
      | false => exact absurd (.inr (.inr (.inr (.inl ⟨c, hcm, hq⟩)))) hc
    have hlt : Lx.dv 0 w < 9223372036854775808 := by
      rcases Nat.lt_or_ge (Lx.dv 0 w) 9223372036854775808 with h | h
      · exact h
      · exact absurd (.inr (.inr (.inr (.inr h)))) hc
    have htw : w.takeWhile Lx.digitB = w := tw_all hd
    have hs := Lx.num_small w (by rw [htw]; exact h0) (by rw [htw]; exact hlt)
    rw [htw, if_neg h48, List.drop_length, if_neg (by simp)] at hs
    match w, h0 with
    | c :: r, _ =>
      have hdc := hd c (by simp)
      obtain ⟨hl, hb, h35⟩ := digit_sep hdc
      have ht : Lx.tokS (c :: r) = .inr ⟨2, (c :: r).length, [], ((Lx.dv 0 (c :: r) : Nat) : Int)⟩ := by
        simp only [Lx.tokS]
        rw [if_neg (by rw [hl]; simp), if_pos hdc]; exact hs
      have := whl_of hb h35 ht rfl
      unfold numO at h
      rw [this] at h
      simp at h
end Go.Proofs.YtichbejmelkjeaaDoor
namespace Go.Proofs.YtichbejmelkjeaaDoor
open Go.RowKit

/-! Lines with any blanks. -/
def Bls (B : List UInt8) : Prop := ∀ c ∈ B, bl c = true
/-- A word: bytes, none of them a blank. -/
def Wd (w : List UInt8) : Prop := w ≠ [] ∧ ∀ c ∈ w, bl c = false
/-- An expression: it has no blanks around it; or nothing. -/
def Ex (e : List UInt8) : Prop := trm e = e
theorem wd_head {w : List UInt8} (h : Wd w) : ∃ c r, w = c :: r ∧ bl c = false := by
  match w, h with
  | c :: r, h => exact ⟨c, r, rfl, h.2 c (by simp)⟩
  | [], h => exact absurd rfl h.1
theorem tw_wd {w : List UInt8} (h : Wd w) (x : List UInt8) (hx : x = [] ∨ ∃ c r, x = c :: r ∧ bl c = true) : (w ++ x).takeWhile nb = w := by
  have h1 : w.takeWhile nb = w := by
    have hw := h.2
    clear h
    induction w with
    | nil => rfl
    | cons c w ih => rw [List.takeWhile_cons, if_pos (by simp [nb, hw c (by simp)]), ih (fun d hd => hw d (by simp [hd]))]
  have h2 : x.takeWhile nb = [] := by
    rcases hx with rfl | ⟨c, r, rfl, hc⟩
    · rfl
    · rw [List.takeWhile_cons, if_neg (by simp [nb, hc])]
  rw [List.takeWhile_append, h1, if_pos rfl, h2, List.append_nil]
theorem wrd_wd {w : List UInt8} (h : Wd w) (x : List UInt8) (hx : x = [] ∨ ∃ c r, x = c :: r ∧ bl c = true) : wrd (w ++ x) = w ∧ wln (w ++ x) = w.length := by
  have := tw_wd h x hx
  exact ⟨by rw [wrd_eq, this], by unfold wln; rw [this]⟩
theorem trm_bls {B : List UInt8} (h : Bls B) (x : List UInt8) : trm (B ++ x) = trm x := by
  unfold trm; rw [ltr_app _ _ h]
theorem trm_end {B : List UInt8} (h : Bls B) (x : List UInt8) : trm (x ++ B) = trm x := by
  rw [← trm_rtr (x ++ B), rtr_app _ _ h, trm_rtr]
theorem nxt_wd {w B x : List UInt8} (h : Wd w) (hB : Bls B) (hx : B ++ x = [] ∨ ∃ c r, B ++ x = c :: r ∧ bl c = true) : nxt (w ++ (B ++ x)) = trm x := by
  unfold nxt
  rw [(wrd_wd h (B ++ x) hx).2, List.drop_left, trm_bls hB]
theorem bls_head {B : List UInt8} (hB : Bls B) (h0 : B ≠ []) (x : List UInt8) : ∃ c r, B ++ x = c :: r ∧ bl c = true := by
  match B, h0 with
  | c :: B, _ => exact ⟨c, B ++ x, rfl, hB c (by simp)⟩
/-- The rests of a line that begins with a word, behind which blanks stand and what comes next. -/
theorem chs_wd (f : Nat) {w B x : List UInt8} (h : Wd w) (hB : Bls B) (h0 : B ≠ []) : chs (f + 1) (w ++ (B ++ x)) = (w ++ (B ++ x)) :: chs f (trm x) ∧ wrd (w ++ (B ++ x)) = w := by
  have hne : w ++ (B ++ x) ≠ [] := by
    obtain ⟨c, r, e, -⟩ := wd_head h
    rw [e]; simp
  have hh := bls_head hB h0 x
  exact ⟨by rw [chs_cons _ hne, nxt_wd h hB (.inr hh)], (wrd_wd h _ (.inr hh)).1⟩
theorem chs_last (f : Nat) {w : List UInt8} (h : Wd w) : chs (f + 1) w = [w] ∧ wrd w = w := by
  have hne : w ≠ [] := h.1
  have h1 := wrd_wd h [] (.inl rfl)
  rw [List.append_nil] at h1
  refine ⟨?_, h1.1⟩
  rw [chs_cons _ hne]
  have : nxt w = [] := by unfold nxt; rw [h1.2, List.drop_length]; rfl
  rw [this, chs_nil]
theorem wd_trm {w : List UInt8} (h : Wd w) : trm w = w := by
  obtain ⟨c, r, e, hc⟩ := wd_head h
  unfold trm
  rw [e, ltr_of_head hc, ← e]
  rcases List.eq_nil_or_concat w with h0 | ⟨m, d, h1⟩
  · exact absurd h0 h.1
  · rw [List.concat_eq_append] at h1
    rw [h1, rtr_nblank _ _ (h.2 d (by rw [h1]; simp))]
/-- A word at the head, something trimmed and not nothing at the end. -/
theorem trm_mid {w x : List UInt8} (h : Wd w) (y : List UInt8) (hx : trm x = x) (h0 : x ≠ []) : trm (w ++ (y ++ x)) = w ++ (y ++ x) := by
  obtain ⟨c, r, e, hc⟩ := wd_head h
  have hr : rtr x = x := by
    have := rtr_rtr (ltr x)
    have e2 : rtr (ltr x) = x := hx
    rw [e2] at this; exact this
  unfold trm
  rw [e, List.cons_append, ltr_of_head hc, ← List.cons_append, ← e, ← List.append_assoc, rtr_app_ne _ (by rw [hr]; exact h0), hr]

/-! Numbers and names are their words. -/
theorem dec_small (d : Nat) (h : d < 10) : Lib.decDigits d = [UInt8.ofNat (48 + d)] := by rw [Lib.decDigits, dif_pos h]
theorem dec_big (n : Nat) (h : ¬ n < 10) : Lib.decDigits n = Lib.decDigits (n / 10) ++ [UInt8.ofNat (48 + n % 10)] := by
  conv => lhs; rw [Lib.decDigits]
  rw [dif_neg h]
theorem dv_pos (D : List UInt8) (hd : ∀ c ∈ D, Lx.digitB c = true) (h : D ≠ []) (hz : D.head? ≠ some 48) : 1 ≤ Lx.dv 0 D := by
  match D, h with
  | c :: r, _ =>
    have hc := hd c (by simp)
    simp [Lx.digitB] at hc
    have : c ≠ 48 := fun e => hz (by rw [e]; rfl)
    have h49 : 49 ≤ c.toNat := by
      rcases Nat.lt_or_ge c.toNat 49 with q | q
      · exact absurd (UInt8.toNat_inj.1 (by show c.toNat = 48; omega)) this
      · exact q
    rw [Lx.dv_cons]
    have := Lx.dv_le r (0 * 10 + (c.toNat - 48))
    omega
theorem dec_dv : ∀ (n : Nat) (D : List UInt8), D.length = n → (∀ c ∈ D, Lx.digitB c = true) → D ≠ [] → ¬ (1 < D.length ∧ D.head? = some 48) → Lib.decDigits (Lx.dv 0 D) = D := by
  intro n
  induction n with
  | zero => intro D hl _ h0; exact absurd (List.eq_nil_of_length_eq_zero hl) h0
  | succ n ih =>
    intro D hl hd h0 hz
    rcases List.eq_nil_or_concat D with h | ⟨E, c, h⟩
    · exact absurd h h0
    · rw [List.concat_eq_append] at h
      subst h
      have hc := hd c (by simp)
      simp [Lx.digitB] at hc
      have hcc : UInt8.ofNat (48 + (c.toNat - 48)) = c := by
        rw [show 48 + (c.toNat - 48) = c.toNat from by omega, UInt8.ofNat_toNat]
      rw [Lx.dv_snoc]
      by_cases hE : E = []
      · subst hE
        rw [Lx.dv_nil, List.nil_append, dec_small _ (by omega)]
        simp only [Nat.zero_mul, Nat.zero_add]
        rw [hcc]
      · have hdE : ∀ c ∈ E, Lx.digitB c = true := fun d hdm => hd d (by simp [hdm])
        have hhd : (E ++ [c]).head? = E.head? := by
          match E, hE with
          | a :: b, _ => rfl
        have hlE : 1 < (E ++ [c]).length := by
          have : E.length ≠ 0 := fun e => hE (List.eq_nil_of_length_eq_zero e)
          rw [List.length_append]; simp; omega
        have hzE : E.head? ≠ some 48 := fun e => hz ⟨hlE, by rw [hhd, e]⟩
        have hp := dv_pos E hdE hE hzE
        have hI := ih E (by rw [List.length_append] at hl; simpa using hl) hdE hE (fun q => hzE q.2)
        rw [dec_big _ (by omega), show (Lx.dv 0 E * 10 + (c.toNat - 48)) / 10 = Lx.dv 0 E from by omega, hI, show (Lx.dv 0 E * 10 + (c.toNat - 48)) % 10 = c.toNat - 48 from by omega, hcc]
end Go.Proofs.YtichbejmelkjeaaDoor
namespace Go.Proofs.YtichbejmelkjeaaDoor
open Go.RowKit

theorem num_all {w : List UInt8} (h : (numO w).2 = true) : (∀ c ∈ w, Lx.digitB c = true) ∧ w ≠ [] ∧ ¬ (1 < w.length ∧ w.head? = some 48) ∧ (numO w).1 = (Lx.dv 0 w : Int) ∧ (Lx.dv 0 w : Int) ≤ 9223372036854775807 := by
  obtain ⟨h1, h2, h3⟩ := rn_yes h
  unfold rnS at h1
  by_cases hc : w = [] ∨ 19 < w.length ∨ (1 < w.length ∧ w.head? = some 48) ∨ (∃ c ∈ w, Lx.digitB c = false) ∨ 9223372036854775808 ≤ Lx.dv 0 w
  · rw [if_pos hc] at h1; omega
  · rw [if_neg hc] at h1
    refine ⟨fun c hm => ?_, fun e => hc (.inl e), fun e => hc (.inr (.inr (.inl e))), h1.symm, by omega⟩
    cases hq : Lx.digitB c with
    | true => rfl
    | false => exact absurd (.inr (.inr (.inr (.inl ⟨c, hm, hq⟩)))) hc
theorem num_word {w : List UInt8} (h : (numO w).2 = true) : Lib.itoa (numO w).1 = w := by
  obtain ⟨h1, h2, h3, h4, -⟩ := num_all h
  rw [h4]
  rcases itoa_form (Lx.dv 0 w : Int) with ⟨-, e⟩ | ⟨q, -⟩
  · rw [e, Int.toNat_natCast]; exact dec_dv _ w rfl h1 h2 h3
  · omega
theorem pos_word {w : List UInt8} (h : (posO w).2 = true) : Lib.itoa (posO w).1 = w := by
  unfold posO at h ⊢
  split at h
  · rename_i r
    simp only at h ⊢
    rw [Bool.and_eq_true, decide_eq_true_eq] at h
    obtain ⟨h1, h2, h3, h4, h5⟩ := num_all h.1
    have hw : IntKind.i64.wrap (-(numO r).1) = -(numO r).1 := by rw [IntKind.wrap_i64, h4]; omega
    rw [hw]
    rcases itoa_form (-(numO r).1) with ⟨q, -⟩ | ⟨-, e⟩
    · omega
    · rw [e]
      have : (-(numO r).1).natAbs = Lx.dv 0 r := by rw [h4]; omega
      rw [this, dec_dv _ r rfl h1 h2 h3]
  · rename_i hn
    exact num_word h

/-- A command's shape: the number of its word, the word behind it, its expression. -/
inductive Shp : Cm → Nat → List UInt8 → List UInt8 → Prop
  | one (k : Nat) (hk : tks k = 1) : Shp { cm0 with kind := k } k [] []
  | pnt (k : Nat) (w e : List UInt8) (c : Cm) (hk : tks k = 2 ∨ tks k = 3) (hw : Wd w) (he : Ex e) (hc : pntO (tks k) w e = some c) : Shp { c with kind := k } k w e
  | num (k : Nat) (w : List UInt8) (hk : tks k = 4) (hw : Wd w) (hc : (numO w).2 = true) : Shp { cm0 with kind := k, n := (numO w).1 } k w []
  | pos (k : Nat) (w : List UInt8) (hk : tks k = 5) (hw : Wd w) (hc : (posO w).2 = true) : Shp { cm0 with kind := k, n := (posO w).1 } k w []
  | prt (k : Nat) (e : List UInt8) (hk : tks k = 6) (he : Ex e) (h0 : e ≠ []) : Shp { cm0 with kind := k, text := e } k [] e
def wk (k : Nat) : List UInt8 := (rws.getD k ([], 0)).1
/-- The words of a command's line by its shape. -/
def wrK (k : Nat) (w e : List UInt8) : List (List UInt8) := wk k :: (if tks k = 2 ∨ tks k = 3 then w :: (if e = [] then [] else [ifw, e]) else if tks k = 4 ∨ tks k = 5 then [w] else if tks k = 6 then [e] else [])
theorem pnt_word {t : Nat} {w e : List UInt8} {c : Cm} (h : pntO t w e = some c) : (if c.pk = 1 then Lib.itoa c.line else c.name) = w ∧ c.cond = e ∧ c.n = 0 ∧ c.text = [] ∧ c.off = false := by
  unfold pntO at h
  split at h
  · rename_i h1
    cases h
    exact ⟨by simp [(whl_name h1.1).1], rfl, rfl, rfl, rfl⟩
  · split at h
    · rename_i h1
      cases h
      exact ⟨by simp [(whl_name h1).1], rfl, rfl, rfl, rfl⟩
    · split at h
      · rename_i h1
        cases h
        refine ⟨?_, rfl, rfl, rfl, rfl⟩
        have := num_word (w := w) (by unfold numO; simp [h1.1])
        have e1 : (numO w).1 = (whl w).int := rfl
        rw [e1] at this
        simpa using this
      · cases h
theorem shp_words {c : Cm} {k : Nat} {w e : List UInt8} (h : Shp c k w e) (hk : k < 23) : wrS c = wrK k w e := by
  have hb : ∀ c : Cm, c.kind = (k : Int) → wrS c = wk k :: (if tks k = 2 ∨ tks k = 3 then pwS c else if tks k = 4 ∨ tks k = 5 then [Lib.itoa c.n] else if tks k = 6 then [c.text] else []) := fun c hc => by
    unfold wrS wk
    rw [hc, if_neg (by omega), Int.toNat_natCast]
  unfold wrK
  cases h with
  | one _ hk1 => rw [hb _ rfl, hk1]; rfl
  | pnt _ _ _ c hk1 hw he hc =>
    rw [hb _ rfl, if_pos hk1, if_pos hk1]
    obtain ⟨h1, h2, -⟩ := pnt_word hc
    unfold pwS
    simp only
    rw [h1, h2]
  | num _ _ hk1 hw hc => rw [hb _ rfl, hk1]; simp only; rw [num_word hc]; rfl
  | pos _ _ hk1 hw hc => rw [hb _ rfl, hk1]; simp only; rw [pos_word hc]; rfl
  | prt _ _ hk1 he h0 => rw [hb _ rfl, hk1]; rfl
theorem wk_all : ∀ k, 1 ≤ k → k < 23 → Wd (wk k) ∧ knd (wk k) = k ∧ 10 ∉ wk k ∧ 32 ∉ wk k := by
  intro k h1 hk
  have h : k = 1 ∨ k = 2 ∨ k = 3 ∨ k = 4 ∨ k = 5 ∨ k = 6 ∨ k = 7 ∨ k = 8 ∨ k = 9 ∨ k = 10 ∨ k = 11 ∨ k = 12 ∨ k = 13 ∨ k = 14 ∨ k = 15 ∨ k = 16 ∨ k = 17 ∨ k = 18 ∨ k = 19 ∨ k = 20 ∨ k = 21 ∨ k = 22 := by omega
  rcases h with rfl | rfl | rfl | rfl | rfl | rfl | rfl | rfl | rfl | rfl | rfl | rfl | rfl | rfl | rfl | rfl | rfl | rfl | rfl | rfl | rfl | rfl
  all_goals exact ⟨⟨by decide, by decide⟩, by decide +kernel, by decide, by decide⟩
theorem ifw_wd : Wd ifw := ⟨by decide, by decide⟩
theorem cmd_shp {c : Cm} {k : Nat} {w e : List UInt8} (h : Shp c k w e) (hk : k < 23) : 1 ≤ k := by
  rcases Nat.eq_zero_or_pos k with rfl | h0
  · exfalso
    cases h with
    | one _ h => exact absurd h (by decide)
    | pnt _ _ _ c h => rcases h with h | h <;> exact absurd h (by decide)
    | num _ _ h => exact absurd h (by decide)
    | pos _ _ h => exact absurd h (by decide)
    | prt _ _ h => exact absurd h (by decide)
  · exact h0

/-- A line that is laid out with any blanks, by its shape. -/
def lay (k : Nat) (w e P B1 B2 B3 S : List UInt8) : List UInt8 := P ++ (wk k ++ (if tks k = 2 ∨ tks k = 3 then B1 ++ (w ++ (if e = [] then [] else B2 ++ (ifw ++ (B3 ++ e)))) else if tks k = 4 ∨ tks k = 5 then B1 ++ w else if tks k = 6 then B1 ++ e else []) ++ S)
theorem ex_head {e : List UInt8} (he : Ex e) (h0 : e ≠ []) : ∃ c r, e = c :: r ∧ bl c = false := by
  rcases trm_head e with h | ⟨c, r, h, hc⟩
  · rw [he] at h; exact absurd h h0
  · rw [he] at h; exact ⟨c, r, h, hc⟩
theorem chs_ex (f : Nat) {e : List UInt8} (h0 : e ≠ []) : ∃ t, chs (f + 1) e = e :: t := ⟨_, chs_cons _ h0⟩
theorem lay_par {c : Cm} {k : Nat} {w e P B1 B2 B3 S : List UInt8} (h : Shp c k w e) (hk : k < 23) (hP : Bls P) (hS : Bls S) (h1 : Bls B1) (h10 : B1 ≠ []) (h2 : Bls B2) (h20 : B2 ≠ []) (h3 : Bls B3) (h30 : B3 ≠ []) (hl : (lay k w e P B1 B2 B3 S).length ≤ 300) (hn : 10 ∉ lay k w e P B1 B2 B3 S) : parP (lay k w e P B1 B2 B3 S) = some c := by
  have hk1 := cmd_shp h hk
  obtain ⟨hwk, hknd, -, -⟩ := wk_all k hk1 hk
  rw [par_rsts, if_neg (by rintro (q | q); omega; exact hn q)]
  generalize (lay k w e P B1 B2 B3 S).length = n
  have htr : ∀ X, trm (P ++ (wk k ++ X ++ S)) = trm (wk k ++ X) := fun X => by rw [trm_bls hP, trm_end hS]
  unfold lay
  rw [htr]
  cases h with
  | one _ ht =>
    rw [ht]
    simp only [Nat.reduceEqDiff, or_self, if_false, List.append_nil]
    obtain ⟨e1, e2⟩ := chs_last (n + 5) hwk
    rw [wd_trm hwk, e1]
    unfold cmdS
    simp only [e2, hknd, ht]
    rfl
  | pnt _ _ _ c ht hw he hc =>
    rw [if_pos ht]
    by_cases h0 : e = []
    · subst h0
      rw [if_pos rfl, List.append_nil, trm_mid hwk B1 (wd_trm hw) hw.1]
      obtain ⟨e1, e2⟩ := chs_wd (n + 5) (x := w) hwk h1 h10
      obtain ⟨e3, e4⟩ := chs_last (n + 4) hw
      rw [e1, wd_trm hw, show n + 5 = (n + 4) + 1 from rfl, e3]
      unfold cmdS
      simp only [e2, hknd, e4]
      rw [if_neg (by omega), if_pos ht, hc]
      rfl
    · rw [if_neg h0]
      have hx : trm (w ++ (B2 ++ (ifw ++ (B3 ++ e)))) = w ++ (B2 ++ (ifw ++ (B3 ++ e))) := by
        have := trm_mid hw (B2 ++ (ifw ++ B3)) he h0
        simpa [List.append_assoc] using this
      have hy : trm (ifw ++ (B3 ++ e)) = ifw ++ (B3 ++ e) := trm_mid ifw_wd B3 he h0
      have hne : w ++ (B2 ++ (ifw ++ (B3 ++ e))) ≠ [] := by
        obtain ⟨c, r, q, -⟩ := wd_head hw
        rw [q]; simp
      rw [trm_mid hwk B1 hx hne]
      obtain ⟨e1, e2⟩ := chs_wd (n + 5) (x := w ++ (B2 ++ (ifw ++ (B3 ++ e)))) hwk h1 h10
      obtain ⟨e3, e4⟩ := chs_wd (n + 4) (x := ifw ++ (B3 ++ e)) hw h2 h20
      obtain ⟨e5, e6⟩ := chs_wd (n + 3) (x := e) ifw_wd h3 h30
      obtain ⟨t, e7⟩ := chs_ex (n + 2) h0
      rw [e1, hx, show n + 5 = (n + 4) + 1 from rfl, e3, hy, show n + 4 = (n + 3) + 1 from rfl, e5, he, show n + 3 = (n + 2) + 1 from rfl, e7]
      unfold cmdS
      simp only [e2, hknd, e4, e6]
      rw [if_neg (by omega), if_pos ht, if_pos trivial, hc]
      rfl
  | num _ _ ht hw hc =>
    rw [ht]
    simp only [Nat.reduceEqDiff, or_self, or_false, if_false, if_true]
    rw [trm_mid hwk B1 (wd_trm hw) hw.1]
    obtain ⟨e1, e2⟩ := chs_wd (n + 5) (x := w) hwk h1 h10
    obtain ⟨e3, e4⟩ := chs_last (n + 4) hw
    rw [e1, wd_trm hw, show n + 5 = (n + 4) + 1 from rfl, e3]
    unfold cmdS
    simp only [e2, hknd, e4, ht]
    simp [hc]
  | pos _ _ ht hw hc =>
    rw [ht]
    simp only [Nat.reduceEqDiff, or_self, or_true, if_false, if_true]
    rw [trm_mid hwk B1 (wd_trm hw) hw.1]
    obtain ⟨e1, e2⟩ := chs_wd (n + 5) (x := w) hwk h1 h10
    obtain ⟨e3, e4⟩ := chs_last (n + 4) hw
    rw [e1, wd_trm hw, show n + 5 = (n + 4) + 1 from rfl, e3]
    unfold cmdS
    simp only [e2, hknd, e4, ht]
    simp [hc]
  | prt _ _ ht he h0 =>
    rw [ht]
    simp only [Nat.reduceEqDiff, or_self, if_false, if_true]
    rw [trm_mid hwk B1 he h0]
    obtain ⟨e1, e2⟩ := chs_wd (n + 5) (x := e) hwk h1 h10
    obtain ⟨t, e7⟩ := chs_ex (n + 4) h0
    rw [e1, he, show n + 5 = (n + 4) + 1 from rfl, e7]
    unfold cmdS
    simp only [e2, hknd, ht]
    rfl
end Go.Proofs.YtichbejmelkjeaaDoor
namespace Go.Proofs.YtichbejmelkjeaaDoor
open Go.RowKit

theorem knd_wk {w : List UInt8} (h : knd w ≠ 0) : wk (knd w) = w := by
  unfold knd at h ⊢
  cases hq : rws.findIdx? (fun r => r.1 == w) with
  | none => rw [hq] at h; exact absurd rfl h
  | some i =>
    simp only [Option.getD_some]
    obtain ⟨hi, hp, -⟩ := List.findIdx?_eq_some_iff_getElem.1 hq
    unfold wk
    rw [List.getD_eq_getElem?_getD, List.getElem?_eq_getElem hi]
    simpa using hp
theorem chs_parts {f : Nat} {r r0 : List UInt8} {t : List (List UInt8)} (h : chs f r = r0 :: t) : ∃ g, f = g + 1 ∧ r ≠ [] ∧ r0 = r ∧ t = chs g (nxt r) := by
  cases f with
  | zero => cases h
  | succ g =>
    unfold chs at h
    split at h
    · cases h
    · rename_i hr
      injection h with h1 h2
      exact ⟨g, rfl, hr, h1.symm, h2.symm⟩
theorem wd_wrd {r : List UInt8} (h : ∃ c q, r = c :: q ∧ bl c = false) : Wd (wrd r) := by
  obtain ⟨c, q, rfl, hc⟩ := h
  refine ⟨fun e => ?_, fun d hd => ?_⟩
  · have h1 := wln_pos c q hc
    have h2 := wrd_len (c :: q)
    rw [e] at h2; simp at h2; omega
  · rw [wrd_eq] at hd
    have := mem_tw hd
    simpa [nb] using this
theorem mem_wrd {r : List UInt8} {c : UInt8} (h : c ∈ wrd r) : c ∈ r := List.mem_of_mem_take h
theorem mem_trm {r : List UInt8} {c : UInt8} (h : c ∈ trm r) : c ∈ r := by
  unfold trm rtr ltr at h
  rw [List.mem_reverse] at h
  have h1 := (List.dropWhile_sublist _).subset h
  rw [List.mem_reverse] at h1
  exact (List.dropWhile_sublist _).subset h1
theorem mem_nxt {r : List UInt8} {c : UInt8} (h : c ∈ nxt r) : c ∈ r := List.mem_of_mem_drop (mem_trm h)
theorem len_nxt {r : List UInt8} (h0 : nxt r ≠ []) : (wrd r).length + 1 + (nxt r).length ≤ r.length := by
  rw [wrd_len]
  have hle := wln_le r
  have hd : r.drop (wln r) = [] ∨ ∃ c q, r.drop (wln r) = c :: q ∧ bl c = true := by
    clear h0 hle
    unfold wln
    induction r with
    | nil => left; rfl
    | cons c r ih =>
      rw [List.takeWhile_cons]
      by_cases hc : nb c = true
      · rw [if_pos hc, List.length_cons, List.drop_succ_cons]; exact ih
      · rw [if_neg hc]
        right
        exact ⟨c, r, rfl, by simpa [nb] using hc⟩
  rcases hd with h | ⟨c, q, h, hc⟩
  · exact absurd (by unfold nxt; rw [h]; rfl) h0
  · have e : nxt r = trm q := by
      unfold nxt
      rw [h]
      exact trm_bls (B := [c]) (fun d hd => by rw [List.mem_singleton.1 hd]; exact hc) q
    have h1 := trm_len q
    have h2 := congrArg List.length h
    rw [List.length_drop, List.length_cons] at h2
    rw [e]; omega
/-- The line of a command, laid out. -/
theorem lay_join (k : Nat) (w e : List UInt8) : Lib.join (wrK k w e) [32] = lay k w e [] [32] [32] [32] [] := by
  unfold wrK lay
  by_cases h1 : tks k = 2 ∨ tks k = 3
  · rw [if_pos h1, if_pos h1]
    by_cases h2 : e = []
    · rw [if_pos h2, if_pos h2, Lib.join_cons]; simp [Lib.joinTail]
    · rw [if_neg h2, if_neg h2, Lib.join_cons]; simp [Lib.joinTail]
  · rw [if_neg h1, if_neg h1]
    by_cases h2 : tks k = 4 ∨ tks k = 5
    · rw [if_pos h2, if_pos h2, Lib.join_cons]; simp [Lib.joinTail]
    · rw [if_neg h2, if_neg h2]
      by_cases h3 : tks k = 6
      · rw [if_pos h3, if_pos h3, Lib.join_cons]; simp [Lib.joinTail]
      · rw [if_neg h3, if_neg h3, Lib.join_one]; simp
theorem ln_lay {c : Cm} {k : Nat} {w e : List UInt8} (h : Shp c k w e) (hk : k < 23) : lnS c = lay k w e [] [32] [32] [32] [] := by
  unfold lnS
  rw [shp_words h hk, lay_join]

/-- What is read has a shape; its line is no longer and has no line feed. -/
theorem par_shp {l : List UInt8} {c : Cm} (h : parP l = some c) : l.length ≤ 300 ∧ 10 ∉ l ∧ ∃ k w e, k < 23 ∧ Shp c k w e ∧ (lnS c).length ≤ l.length ∧ 10 ∉ lnS c := by
  rw [par_rsts] at h
  split at h
  · cases h
  · rename_i hok
    have hl3 : l.length ≤ 300 := by
      rcases Nat.lt_or_ge 300 l.length with q | q
      · exact absurd (.inl q) hok
      · exact q
    have hl10 : 10 ∉ l := fun q => hok (.inr q)
    refine ⟨hl3, hl10, ?_⟩
    have htl := trm_len l
    have htm : ∀ c, c ∈ trm l → c ∈ l := fun c => mem_trm
    cases hR : chs (l.length + 6) (trm l) with
    | nil => rw [hR] at h; cases h
    | cons r0 t =>
      rw [hR] at h
      obtain ⟨g0, hg0, hr0, rfl, rfl⟩ := chs_parts hR
      have hh0 := (trm_head l).resolve_left hr0
      have hw0 := wd_wrd hh0
      obtain ⟨r0, hr0e⟩ : ∃ r, trm l = r := ⟨_, rfl⟩
      rw [hr0e] at h hh0 hw0 htl htm hr0
      clear hR hr0e
      have hkl := knd_lt (wrd r0)
      have hk0 : tks (knd (wrd r0)) ≠ 0 → wk (knd (wrd r0)) = wrd r0 := fun hq => knd_wk (fun e => hq (by rw [e]; rfl))
      unfold cmdS at h
      simp only at h
      generalize hkn : knd (wrd r0) = k at h hkl hk0
      by_cases t1 : tks k = 1
      · rw [if_pos t1] at h
        split at h
        · cases h
          have hs := Shp.one k t1
          have hlay := ln_lay hs hkl
          refine ⟨k, [], [], hkl, hs, ?_, ?_⟩
          · rw [hlay]; unfold lay; rw [t1]; simp; rw [hk0 (by omega), wrd_len]; have := wln_le r0; omega
          · rw [hlay]; unfold lay; rw [t1]; simp; rw [hk0 (by omega)]; exact fun q => hl10 (htm _ (mem_wrd q))
        · cases h
      rw [if_neg t1] at h
      by_cases t23 : tks k = 2 ∨ tks k = 3
      · rw [if_pos t23] at h
        cases hq : chs g0 (nxt r0) with
        | nil => rw [hq] at h; cases h
        | cons r1 t2 =>
          rw [hq] at h
          obtain ⟨g1, -, hr1, rfl, rfl⟩ := chs_parts hq
          have hh1 : ∃ c q, nxt r0 = c :: q ∧ bl c = false := (trm_head _ : nxt r0 = [] ∨ _).resolve_left hr1
          have hw1 : Wd (wrd (nxt r0)) := wd_wrd hh1
          have hn0 := len_nxt hr1
          have hm1 : ∀ c, c ∈ nxt r0 → c ∈ l := fun c q => htm c (mem_nxt q)
          obtain ⟨r1, hr1e⟩ : ∃ r, nxt r0 = r := ⟨_, rfl⟩
          rw [hr1e] at h hh1 hw1 hn0 hm1
          clear hq
          cases hq2 : chs g1 (nxt r1) with
          | nil =>
            rw [hq2] at h
            simp only at h
            cases hp : pntO (tks k) (wrd r1) [] with
            | none => rw [hp] at h; cases h
            | some c' =>
              rw [hp] at h
              cases h
              have hs := Shp.pnt k (wrd r1) [] c' t23 hw1 rfl hp
              have hlay := ln_lay hs hkl
              refine ⟨k, _, _, hkl, hs, ?_, ?_⟩
              · rw [hlay]; unfold lay; rw [if_pos t23, if_pos rfl]; simp; rw [hk0 (by omega)]; have := wrd_le r1; omega
              · rw [hlay]; unfold lay; rw [if_pos t23, if_pos rfl]; simp; rw [hk0 (by omega)]; exact ⟨fun q => hl10 (htm _ (mem_wrd q)), fun q => hl10 (hm1 _ (mem_wrd q))⟩
          | cons r2 t3 =>
            rw [hq2] at h
            obtain ⟨g2, -, hr2, rfl, rfl⟩ := chs_parts hq2
            have hn1 := len_nxt hr2
            cases hq3 : chs g2 (nxt (nxt r1)) with
            | nil => rw [hq3] at h; cases h
            | cons r3 t4 =>
              rw [hq3] at h
              obtain ⟨g3, -, hr3, rfl, rfl⟩ := chs_parts hq3
              have hn2 := len_nxt hr3
              simp only at h
              split at h
              · rename_i hif
                cases hp : pntO (tks k) (wrd r1) (nxt (nxt r1)) with
                | none => rw [hp] at h; cases h
                | some c' =>
                  rw [hp] at h
                  cases h
                  have hex : Ex (nxt (nxt r1)) := trm_trm _
                  have hs := Shp.pnt k (wrd r1) (nxt (nxt r1)) c' t23 hw1 hex hp
                  have hlay := ln_lay hs hkl
                  have hil : (wrd (nxt r1)).length = 2 := by rw [hif]; rfl
                  refine ⟨k, _, _, hkl, hs, ?_, ?_⟩
                  · rw [hlay]; unfold lay; rw [if_pos t23, if_neg hr3]; simp [ifw]; rw [hk0 (by omega)]; omega
                  · rw [hlay]; unfold lay; rw [if_pos t23, if_neg hr3]; simp [ifw]; rw [hk0 (by omega)]; exact ⟨fun q => hl10 (htm _ (mem_wrd q)), fun q => hl10 (hm1 _ (mem_wrd q)), fun q => hl10 (hm1 _ (mem_nxt (mem_nxt q)))⟩
              · cases h
      rw [if_neg t23] at h
      have hone : ∀ (O : List UInt8 → Int × Bool), (match chs g0 (nxt r0) with | [r1] => if (O (wrd r1)).2 then some ({ cm0 with kind := (k : Int), n := (O (wrd r1)).1 } : Cm) else none | _ => none) = some c → ∃ r1, nxt r0 = r1 ∧ r1 ≠ [] ∧ (O (wrd r1)).2 = true ∧ c = { cm0 with kind := (k : Int), n := (O (wrd r1)).1 } := by
        intro O h
        cases hq : chs g0 (nxt r0) with
        | nil => rw [hq] at h; cases h
        | cons r1 t2 =>
          rw [hq] at h
          obtain ⟨g1, -, hr1, rfl, rfl⟩ := chs_parts hq
          cases hq2 : chs g1 (nxt (nxt r0)) with
          | nil =>
            rw [hq2] at h
            simp only at h
            split at h
            · rename_i ho
              cases h
              exact ⟨_, rfl, hr1, ho, rfl⟩
            · cases h
          | cons r2 t3 => rw [hq2] at h; cases h
      by_cases t4 : tks k = 4
      · rw [if_pos t4] at h
        obtain ⟨r1, rfl, hr1, ho, rfl⟩ := hone numO h
        have hw1 : Wd (wrd (nxt r0)) := wd_wrd ((trm_head _ : nxt r0 = [] ∨ _).resolve_left hr1)
        have hn0 := len_nxt hr1
        have hs := Shp.num k (wrd (nxt r0)) t4 hw1 ho
        have hlay := ln_lay hs hkl
        refine ⟨k, _, _, hkl, hs, ?_, ?_⟩
        · rw [hlay]; unfold lay; rw [t4]; simp; rw [hk0 (by omega)]; have := wrd_le (nxt r0); omega
        · rw [hlay]; unfold lay; rw [t4]; simp; rw [hk0 (by omega)]; exact ⟨fun q => hl10 (htm _ (mem_wrd q)), fun q => hl10 (htm _ (mem_nxt (mem_wrd q)))⟩
      rw [if_neg t4] at h
      by_cases t5 : tks k = 5
      · rw [if_pos t5] at h
        obtain ⟨r1, rfl, hr1, ho, rfl⟩ := hone posO h
        have hw1 : Wd (wrd (nxt r0)) := wd_wrd ((trm_head _ : nxt r0 = [] ∨ _).resolve_left hr1)
        have hn0 := len_nxt hr1
        have hs := Shp.pos k (wrd (nxt r0)) t5 hw1 ho
        have hlay := ln_lay hs hkl
        refine ⟨k, _, _, hkl, hs, ?_, ?_⟩
        · rw [hlay]; unfold lay; rw [t5]; simp; rw [hk0 (by omega)]; have := wrd_le (nxt r0); omega
        · rw [hlay]; unfold lay; rw [t5]; simp; rw [hk0 (by omega)]; exact ⟨fun q => hl10 (htm _ (mem_wrd q)), fun q => hl10 (htm _ (mem_nxt (mem_wrd q)))⟩
      rw [if_neg t5] at h
      by_cases t6 : tks k = 6
      · rw [if_pos t6] at h
        cases hq : chs g0 (nxt r0) with
        | nil => rw [hq] at h; cases h
        | cons r1 t2 =>
          rw [hq] at h
          obtain ⟨g1, -, hr1, rfl, rfl⟩ := chs_parts hq
          cases h
          have hn0 := len_nxt hr1
          have hs := Shp.prt k (nxt r0) t6 (trm_trm _) hr1
          have hlay := ln_lay hs hkl
          refine ⟨k, _, _, hkl, hs, ?_, ?_⟩
          · rw [hlay]; unfold lay; rw [t6]; simp; rw [hk0 (by omega)]; omega
          · rw [hlay]; unfold lay; rw [t6]; simp; rw [hk0 (by omega)]; exact ⟨fun q => hl10 (htm _ (mem_wrd q)), fun q => hl10 (htm _ (mem_nxt q))⟩
      · rw [if_neg t6] at h; cases h
theorem bls32 : Bls [32] := fun c hc => by rw [List.mem_singleton.1 hc]; decide
/-- There and back. -/
theorem par_back {l : List UInt8} {c : Cm} (h : parP l = some c) : parP (lnS c) = some c ∧ (lnS c).length ≤ l.length := by
  obtain ⟨h1, h2, k, w, e, hk, hs, hl, hn⟩ := par_shp h
  refine ⟨?_, hl⟩
  rw [ln_lay hs hk] at hl hn ⊢
  exact lay_par hs hk (fun c hc => by cases hc) (fun c hc => by cases hc) bls32 (by simp) bls32 (by simp) bls32 (by simp) (by omega) hn
end Go.Proofs.YtichbejmelkjeaaDoor
namespace Go.Proofs.YtichbejmelkjeaaDoor
open Go.RowKit

/-- What a number makes of a blank. -/
def bk (b : Int) : UInt8 := if b % 2 = 0 then 32 else 9
def livB (b : Int) : Bool := b.tmod 5 != 0
def runB (B : List Int) : List UInt8 := (B.takeWhile livB).map bk
def rstB (B : List Int) : List Int := (B.dropWhile livB).drop 1
/-- A line with its first n blanks spread. -/
def spS : List UInt8 → List Int → Nat → List UInt8
  | [], _, _ => []
  | c :: r, B, n => if c = 32 ∧ 0 < n then c :: (runB B ++ spS r (rstB B) (n - 1)) else c :: spS r B n
theorem bls_run (B : List Int) : Bls (32 :: runB B) := by
  intro c hc
  rcases List.mem_cons.1 hc with rfl | hc
  · decide
  · obtain ⟨b, -, rfl⟩ := List.mem_map.1 hc
    unfold bk; split <;> decide
theorem spS_zero : ∀ (r : List UInt8) (B : List Int), spS r B 0 = r := by
  intro r
  induction r with
  | nil => intro B; rfl
  | cons c r ih => intro B; unfold spS; rw [if_neg (by omega), ih]
theorem spS_no {w : List UInt8} (h : 32 ∉ w) (r : List UInt8) (B : List Int) (n : Nat) : spS (w ++ r) B n = w ++ spS r B n := by
  induction w with
  | nil => rfl
  | cons c w ih =>
    rw [List.cons_append, List.cons_append]
    show (if c = 32 ∧ 0 < n then _ else _) = _
    rw [if_neg (fun q => h (by rw [q.1]; exact List.mem_cons_self ..)), ih (fun q => h (List.mem_cons_of_mem _ q))]
theorem spS_end {w : List UInt8} (h : 32 ∉ w) (B : List Int) (n : Nat) : spS w B n = w := by
  have := spS_no h [] B n
  rw [List.append_nil] at this
  rw [this]; show w ++ [] = w; rw [List.append_nil]
theorem spS_sp (r : List UInt8) (B : List Int) (n : Nat) : spS ([32] ++ r) B (n + 1) = (32 :: runB B) ++ spS r (rstB B) n := by
  show (if (32 : UInt8) = 32 ∧ 0 < n + 1 then _ else _) = _
  rw [if_pos ⟨rfl, by omega⟩]; rfl
theorem wd_no {w : List UInt8} (h : Wd w) : 32 ∉ w := fun q => absurd (h.2 _ q) (by decide)
def fewS (c : Cm) : Nat := if c.kind = 16 then 1 else if c.cond ≠ [] then 3 else 2
theorem tks_six : ∀ k, k < 23 → tks k = 6 → k = 16 := by decide
theorem tks_pnt : ∀ k, k < 23 → (tks k = 2 ∨ tks k = 3 ∨ tks k = 4 ∨ tks k = 5) → k ≠ 16 := by decide
/-- A command's line, its blanks spread, is laid out anew. -/
theorem spS_lay {c : Cm} {k : Nat} {w e : List UInt8} (h : Shp c k w e) (hk : k < 23) (B : List Int) : ∃ B1 B2 B3, Bls B1 ∧ B1 ≠ [] ∧ Bls B2 ∧ B2 ≠ [] ∧ Bls B3 ∧ B3 ≠ [] ∧ [9, 32] ++ spS (lay k w e [] [32] [32] [32] []) B (fewS c) ++ [32] = lay k w e [9, 32] B1 B2 B3 [32] := by
  obtain ⟨-, -, -, hw32⟩ := wk_all k (cmd_shp h hk) hk
  refine ⟨32 :: runB B, 32 :: runB (rstB B), 32 :: runB (rstB (rstB B)), bls_run _, by simp, bls_run _, by simp, bls_run _, by simp, ?_⟩
  have hgo : ∀ X Y : List UInt8, spS X B (fewS c) = Y → [9, 32] ++ spS ([] ++ (wk k ++ X ++ [])) B (fewS c) ++ [32] = [9, 32] ++ (wk k ++ Y ++ [32]) := fun X Y q => by
    rw [List.nil_append, List.append_nil, spS_no hw32, q]; simp
  unfold lay
  cases h with
  | one _ ht => exact hgo _ _ (by rw [ht]; rfl)
  | pnt _ _ _ c' ht hw he hc =>
    obtain ⟨-, h2, -⟩ := pnt_word hc
    have hk6 : ¬ ((k : Int) = 16) := fun q => tks_pnt k hk (by rcases ht with h | h <;> simp [h]) (by omega)
    rw [if_pos ht, if_pos ht]
    by_cases h0 : e = []
    · rw [if_pos h0, if_pos h0]
      refine hgo _ _ ?_
      have hf : fewS { c' with kind := (k : Int) } = 2 := by unfold fewS; simp only; rw [if_neg hk6, h2, h0]; simp
      rw [hf, List.append_nil, spS_sp, spS_end (wd_no hw)]
    · rw [if_neg h0, if_neg h0]
      refine hgo _ _ ?_
      have hf : fewS { c' with kind := (k : Int) } = 3 := by unfold fewS; simp only; rw [if_neg hk6, h2, if_pos h0]
      rw [hf, spS_sp, spS_no (wd_no hw), spS_sp, spS_no (by decide), spS_sp, spS_zero]
  | num _ _ ht hw hc =>
    have hk6 : ¬ ((k : Int) = 16) := fun q => tks_pnt k hk (by simp [ht]) (by omega)
    have t1 : ¬ (tks k = 2 ∨ tks k = 3) := by omega
    have t2 : tks k = 4 ∨ tks k = 5 := by omega
    rw [if_neg t1, if_neg t1, if_pos t2, if_pos t2]
    refine hgo _ _ ?_
    have hf : fewS { cm0 with kind := (k : Int), n := (numO w).1 } = 2 := by unfold fewS; simp only; rw [if_neg hk6]; simp [cm0]
    rw [hf, spS_sp, spS_end (wd_no hw)]
  | pos _ _ ht hw hc =>
    have hk6 : ¬ ((k : Int) = 16) := fun q => tks_pnt k hk (by simp [ht]) (by omega)
    have t1 : ¬ (tks k = 2 ∨ tks k = 3) := by omega
    have t2 : tks k = 4 ∨ tks k = 5 := by omega
    rw [if_neg t1, if_neg t1, if_pos t2, if_pos t2]
    refine hgo _ _ ?_
    have hf : fewS { cm0 with kind := (k : Int), n := (posO w).1 } = 2 := by unfold fewS; simp only; rw [if_neg hk6]; simp [cm0]
    rw [hf, spS_sp, spS_end (wd_no hw)]
  | prt _ _ ht he h0 =>
    have hk6 : (k : Int) = 16 := by have := tks_six k hk ht; omega
    have t1 : ¬ (tks k = 2 ∨ tks k = 3) := by omega
    have t2 : ¬ (tks k = 4 ∨ tks k = 5) := by omega
    rw [if_neg t1, if_neg t1, if_neg t2, if_neg t2, if_pos ht, if_pos ht]
    refine hgo _ _ ?_
    have hf : fewS { cm0 with kind := (k : Int), text := e } = 1 := by unfold fewS; simp only; rw [if_pos hk6]
    rw [hf, spS_sp, spS_zero]
theorem bls_no {B : List UInt8} (h : Bls B) : 10 ∉ B := fun q => absurd (h _ q) (by decide)
theorem lay_no {k : Nat} {w e P B1 B2 B3 S : List UInt8} (h : 10 ∉ lay k w e [] [32] [32] [32] []) (hP : Bls P) (hS : Bls S) (h1 : Bls B1) (h2 : Bls B2) (h3 : Bls B3) : 10 ∉ lay k w e P B1 B2 B3 S := by
  have n1 := bls_no h1; have n2 := bls_no h2; have n3 := bls_no h3; have n4 := bls_no hP; have n5 := bls_no hS
  unfold lay at h ⊢
  split
  · rename_i t
    rw [if_pos t] at h
    split
    · rename_i q; rw [if_pos q] at h; simp at h ⊢; simp [*]
    · rename_i q; rw [if_neg q] at h; simp at h ⊢; simp [*]
  · rename_i t
    rw [if_neg t] at h
    split
    · rename_i q; rw [if_pos q] at h; simp at h ⊢; simp [*]
    · rename_i q
      rw [if_neg q] at h
      split
      · rename_i q; rw [if_pos q] at h; simp at h ⊢; simp [*]
      · rename_i q; rw [if_neg q] at h; simp at h ⊢; simp [*]
/-- Blanks make no difference. -/
theorem par_wide {l : List UInt8} {c : Cm} (h : parP l = some c) (B : List Int) (hl : ([9, 32] ++ spS (lnS c) B (fewS c) ++ [32]).length ≤ 300) : parP ([9, 32] ++ spS (lnS c) B (fewS c) ++ [32]) = some c := by
  obtain ⟨-, -, k, w, e, hk, hs, -, hn⟩ := par_shp h
  rw [ln_lay hs hk] at hl hn ⊢
  obtain ⟨B1, B2, B3, b1, n1, b2, n2, b3, n3, he⟩ := spS_lay hs hk B
  rw [he] at hl ⊢
  have hP : Bls [9, 32] := by intro c hc; simp at hc; rcases hc with rfl | rfl <;> decide
  exact lay_par hs hk hP bls32 b1 n1 b2 n2 b3 n3 hl (lay_no hn hP bls32 b1 b2 b3)
end Go.Proofs.YtichbejmelkjeaaDoor
