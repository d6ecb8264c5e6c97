import Derived.Test.YtlahcmhjnhangaaDoorFirstMath
namespace Go.Proofs.YtlahcmhjnhangaaDoor
open Go.RowKit

/-- How many bytes are gaps from here on; the flag: in a comment. -/
def gpS : Bool → List UInt8 → Nat
  | _, [] => 0
  | true, c :: r => if c = 10 then 1 + gpS false r else 1 + gpS true r
  | false, c :: r => if c = 35 then 1 + gpS true r else if blankB c = true then 1 + gpS false r else 0

theorem gp_le (b : Bool) (l : List UInt8) : gpS b l ≤ l.length := by
  induction l generalizing b with
  | nil => cases b <;> simp [gpS]
  | cons c r ih =>
    have h1 := ih true
    have h2 := ih false
    cases b
    · simp only [gpS, List.length_cons]
      split
      · omega
      · split <;> omega
    · simp only [gpS, List.length_cons]
      split <;> omega
theorem gp_true_app (ys zs : List UInt8) (h : ∀ c ∈ ys, c ≠ 10) : gpS true (ys ++ zs) = ys.length + gpS true zs := by
  induction ys with
  | nil => simp
  | cons c ys ih =>
    rw [List.cons_append]
    simp only [gpS]
    rw [if_neg (h c (by simp)), ih (fun d hd => h d (by simp [hd])), List.length_cons]
    omega
theorem gp_same (zs : List UInt8) (h : zs = [] ∨ ∃ r, zs = 10 :: r) : gpS true zs = gpS false zs := by
  rcases h with rfl | ⟨r, rfl⟩
  · rfl
  · simp only [gpS]
    rw [if_pos trivial, if_neg (by decide), if_pos (by decide)]
theorem cmt_rest (l : List UInt8) : l.drop (cmtS l) = [] ∨ ∃ r, l.drop (cmtS l) = 10 :: r := by
  unfold cmtS
  induction l with
  | nil => left; rfl
  | cons c l ih =>
    by_cases hc : c = 10
    · subst hc; right; exact ⟨l, rfl⟩
    · have h2 : (c != 10) = true := by simpa using hc
      rw [List.takeWhile_cons, if_pos h2, List.length_cons, List.drop_succ_cons]
      exact ih
theorem cmt_bytes (l : List UInt8) : ∀ c ∈ l.take (cmtS l), c ≠ 10 := by
  unfold cmtS
  induction l with
  | nil => simp
  | cons c l ih =>
    by_cases hc : c = 10
    · subst hc; simp
    · have h2 : (c != 10) = true := by simpa using hc
      rw [List.takeWhile_cons, if_pos h2, List.length_cons, List.take_succ_cons]
      intro d hd
      rcases List.mem_cons.1 hd with rfl | hd
      · exact hc
      · exact ih d hd

theorem gap_cmt (r : List UInt8) (m : Nat) (h : gpS false (((35 :: r).drop (cmtS (35 :: r))).take m) = m) (hm : m ≤ ((35 :: r).drop (cmtS (35 :: r))).length) : gpS false ((35 :: r).take (cmtS (35 :: r) + m)) = cmtS (35 :: r) + m := by
  have hp := cmt_pos r
  have hr := cmt_rest (35 :: r)
  have hb := cmt_bytes (35 :: r)
  have hle := cmt_le (35 :: r)
  generalize cmtS (35 :: r) = n at *
  obtain ⟨n, rfl⟩ : ∃ k, n = k + 1 := ⟨n - 1, by omega⟩
  rw [List.take_succ_cons] at hb
  rw [List.drop_succ_cons] at h hr hm
  rw [show n + 1 + m = (n + m) + 1 from by omega, List.take_succ_cons]
  simp only [gpS]
  rw [if_pos trivial, List.take_add, gp_true_app _ _ (fun c hc => hb c (by simp [hc])), List.length_take]
  rw [List.length_cons] at hle
  rw [gp_same _ (by
    rcases hr with e | ⟨q, e⟩
    · left; rw [e]; simp
    · cases m with
      | zero => left; simp
      | succ m => right; rw [e, List.take_succ_cons]; exact ⟨_, rfl⟩), h]
  omega

/-- What stands first: a gap, and then the end or a token. -/
theorem scan_head (f : Nat) : ∀ (k : Nat) (l : List UInt8) (toks : List (Nat × Tk)), l.length < f → scanS f k l = .inr toks →
    ∃ m, m ≤ l.length ∧ gpS false (l.take m) = m ∧ ((m = l.length ∧ toks = [(k + m, ⟨0, 0, [], 0⟩)]) ∨
      ∃ c r x rest f', l.drop m = c :: r ∧ blankB c = false ∧ c ≠ 35 ∧ tokS (c :: r) = .inr x ∧ toks = (k + m, x) :: rest ∧ (l.drop (m + x.len)).length < f' ∧ scanS f' (k + m + x.len) (l.drop (m + x.len)) = .inr rest) := by
  induction f with
  | zero => intro k l toks hl; omega
  | succ f ih =>
    intro k l toks hl h
    match l with
    | [] =>
      cases h
      exact ⟨0, Nat.le_refl _, rfl, Or.inl ⟨rfl, rfl⟩⟩
    | c :: r =>
      rw [List.length_cons] at hl
      by_cases hb : blankB c = true
      · rw [scan_blank f k c r hb] at h
        obtain ⟨m, hm, hg, hrest⟩ := ih _ _ _ (by omega) h
        refine ⟨m + 1, by rw [List.length_cons]; omega, ?_, ?_⟩
        · rw [List.take_succ_cons]
          simp only [gpS]
          have h35 : c ≠ 35 := fun e => by subst e; exact absurd hb (by decide)
          rw [if_neg h35, if_pos hb, hg]
          omega
        · rcases hrest with ⟨rfl, rfl⟩ | ⟨c2, r2, x, rest, f', h1, h2, h3, h4, h5, h6, h7⟩
          · left; exact ⟨by rw [List.length_cons], by rw [show k + (r.length + 1) = k + 1 + r.length from by omega]⟩
          · right
            refine ⟨c2, r2, x, rest, f', by rw [List.drop_succ_cons]; exact h1, h2, h3, h4, by rw [h5, show k + (m + 1) = k + 1 + m from by omega], ?_, ?_⟩
            · rw [show m + 1 + x.len = (m + x.len) + 1 from by omega, List.drop_succ_cons]; exact h6
            · rw [show m + 1 + x.len = (m + x.len) + 1 from by omega, List.drop_succ_cons, show k + (m + 1) + x.len = k + 1 + m + x.len from by omega]; exact h7
      · have hbf : blankB c = false := by simpa using hb
        by_cases h35 : c = 35
        · subst h35
          have hcp := cmt_pos r
          have hcl := cmt_le (35 :: r)
          rw [scan_cmt] at h
          obtain ⟨m, hm, hg, hrest⟩ := ih _ _ _ (by rw [List.length_drop, List.length_cons]; omega) h
          have hgc := gap_cmt r m hg hm
          rw [List.length_drop] at hm
          refine ⟨cmtS (35 :: r) + m, by omega, hgc, ?_⟩
          rcases hrest with ⟨hm2, rfl⟩ | ⟨c2, r2, x, rest, f', h1, h2, h3, h4, h5, h6, h7⟩
          · left
            rw [List.length_drop] at hm2
            exact ⟨by omega, by rw [Nat.add_assoc]⟩
          · right
            rw [List.drop_drop] at h1 h6 h7
            refine ⟨c2, r2, x, rest, f', h1, h2, h3, h4, by rw [h5, Nat.add_assoc], ?_, ?_⟩
            · rw [Nat.add_assoc]; exact h6
            · rw [Nat.add_assoc (cmtS (35 :: r)), ← Nat.add_assoc k]; exact h7
        · cases hk : tokS (c :: r) with
          | inl e => rw [scan_bad f k c r e hbf h35 hk] at h; cases h
          | inr x =>
            obtain ⟨hl1, hl2⟩ := tok_len hk
            have hcomb := scan_tok f k c r x [] hbf h35 hk
            rw [h] at hcomb
            cases hz : scanS f (k + x.len) ((c :: r).drop x.len) with
            | inl p => rw [hz] at hcomb; cases hcomb
            | inr l =>
              rw [hz] at hcomb
              have e : toks = (k, x) :: l := by simpa [comb] using hcomb
              refine ⟨0, Nat.zero_le _, rfl, Or.inr ⟨c, r, x, l, f, rfl, hbf, h35, hk, by rw [e, Nat.add_zero], ?_, ?_⟩⟩
              · rw [Nat.zero_add, List.length_drop, List.length_cons]; omega
              · rw [Nat.zero_add, Nat.add_zero]; exact hz

/-- The tokens from an offset on cover the text from there on. -/
def Cov (L : List UInt8) : Nat → List (Nat × Tk) → Prop
  | _, [] => False
  | a, [(k, x)] => a ≤ k ∧ k = L.length ∧ x = ⟨0, 0, [], 0⟩ ∧ gpS false ((L.take k).drop a) = k - a
  | a, (k, x) :: y :: rest => a ≤ k ∧ 1 ≤ x.len ∧ k + x.len ≤ L.length ∧ gpS false ((L.take k).drop a) = k - a ∧ (∃ c r, L.drop k = c :: r ∧ blankB c = false ∧ c ≠ 35 ∧ tokS (c :: r) = .inr x) ∧ Cov L (k + x.len) (y :: rest)

theorem cov_of_scan (L : List UInt8) : ∀ (n : Nat) (f a : Nat) (toks : List (Nat × Tk)), L.length - a < n → a ≤ L.length → (L.drop a).length < f → scanS f a (L.drop a) = .inr toks → Cov L a toks := by
  intro n
  induction n with
  | zero => intro f a toks h; omega
  | succ n ih =>
    intro f a toks hn ha hf h
    obtain ⟨m, hm, hg, hrest⟩ := scan_head f a _ _ hf h
    rw [List.length_drop] at hm
    have hgap : gpS false ((L.take (a + m)).drop a) = a + m - a := by rw [List.drop_take, Nat.add_sub_cancel_left]; exact hg
    rcases hrest with ⟨hm2, rfl⟩ | ⟨c, r, x, rest, f', h1, h2, h3, h4, rfl, h6, h7⟩
    · rw [List.length_drop] at hm2
      exact ⟨by omega, by omega, rfl, hgap⟩
    · rw [List.drop_drop] at h1 h6 h7
      have hl := tok_len h4
      have hll : (c :: r).length = L.length - (a + m) := by rw [← h1, List.length_drop]
      rw [hll] at hl
      have hne := scan_some _ _ _ _ h7
      have e : a + (m + x.len) = a + m + x.len := by omega
      rw [e] at h6 h7
      have hcov := ih f' (a + m + x.len) rest (by omega) (by omega) h6 h7
      match rest, hne, hcov with
      | y :: rest, _, hcov => exact ⟨by omega, hl.1, by omega, hgap, ⟨c, r, h1, h2, h3, h4⟩, hcov⟩

/-- A token's own piece is the token, and the end. -/
theorem piece_scan {l : List UInt8} {c : UInt8} {r : List UInt8} {x : Tk} (h1 : l = c :: r) (h2 : blankB c = false) (h3 : c ≠ 35) (h4 : tokS (c :: r) = .inr x) : scanS (x.len + 1) 0 (l.take x.len) = .inr [(0, x), (x.len, ⟨0, 0, [], 0⟩)] := by
  subst h1
  have hl := tok_len h4
  obtain ⟨p, hp⟩ : ∃ p, x.len = p + 1 := ⟨x.len - 1, by omega⟩
  have e2 : (c :: r).take x.len = c :: r.take p := by rw [hp, List.take_succ_cons]
  have hk2 := tok_take (m := x.len) h4 (Nat.le_refl _)
  rw [e2] at hk2
  have hc2 := scan_tok x.len 0 c (r.take p) x [] h2 h3 hk2
  rw [← e2, List.drop_take, Nat.sub_self, List.take_zero, Nat.zero_add, hp, scan_end, ← hp] at hc2
  rw [e2] at hc2 ⊢
  cases hz : scanS (x.len + 1) 0 (c :: r.take p) with
  | inl q => rw [hz] at hc2; cases hc2
  | inr l => rw [hz] at hc2; simpa [comb] using hc2
end Go.Proofs.YtlahcmhjnhangaaDoor
namespace Go.Proofs.YtlahcmhjnhangaaDoor
theorem scan_len (f : Nat) : ∀ (k : Nat) (l : List UInt8) (toks : List (Nat × Tk)), scanS f k l = .inr toks → toks.length ≤ l.length + 1 := by
  induction f with
  | zero => intro k l toks h; cases h
  | succ f ih =>
    intro k l toks h
    match l with
    | [] => cases h; simp
    | c :: r =>
      by_cases hb : blankB c = true
      · rw [scan_blank f k c r hb] at h
        have := ih _ _ _ h
        rw [List.length_cons]; omega
      · have hbf : blankB c = false := by simpa using hb
        by_cases h35 : c = 35
        · subst h35
          rw [scan_cmt] at h
          have := ih _ _ _ h
          rw [List.length_drop] at this
          omega
        · cases hk : tokS (c :: r) with
          | inl e => rw [scan_bad f k c r e hbf h35 hk] at h; cases h
          | inr x =>
            obtain ⟨hl1, hl2⟩ := tok_len hk
            have hcomb := scan_tok f k c r x [] hbf h35 hk
            rw [h] at hcomb
            cases hz : scanS f (k + x.len) ((c :: r).drop x.len) with
            | inl p => rw [hz] at hcomb; cases hcomb
            | inr l =>
              rw [hz] at hcomb
              have e : toks = (k, x) :: l := by simpa [comb] using hcomb
              have := ih _ _ _ hz
              rw [List.length_drop] at this
              rw [e, List.length_cons]
              omega
theorem scan_count (t : ByteArray) (ht : t.size ≤ 4194304) (toks : List (Nat × Tk)) (h : scanS (t.size + 1) 0 t.data.toList = .inr toks) : toks.length ≤ 4194305 := by
  have := scan_len _ _ _ _ h
  rw [← Lib.size_eq] at this
  omega
end Go.Proofs.YtlahcmhjnhangaaDoor
