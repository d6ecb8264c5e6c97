import Derived.Test.YtlahcmhjnhangaaDoorText
import Derived.Test.YtlahcmhjnhangaaDoorQMath
import Derived.Test.YtlahcmhjnhangaaDoorCovMath
namespace Go.Proofs.YtlahcmhjnhangaaDoor
open Go.RowKit

theorem kws_small : ∀ s ∈ kws, s.size ≤ 24 := by decide
theorem sgs_small : ∀ s ∈ sgs, s.size ≤ 24 := by decide

theorem kw_small {s : ByteArray} (h : kw s = true) : s.size ≤ 24 := by
  unfold kw at h
  rw [List.any_eq_true] at h
  obtain ⟨y, hy, he⟩ := h
  have := kws_small y hy
  have e : y.data.toList.length = s.data.toList.length := by first | rw [eq_of_beq he] | rw [← eq_of_beq he]
  rw [Lib.size_eq] at this ⊢
  omega

/-- What a token can be: its kind, that a word or a sign is short, that its text is no longer than its piece. -/
def TkOk (x : Tk) : Prop := 1 ≤ x.kind ∧ x.kind ≤ 5 ∧ (x.kind ≠ 2 → x.kind ≠ 3 → x.len ≤ 24) ∧ x.text.length ≤ x.len

theorem word_ok {l : List UInt8} {x : Tk} (h : wordS l = .inr x) : TkOk x := by
  unfold wordS at h
  simp only at h
  split at h
  · rename_i hk
    have hs := kw_small hk
    rw [Lib.size_eq] at hs
    simp only at hs
    injection h with h; subst h
    exact ⟨by simp, by simp, fun _ _ => hs, Nat.le_refl _⟩
  · split at h
    · cases h
    · rename_i h24
      injection h with h; subst h
      exact ⟨by simp, by simp, fun _ _ => by simp only; omega, Nat.le_refl _⟩

theorem num_ok {l : List UInt8} {x : Tk} (h : numS l = .inr x) : TkOk x := by
  unfold numS at h
  simp only at h
  split at h
  · cases h
  · split at h
    · cases h
    · split at h
      · injection h with h; subst h
        exact ⟨by simp, by simp, fun h2 => by simp at h2, by simp⟩
      · cases h

theorem txt_ok (f : Nat) : ∀ (n : Nat) (V l : List UInt8) (x : Tk), V.length ≤ n → txtS f n V l = .inr x → TkOk x := by
  induction f with
  | zero => intro n V l x _ h; cases h
  | succ f ih =>
    intro n V l x hV h
    match l with
    | [] => cases h
    | c :: r =>
      simp only [txtS] at h
      split at h
      · injection h with h; subst h
        exact ⟨by simp, by simp, fun _ h3 => by simp at h3, by simp; omega⟩
      · split at h
        · cases h
        · rename_i h0
          refine ih _ _ _ _ ?_ h
          rw [List.length_append, List.length_singleton]
          have : (pcS (c :: r)).2 ≠ 0 := fun e => h0 (Or.inl e)
          omega

theorem sign_ok {l : List UInt8} {x : Tk} (h : signS l = .inr x) : TkOk x := by
  unfold signS at h
  split at h
  · rename_i s hs
    have := sgs_small s (List.mem_of_find?_eq_some hs)
    injection h with h; subst h
    exact ⟨by simp, by simp, fun _ _ => this, by show s.data.toList.length ≤ s.size; rw [← Lib.size_eq]; exact Nat.le_refl _⟩
  · cases h

theorem tok_ok {l : List UInt8} {x : Tk} (h : tokS l = .inr x) : TkOk x := by
  match l with
  | [] => cases h
  | c :: r =>
    simp only [tokS] at h
    split at h
    · exact word_ok h
    · split at h
      · exact num_ok h
      · split at h
        · exact txt_ok _ _ _ _ _ (by simp) h
        · exact sign_ok h

theorem sgs_heads : ∀ s ∈ sgs, ∃ d, s.data.toList.head? = some d ∧ blankB d = false ∧ d ≠ 35 := by
  intro s hs
  simp only [sgs, List.mem_cons, List.not_mem_nil, or_false] at hs
  rcases hs with rfl | rfl | rfl | rfl | rfl | rfl | rfl | rfl | rfl | rfl | rfl | rfl | rfl | rfl | rfl | rfl | rfl | rfl | rfl | rfl | rfl | rfl | rfl | rfl | rfl <;> exact ⟨_, rfl, by decide, by decide⟩

/-- A token begins with no gap. -/
theorem tok_begins {c : UInt8} {r : List UInt8} {x : Tk} (h : tokS (c :: r) = .inr x) : blankB c = false ∧ c ≠ 35 := by
  by_cases hc : blankB c = false ∧ c ≠ 35
  · exact hc
  · exfalso
    have h4 : letterB c = false ∧ digitB c = false ∧ c ≠ 34 := by
      have hv : (c.toNat : Int) = 32 ∨ (c.toNat : Int) = 9 ∨ (c.toNat : Int) = 13 ∨ (c.toNat : Int) = 10 ∨ (c.toNat : Int) = 35 := by
        by_cases h35 : c = 35
        · subst h35; right; right; right; right; rfl
        · have hb : blankB c = true := by
            cases hb : blankB c with
            | true => rfl
            | false => exact absurd ⟨hb, h35⟩ hc
          unfold blankB at hb
          simp only [Bool.or_eq_true, beq_iff_eq] at hb
          omega
      refine ⟨?_, ?_, ?_⟩
      · unfold letterB; rcases hv with h | h | h | h | h <;> rw [h] <;> decide
      · unfold digitB; rcases hv with h | h | h | h | h <;> rw [h] <;> decide
      · rintro rfl; exact absurd hv (by decide)
    simp only [tokS] at h
    rw [if_neg (by rw [h4.1]; simp), if_neg (by rw [h4.2.1]; simp), if_neg h4.2.2] at h
    unfold signS at h
    split at h
    · rename_i s hs
      obtain ⟨d, hd, h5, h6⟩ := sgs_heads s (List.mem_of_find?_eq_some hs)
      have hp := List.find?_some hs
      cases hl : s.data.toList with
      | nil => rw [hl] at hd; cases hd
      | cons d' t =>
        rw [hl] at hd hp
        simp only [List.head?_cons, Option.some.injEq] at hd
        subst hd
        simp only [List.isPrefixOf, Bool.and_eq_true, beq_iff_eq] at hp
        rw [hp.1] at h5 h6
        exact hc ⟨h5, h6⟩
    · cases h

/-- What the reference takes for the text of a token. -/
def sdS (k : Int) (s : ByteArray) (n : Int) : ByteArray :=
  if k = 2 then ⟨(Lib.itoa n).toArray⟩ else if k = 3 then ⟨(qt s.data.toList).toArray⟩ else s

/-- The first token of a scanned text, held against the one that is asked for. -/
def hdM (k : Int) (s : ByteArray) (n : Int) (sz : Nat) (p : Nat × Tk) : Bool :=
  decide ((p.2.kind : Int) = k ∧ p.2.text = s.data.toList ∧ p.2.int = n ∧ p.1 = 0 ∧ p.1 + p.2.len = sz)

def rfS (k : Int) (s : ByteArray) (n : Int) : ByteArray × Int :=
  if 4194304 < s.size then (⟨#[]⟩, 1)
  else if 4194304 < (sdS k s n).size then (⟨#[]⟩, 1)
  else match scanS ((sdS k s n).size + 1) 0 (sdS k s n).data.toList with
    | .inl _ => (⟨#[]⟩, 1)
    | .inr toks => if (toks.head?.map (hdM k s n (sdS k s n).size)).getD false = true then (sdS k s n, 0) else (⟨#[]⟩, 1)

/-- The whole text is the token, or the scanner's first is not it. -/
theorem whole_iff (b : ByteArray) (k : Int) (hk : k ≠ 0) (s : ByteArray) (n : Int) :
    (match scanS (b.size + 1) 0 b.data.toList with
      | .inl _ => ((⟨#[]⟩, 1) : ByteArray × Int)
      | .inr toks => if (toks.head?.map (hdM k s n b.size)).getD false = true then (b, 0) else (⟨#[]⟩, 1)) =
    if tokM k s n b = true then (b, 0) else (⟨#[]⟩, 1) := by
  by_cases hm : tokM k s n b = true
  · rw [if_pos hm]
    unfold tokM at hm
    cases ht : tokS b.data.toList with
    | inl e => rw [ht] at hm; cases hm
    | inr x =>
      rw [ht] at hm
      obtain ⟨q1, q2, q3, q4⟩ := of_decide_eq_true hm
      match hb : b.data.toList with
      | [] => rw [hb] at ht; cases ht
      | c :: r =>
        have hb0 := hb
        rw [hb] at ht
        obtain ⟨hg1, hg2⟩ := tok_begins ht
        have hps := piece_scan hb0 hg1 hg2 ht
        rw [q2, Lib.size_eq, List.take_length, ← Lib.size_eq, hb0] at hps
        rw [hps]
        refine if_pos ?_
        exact decide_eq_true ⟨q1, q3, q4, rfl, by simpa using q2⟩
  · rw [if_neg hm]
    cases hs : scanS (b.size + 1) 0 b.data.toList with
    | inl e => rfl
    | inr toks =>
      simp only
      rw [if_neg]
      intro hh
      obtain ⟨m, hm1, _, h3⟩ := scan_head _ _ _ _ (by rw [← Lib.size_eq]; omega) hs
      rcases h3 with ⟨_, rfl⟩ | ⟨c, r, x, rest, f', hd, _, _, ht, rfl, _, _⟩
      · simp only [List.head?_cons, Option.map_some, Option.getD_some] at hh
        obtain ⟨q1, _⟩ := of_decide_eq_true hh
        exact hk q1.symm
      · simp only [List.head?_cons, Option.map_some, Option.getD_some] at hh
        obtain ⟨q1, q2, q3, q4, q5⟩ := of_decide_eq_true hh
        simp only at q1 q2 q3 q4 q5
        have : m = 0 := by omega
        subst this
        rw [List.drop_zero] at hd
        apply hm
        unfold tokM
        rw [hd, ht]
        exact decide_eq_true ⟨q1, by omega, q2, q3⟩

theorem qt_size (s : ByteArray) : (⟨(qt s.data.toList).toArray⟩ : ByteArray).size = (qt s.data.toList).length := by rw [Lib.size_eq]

/-- The reference's Text is lex's. -/
theorem rf_tx (k : Int) (s : ByteArray) (n : Int) (h0 : -9223372036854775808 ≤ n) (h1 : n ≤ 9223372036854775807) : rfS k s n = txS k s n := by
  have hbig : k ≠ 0 → 4194304 < s.size → tokM k s n (wrS k s n) = false := by
    intro hk hs
    cases hm : tokM k s n (wrS k s n) with
    | false => rfl
    | true =>
      exfalso
      unfold tokM at hm
      cases ht : tokS (wrS k s n).data.toList with
      | inl e => rw [ht] at hm; cases hm
      | inr x =>
        rw [ht] at hm
        obtain ⟨q1, q2, q3, q4⟩ := of_decide_eq_true hm
        obtain ⟨o1, o2, o3, o4⟩ := tok_ok ht
        rw [q3, ← Lib.size_eq] at o4
        by_cases k2 : x.kind = 2
        · have hl := Lib.itoa_length_le n h0 h1
          have : (wrS k s n).size ≤ 21 := by
            unfold wrS
            rw [if_neg (by omega), if_pos (by omega), Lib.size_eq]
            exact hl
          omega
        · by_cases k3 : x.kind = 3
          · have : (wrS k s n).size = 0 := by
              unfold wrS
              rw [if_neg (by omega), if_neg (by omega), if_neg (by omega)]
              rfl
            omega
          · have := o3 k2 k3
            omega
  by_cases hk : k = 0
  · subst hk
    unfold rfS txS
    rw [if_pos rfl]
    by_cases hs : 4194304 < s.size
    · rw [if_pos hs, if_neg (by omega)]
    · rw [if_neg hs, show sdS 0 s n = s from rfl, if_neg hs]
      cases hc : scanS (s.size + 1) 0 s.data.toList with
      | inl e =>
        have : s.size ≠ 0 := by
          intro e0
          have hn : s.data.toList = [] := by rw [← List.length_eq_zero_iff, ← Lib.size_eq]; exact e0
          rw [hn, e0] at hc
          cases hc
        simp only
        rw [if_neg (by omega)]
      | inr toks =>
        simp only
        obtain ⟨m, hm1, _, h3⟩ := scan_head _ _ _ _ (by rw [← Lib.size_eq]; omega) hc
        rcases h3 with ⟨hm2, rfl⟩ | ⟨c, r, x, rest, f', hd, _, _, ht, rfl, _, _⟩
        · by_cases hz : s.size = 0 ∧ n = 0
          · rw [if_pos hz]
            have hn : s.data.toList = [] := by rw [← List.length_eq_zero_iff, ← Lib.size_eq]; exact hz.1
            rw [← Lib.size_eq] at hm2
            rw [if_pos]
            · exact congrArg (·, (0 : Int)) (toL_inj (by rw [toL, toL, hn]))
            · exact decide_eq_true ⟨rfl, hn.symm, hz.2.symm, by simp only; omega, by simp only; omega⟩
          · rw [if_neg hz, if_neg]
            intro hh
            obtain ⟨_, q2, q3, q4, q5⟩ := of_decide_eq_true hh
            simp only at q2 q3 q4 q5
            apply hz
            refine ⟨?_, q3.symm⟩
            rw [Lib.size_eq, ← q2]
            rfl
        · rw [if_neg]
          · rw [if_neg]
            rintro ⟨hz, _⟩
            have hn : s.data.toList = [] := by rw [← List.length_eq_zero_iff, ← Lib.size_eq]; exact hz
            rw [hn] at hd
            simp at hd
          · intro hh
            obtain ⟨q1, _⟩ := of_decide_eq_true hh
            simp only at q1
            have := (tok_ok ht).1
            omega
  · have htx : txS k s n = if (wrS k s n).size = 0 then (⟨#[]⟩, 1) else if tokM k s n (wrS k s n) = true then (wrS k s n, 0) else (⟨#[]⟩, 1) := by unfold txS; rw [if_neg hk]
    rw [htx]
    by_cases hs : 4194304 < s.size
    · rw [hbig hk hs]
      unfold rfS
      rw [if_pos hs]
      simp
    · have e0 : tokM k s n ⟨#[]⟩ = false := rfl
      have hone : (if (wrS k s n).size = 0 then ((⟨#[]⟩, 1) : ByteArray × Int) else if tokM k s n (wrS k s n) = true then (wrS k s n, 0) else (⟨#[]⟩, 1)) = if tokM k s n (wrS k s n) = true then (wrS k s n, 0) else (⟨#[]⟩, 1) := by
        by_cases hz : (wrS k s n).size = 0
        · have : wrS k s n = ⟨#[]⟩ := toL_inj (by rw [nil_size.2 hz, toL])
          rw [if_pos hz, this, e0]
          rfl
        · rw [if_neg hz]
      rw [hone]
      unfold rfS
      rw [if_neg hs]
      by_cases k3 : k = 3
      · subst k3
        have hsd : sdS 3 s n = ⟨(qt s.data.toList).toArray⟩ := rfl
        by_cases h200 : s.size ≤ 200
        · have hw : wrS 3 s n = sdS 3 s n := by unfold wrS; rw [if_neg (by omega), if_neg (by omega), if_pos ⟨rfl, h200⟩, hsd]
          rw [hw, if_neg, whole_iff _ _ (by omega)]
          rw [hsd, qt_size]
          have := pcs_len s.data.toList
          rw [← Lib.size_eq] at this
          simp only [qt]
          simp
          omega
        · have hw : wrS 3 s n = ⟨#[]⟩ := by unfold wrS; rw [if_neg (by omega), if_neg (by omega), if_neg (by omega)]
          rw [hw, e0, hsd, qt_size]
          by_cases hq : 4194304 < (qt s.data.toList).length
          · rw [if_pos hq]; rfl
          · rw [if_neg hq]
            have := scan_q s.data.toList
            rw [if_neg (by rw [← Lib.size_eq]; exact h200)] at this
            simp only [this]
            rfl
      · by_cases k145 : k = 1 ∨ k = 4 ∨ k = 5
        · have hw : wrS k s n = s := by unfold wrS; rw [if_pos k145]
          have hsd : sdS k s n = s := by unfold sdS; rw [if_neg (by omega), if_neg k3]
          rw [hw, hsd, if_neg hs, whole_iff _ _ hk]
        · by_cases k2 : k = 2
          · subst k2
            have hw : wrS 2 s n = sdS 2 s n := rfl
            have hl := Lib.itoa_length_le n h0 h1
            rw [hw, if_neg, whole_iff _ _ (by omega)]
            rw [show sdS 2 s n = ⟨(Lib.itoa n).toArray⟩ from rfl, Lib.size_eq]
            simp only
            omega
          · have hw : wrS k s n = ⟨#[]⟩ := by unfold wrS; rw [if_neg k145, if_neg k2, if_neg (by omega)]
            have hsd : sdS k s n = s := by unfold sdS; rw [if_neg k2, if_neg k3]
            have hf : tokM k s n s = false := by
              cases hm : tokM k s n s with
              | false => rfl
              | true =>
                unfold tokM at hm
                cases ht : tokS s.data.toList with
                | inl e => rw [ht] at hm; cases hm
                | inr x =>
                  rw [ht] at hm
                  obtain ⟨q1, _⟩ := of_decide_eq_true hm
                  obtain ⟨o1, o2, _⟩ := tok_ok ht
                  omega
            rw [hw, e0, hsd, if_neg hs, whole_iff _ _ hk, hf]
            rfl
end Go.Proofs.YtlahcmhjnhangaaDoor
