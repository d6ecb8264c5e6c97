import Derived.Test.YtekgnogjfggnmaaGreatDoorM37
import Derived.Test.YtekgnogjfggnmaaGreatDoorM33
namespace Go.Proofs.YtekgnogjfggnmaaGreatDoor.Lx
open Go.RowKit

/-! What Scan makes of a quote. -/

theorem hx_ix_all : ∀ n : Fin 16, Lib.indexByte hexs.data.toList (hx n.val) = ((n.val : Nat) : Int) := by decide +kernel
theorem hx_ix (n : Nat) (h : n < 16) : Lib.indexByte hexs.data.toList (hx n) = (n : Int) := hx_ix_all ⟨n, h⟩
/-- The piece of a byte is read as that byte. -/
theorem pcS_pc (c : UInt8) (rest : List UInt8) : pcS (pc c ++ rest) = (c, (pc c).length) := by
  have hc := UInt8.toNat_lt c
  unfold pc
  by_cases h1 : c = 10
  · rw [if_pos h1]; subst h1; simp [pcS]
  · rw [if_neg h1]
    by_cases h2 : c = 34 ∨ c = 92
    · rw [if_pos h2]
      have h3 : c ≠ 110 := by rcases h2 with rfl | rfl <;> decide
      simp only [List.cons_append, List.nil_append, pcS]
      rw [if_neg (by simp), if_neg h3, if_pos h2]
      rfl
    · rw [if_neg h2]
      by_cases h3 : 32 ≤ c.toNat ∧ c.toNat ≤ 126
      · rw [if_pos h3]
        simp only [List.cons_append, List.nil_append, pcS]
        rw [if_pos (fun e => h2 (Or.inr e)), if_pos (by simp [plainB]; omega)]
        rfl
      · rw [if_neg h3]
        simp only [List.cons_append, List.nil_append, pcS]
        rw [if_neg (by simp), if_neg (by decide), if_neg (by decide), if_pos trivial]
        rw [hx_ix _ (by omega), hx_ix _ (by omega), if_pos (by omega)]
        have e : UInt8.ofNat (16 * ((c.toNat / 16 : Nat) : Int).toNat + ((c.toNat % 16 : Nat) : Int).toNat) = c := by
          apply UInt8.toNat_inj.1
          rw [Int.toNat_natCast, Int.toNat_natCast, UInt8.toNat_ofNat_of_lt' (by show _ < 256; omega)]
          omega
        rw [e]
        rfl
theorem scan_some (f : Nat) : ∀ (k : Nat) (l : List UInt8) (toks : List (Nat × Tk)), scanS f k l = .inr toks → toks ≠ [] := by
  induction f with
  | zero => intro k l toks h; cases h
  | succ f ih =>
    intro k l toks h
    match l with
    | [] => cases h; simp
    | c :: r =>
      simp only [scanS] at h
      split at h
      · exact ih _ _ _ h
      · split at h
        · exact ih _ _ _ h
        · split at h
          · cases h
          · split at h
            · cases h
            · cases h; simp
theorem txt_q : ∀ (A : List UInt8) (f n : Nat) (V rest : List UInt8), V.length ≤ 200 → A.length < f → txtS f n V (pcs A ++ 34 :: rest) = if V.length + A.length ≤ 200 then .inr ⟨3, n + (pcs A).length + 1, V ++ A, 0⟩ else .inl 22
  | [], f, n, V, rest, hV, hf => by
    obtain ⟨f, rfl⟩ : ∃ g, f = g + 1 := ⟨f - 1, by omega⟩
    have e : pcs [] ++ 34 :: rest = 34 :: rest := rfl
    rw [e, txt_quote', if_pos (by simpa using hV)]
    simp [pcs]
  | c :: A, f, n, V, rest, hV, hf => by
    obtain ⟨f, rfl⟩ : ∃ g, f = g + 1 := ⟨f - 1, by omega⟩
    rw [List.length_cons] at hf
    obtain ⟨d, r, e, hd⟩ := pc_head c
    rw [pcs_cons, List.append_assoc]
    have hp := pcS_pc c (pcs A ++ 34 :: rest)
    obtain ⟨r2, hr2⟩ : ∃ r2, pc c ++ (pcs A ++ 34 :: rest) = d :: r2 := ⟨r ++ (pcs A ++ 34 :: rest), by rw [e]; rfl⟩
    have hpos : (pc c).length ≠ 0 := by rw [e]; simp
    have hdrop : (pc c ++ (pcs A ++ 34 :: rest)).drop (pc c).length = pcs A ++ 34 :: rest := List.drop_left
    rw [hr2] at hp hdrop ⊢
    by_cases h200 : V.length = 200
    · unfold txtS
      rw [if_neg hd, if_pos (Or.inr h200), if_neg (by rw [List.length_cons]; omega)]
    · have hst : txtS (f + 1) n V (d :: r2) = txtS f (n + (pcS (d :: r2)).2) (V ++ [(pcS (d :: r2)).1]) ((d :: r2).drop (pcS (d :: r2)).2) := by
        conv => lhs; unfold txtS
        rw [if_neg hd, if_neg (by rw [hp]; simp only; omega)]
      rw [hst, hp]
      simp only
      rw [hdrop, txt_q A f _ _ rest (by rw [List.length_append]; simp; omega) (by omega)]
      by_cases hl : V.length + (c :: A).length ≤ 200
      · rw [if_pos hl, if_pos (by rw [List.length_cons] at hl; rw [List.length_append]; simp; omega)]
        congr 1
        rw [List.length_append]
        simp only [Tk.mk.injEq, true_and, List.append_assoc, List.cons_append, List.nil_append, and_true]
        omega
      · rw [if_neg hl, if_neg (by rw [List.length_cons] at hl; rw [List.length_append]; simp; omega)]
where txt_quote' {f n : Nat} {V r : List UInt8} : txtS (f + 1) n V (34 :: r) = .inr ⟨3, n + 1, V, 0⟩ := by unfold txtS; rw [if_pos rfl]

/-- What Scan makes of a quote. -/
theorem scan_q (A : List UInt8) : scanS ((qt A).length + 1) 0 (qt A) = if A.length ≤ 200 then .inr [(0, ⟨3, (qt A).length, A, 0⟩), ((qt A).length, ⟨0, 0, [], 0⟩)] else .inl (22, 0) := by
  have hp : A.length ≤ (pcs A).length := by
    induction A with
    | nil => simp
    | cons c A ih =>
      obtain ⟨d, r, e, _⟩ := pc_head c
      rw [pcs_cons, List.length_append, List.length_cons, e, List.length_cons]
      omega
  have ht : tokS (qt A) = if A.length ≤ 200 then .inr ⟨3, (qt A).length, A, 0⟩ else .inl 22 := by
    unfold qt
    simp only [tokS]
    rw [if_neg (by decide), if_neg (by decide), if_pos trivial, txt_q A _ 1 [] [] (by simp) (by rw [List.length_append]; omega)]
    simp only [List.length_nil, Nat.zero_add, List.nil_append, List.length_cons, List.length_append]
    by_cases h : A.length ≤ 200
    · rw [if_pos h, if_pos h]
      congr 2
      omega
    · rw [if_neg h, if_neg h]
  have hq : qt A = 34 :: (pcs A ++ [34]) := rfl
  by_cases h : A.length ≤ 200
  · rw [if_pos h] at ht ⊢
    rw [hq] at ht ⊢
    have hc := scan_tok (34 :: (pcs A ++ [34])).length 0 34 (pcs A ++ [34]) _ [] (by decide) (by decide) ht
    simp only [List.drop_length, Nat.zero_add] at hc
    rw [show (34 :: (pcs A ++ [34])).length = (pcs A ++ [34]).length + 1 from rfl, scan_end] at hc
    rw [show (34 :: (pcs A ++ [34])).length = (pcs A ++ [34]).length + 1 from rfl]
    cases hz : scanS ((pcs A ++ [34]).length + 1 + 1) 0 (34 :: (pcs A ++ [34])) with
    | inl p => rw [hz] at hc; cases hc
    | inr l => rw [hz] at hc; simpa [comb] using hc
  · rw [if_neg h] at ht ⊢
    rw [hq] at ht ⊢
    exact scan_bad _ _ _ _ _ (by decide) (by decide) ht
end Go.Proofs.YtekgnogjfggnmaaGreatDoor.Lx
