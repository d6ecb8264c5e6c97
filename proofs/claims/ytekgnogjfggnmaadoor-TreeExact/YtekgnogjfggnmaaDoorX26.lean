import Derived.Test.YtekgnogjfggnmaaDoorX25
namespace Go.Proofs.YtekgnogjfggnmaaDoor

/-! How deep a node lies: by the stack of ends, and by the way up. -/

theorem onW_filter (L : List Nd) (n : Nat) : ∀ m, onW L n m = (List.range m).filter (fun p => decide ((n : Int) < p + sz L p))
  | 0 => rfl
  | m + 1 => by
    unfold onW
    rw [List.range_succ, List.filter_append, onW_filter L n m]
    congr 1
    by_cases h : (n : Int) < m + sz L m
    · rw [if_pos h]; simp [h]
    · rw [if_neg h]; simp [h]

theorem split_last (n : Int) (f : Nat → Int) : ∀ (l : List Nat), l.Pairwise (fun a b => f b ≤ f a) → (∀ a ∈ l, n ≤ f a) → l = l.filter (fun a => decide (n < f a)) ++ l.filter (fun a => decide (f a = n))
  | [], _, _ => rfl
  | a :: l, hp, hn => by
    obtain ⟨h1, h2⟩ := List.pairwise_cons.1 hp
    have ih := split_last n f l h2 (fun b hb => hn b (List.mem_cons_of_mem _ hb))
    have ha := hn a (List.mem_cons_self ..)
    by_cases h : n < f a
    · have : ¬ f a = n := by omega
      simp only [List.filter_cons, h, this, decide_true, decide_false, if_true, Bool.false_eq_true, if_false, List.cons_append]
      rw [← ih]
    · have e : f a = n := by omega
      have hall : ∀ b ∈ l, f b = n := fun b hb => by have := h1 b hb; have := hn b (List.mem_cons_of_mem _ hb); omega
      have e1 : l.filter (fun a => decide (n < f a)) = [] := List.filter_eq_nil_iff.2 (fun b hb => by have := hall b hb; simp; omega)
      have e2 : l.filter (fun a => decide (f a = n)) = l := List.filter_eq_self.2 (fun b hb => by simp [hall b hb])
      have e3 : decide (n < f a) = false := by simp; omega
      have e4 : decide (f a = n) = true := by simp [e]
      simp only [List.filter_cons, e3, e4, Bool.false_eq_true, if_false, if_true]
      rw [e1, e2]
      rfl

/-- The nodes that are open ahead of n, before those that end there are taken away. -/
def opn (L : List Nd) : Nat → List Nat
  | 0 => []
  | m + 1 => onW L m (m + 1)

def dep (L : List Nd) (n : Nat) : Nat := (onW L n n).length

theorem opn_filter (L : List Nd) : ∀ n, opn L n = (List.range n).filter (fun p => decide ((n : Int) ≤ p + sz L p))
  | 0 => rfl
  | m + 1 => by
    show onW L m (m + 1) = _
    rw [onW_filter]
    congr 1

theorem Tr.opn_split {L : List Nd} (h : Tr L) {n : Nat} (hn : n ≤ L.length) : ∃ T, opn L n = onW L n n ++ T ∧ (∀ t ∈ T, (t : Int) + sz L t = n) ∧ (∀ t ∈ onW L n n, (n : Int) < t + sz L t) := by
  have hp : (opn L n).Pairwise (fun a b : Nat => (b : Int) + sz L b ≤ a + sz L a) := by
    rw [opn_filter]
    refine List.Pairwise.imp_of_mem (R := fun a b => a < b) ?_ ((List.pairwise_lt_range).filter _)
    intro a b ha hb hab
    obtain ⟨ha1, ha2⟩ := List.mem_filter.1 ha
    obtain ⟨hb1, hb2⟩ := List.mem_filter.1 hb
    have := List.mem_range.1 ha1
    have := List.mem_range.1 hb1
    have ha2 := of_decide_eq_true ha2
    exact h.nest (b - a) a b (Nat.le_refl _) (by omega) (by omega) (by omega)
  have hs := split_last n (fun t => (t : Int) + sz L t) (opn L n) hp (fun a ha => by rw [opn_filter] at ha; exact of_decide_eq_true (List.mem_filter.1 ha).2)
  have e : onW L n n = (opn L n).filter (fun t => decide ((n : Int) < t + sz L t)) := by
    rw [opn_filter, List.filter_filter, onW_filter]
    congr 1
    funext p
    by_cases h : (n : Int) < p + sz L p
    · have : (n : Int) ≤ p + sz L p := by omega
      simp [h, this]
    · simp [h]
  refine ⟨(opn L n).filter (fun t => decide ((t : Int) + sz L t = n)), ?_, fun t ht => of_decide_eq_true (List.mem_filter.1 ht).2, fun t ht => ?_⟩
  · rw [e]; exact hs
  · rw [e] at ht; exact of_decide_eq_true (List.mem_filter.1 ht).2

theorem Tr.opn_next {L : List Nd} (h : Tr L) {n : Nat} (hn : n < L.length) : opn L (n + 1) = onW L n n ++ [n] := by
  show onW L n n ++ (if (n : Int) < n + sz L n then [n] else []) = _
  rw [if_pos (by have := (h.good n hn).1; omega)]

theorem dep_le (L : List Nd) (n : Nat) : dep L n ≤ n := onW_len L n n

/-- The way up has as many steps as the node lies deep. -/
def cnt (L : List Nd) (p : Int) : Nat := if p < 0 then 0 else dep L p.toNat + 1

theorem par_none {L : List Nd} {n : Nat} : ∀ m, par L n m < 0 → onW L n m = []
  | 0, _ => rfl
  | m + 1, h => by
    unfold par at h
    unfold onW
    split at h
    · rename_i hc
      rw [par_none m h, if_neg (by omega)]; rfl
    · omega
theorem par_some {L : List Nd} {n : Nat} : ∀ m, 0 ≤ par L n m → (par L n m).toNat < m ∧ (n : Int) < par L n m + sz L (par L n m).toNat ∧ onW L n m = onW L n (par L n m).toNat ++ [(par L n m).toNat]
  | 0, h => by unfold par at h; omega
  | m + 1, h => by
    unfold par at h ⊢
    split at h
    · rename_i hc
      rw [if_pos hc]
      obtain ⟨h1, h2, h3⟩ := par_some m h
      refine ⟨by omega, h2, ?_⟩
      rw [← h3]
      show onW L n m ++ (if (n : Int) < m + sz L m then [m] else []) = _
      rw [if_neg (by omega), List.append_nil]
    · rename_i hc
      rw [if_neg hc]
      refine ⟨by omega, by simp; omega, ?_⟩
      simp only [Int.toNat_natCast]
      show onW L n m ++ (if (n : Int) < m + sz L m then [m] else []) = _
      rw [if_pos (by omega)]
theorem Tr.dep_par {L : List Nd} (h : Tr L) {n : Nat} (hn : n < L.length) : dep L n = cnt L (par L n n) := by
  unfold cnt dep
  by_cases hp : par L n n < 0
  · rw [if_pos hp, par_none n hp]; rfl
  · rw [if_neg hp]
    obtain ⟨h1, h2, h3⟩ := par_some (L := L) (n := n) n (by omega)
    rw [h3, List.length_append]
    congr 1
    congr 1
    refine onW_eq L n _ _ (fun p hp => ?_)
    constructor
    · intro q; omega
    · intro q
      have := h.nest ((par L n n).toNat - p) p (par L n n).toNat (Nat.le_refl _) (by omega) (by omega) q
      omega
end Go.Proofs.YtekgnogjfggnmaaDoor
