import Derived.Test.YtekgnogjfggnmaaDoorTreeMath
namespace Go.Proofs.YtekgnogjfggnmaaDoor

/-! Ways within a tree. -/

/-- A list all of whose nodes fit. -/
structure Tr (L : List Nd) : Prop where
  pos : 0 < L.length
  root : sz L 0 = (L.length : Int)
  kids : ∀ n, n < L.length → kidw L n (endOf L n) (L.length + 1) (n + 1) 0 ≠ none
  idx : ∀ n, n < L.length → (nd L n).kind = 24 → kidw L n (endOf L n) (L.length + 1) (n + 1) 0 = some 2
  good : ∀ n, n < L.length → Good L n

theorem tree_parts {nm ty : ByteArray → Bool} {L : List Nd} (h : treeS nm ty L = true) : headS L = true ∧ ∀ n, n < L.length → fit nm ty L n = true := by
  unfold treeS at h
  simpa only [Bool.and_eq_true, List.all_eq_true, List.mem_range] using h

theorem tr_of {nm ty : ByteArray → Bool} {L : List Nd} (h : treeS nm ty L = true) : Tr L := by
  obtain ⟨h0, h1⟩ := tree_parts h
  have hh := h0
  unfold headS at hh
  simp only [Bool.and_eq_true, decide_eq_true_eq, beq_iff_eq] at hh
  refine ⟨hh.1.1, hh.1.2, fun n hn => fit_kids (h1 n hn), fun n hn hk => ?_, fun n hn => good_of h0 (fun m hm => h1 m (by omega)) hn⟩
  have hf := h1 n hn
  unfold fit kidsS at hf
  rw [hk] at hf
  have hs : shp 24 = ({ nilShp with fewest := 2, most := 2 }, true) := by rfl
  rw [hs] at hf
  simp only [Bool.and_eq_true] at hf
  have h3 := hf.2
  split at h3
  · simp at h3
  · rename_i c hc
    simp only [Bool.and_eq_true, decide_eq_true_eq] at h3
    rw [hc]
    congr 1
    omega

/-- κ is met when one goes from k on, subtree by subtree. -/
inductive Ch (L : List Nd) : Nat → Nat → Prop
  | here (k : Nat) : Ch L k k
  | next {k κ : Nat} (h1 : 1 ≤ sz L k) (h : Ch L (k + (sz L k).toNat) κ) : Ch L k κ

theorem Ch.le {L : List Nd} {k κ : Nat} (h : Ch L k κ) : k ≤ κ := by
  induction h with
  | here => exact Nat.le_refl _
  | next h1 _ ih => omega

theorem Ch.snoc {L : List Nd} {k κ : Nat} (h : Ch L k κ) (h1 : 1 ≤ sz L κ) : Ch L k (κ + (sz L κ).toNat) := by
  induction h with
  | here => exact .next h1 (.here _)
  | next h2 _ ih => exact .next h2 (ih h1)

theorem Ch.cover {L : List Nd} {k κ : Nat} (h : Ch L k κ) : ∀ m, k ≤ m → m < κ → ∃ q, k ≤ q ∧ q ≤ m ∧ (m : Int) < q + sz L q ∧ (q : Int) + sz L q ≤ κ := by
  induction h with
  | here => intro m h1 h2; omega
  | @next k κ h1 h ih =>
    intro m hm hk
    by_cases hq : (m : Int) < k + sz L k
    · exact ⟨k, Nat.le_refl _, hm, hq, by have := h.le; omega⟩
    · obtain ⟨q, a, b, c, d⟩ := ih m (by omega) hk
      exact ⟨q, by omega, b, c, d⟩

theorem Tr.nest {L : List Nd} (h : Tr L) : ∀ (d q m : Nat), m - q ≤ d → q < L.length → q ≤ m → (m : Int) < q + sz L q → (m : Int) + sz L m ≤ q + sz L q
  | 0, q, m, hd, _, h1, _ => by obtain rfl : m = q := by omega
                                exact Int.le_refl _
  | d + 1, q, m, hd, hq, h1, h2 => by
    by_cases e : m = q
    · subst e; exact Int.le_refl _
    · obtain ⟨g1, g2⟩ := h.good q hq
      have he : (endOf L q : Int) = q + sz L q := by unfold endOf; omega
      obtain ⟨κ, a, b, c, e', g⟩ := kw_at L q (endOf L q) (L.length + 1) (q + 1) 0 (h.kids q hq) (by omega) m (by omega) (by omega)
      have := h.nest d κ m (by omega) (by omega) b c
      omega

/-- κ is a kid of n. -/
structure Kid (L : List Nd) (n κ : Nat) : Prop where
  ch : Ch L (n + 1) κ
  lt : (κ : Int) < n + sz L n

/-- The nearest one ahead whose subtree reaches n. -/
def par (L : List Nd) (n : Nat) : Nat → Int
  | 0 => -1
  | p + 1 => if (p : Int) + sz L p ≤ n then par L n p else (p : Int)

theorem par_at {L : List Nd} {n p : Nat} (hp : (n : Int) < p + sz L p) : ∀ (q : Nat), p < q → (∀ m, p < m → m < q → (m : Int) + sz L m ≤ n) → par L n q = p
  | 0, h, _ => by omega
  | q + 1, h, hm => by
    unfold par
    by_cases e : p = q
    · subst e; rw [if_neg (by omega)]
    · rw [if_pos (hm q (by omega) (by omega))]
      exact par_at hp q (by omega) (fun m h1 h2 => hm m h1 (by omega))

theorem Kid.par {L : List Nd} {n κ : Nat} (hT : Tr L) (hn : n < L.length) (h : Kid L n κ) : par L κ κ = n := by
  obtain ⟨g1, g2⟩ := hT.good n hn
  refine par_at h.lt κ (by have := h.ch.le; omega) (fun m h1 h2 => ?_)
  obtain ⟨q, a, b, c, d⟩ := h.ch.cover m (by omega) h2
  have := hT.nest (m - q) q m (Nat.le_refl _) (by have := h.lt; omega) b c
  omega

/-- The kids, and where they end. -/
def kidL (L : List Nd) (e : Nat) : Nat → Nat → List Nat
  | 0, _ => []
  | f + 1, k => if e ≤ k then [] else k :: kidL L e f (k + (sz L k).toNat)

theorem kidw_sizes (L : List Nd) (n e : Nat) : ∀ (f k c : Nat), kidw L n e f k c ≠ none → e ≤ k + f → k ≤ e → ∀ κ, Ch L k κ → κ < e → 1 ≤ sz L κ ∧ (κ : Int) + sz L κ ≤ e
  | 0, k, c, _, hf, _, κ, hc, hl => by have := hc.le; omega
  | f + 1, k, c, h, hf, hke, κ, hc, hl => by
    unfold kidw at h
    have := hc.le
    rw [if_neg (by omega)] at h
    split at h
    · exact absurd rfl h
    · rename_i q
      have q1 : ¬ sz L k < 1 := fun z => q (.inl z)
      have q2 : ¬ (e : Int) - k < sz L k := fun z => q (.inr (.inl z))
      cases hc with
      | here => exact ⟨by omega, by omega⟩
      | next _ hc => exact kidw_sizes L n e f _ _ h (by omega) (by omega) κ hc hl

theorem Tr.kid_good {L : List Nd} (h : Tr L) {n κ : Nat} (hn : n < L.length) (hk : Kid L n κ) : 1 ≤ sz L κ ∧ (κ : Int) + sz L κ ≤ n + sz L n := by
  obtain ⟨g1, g2⟩ := h.good n hn
  have he : (endOf L n : Int) = n + sz L n := by unfold endOf; omega
  have := kidw_sizes L n (endOf L n) (L.length + 1) (n + 1) 0 (h.kids n hn) (by omega) (by omega) κ hk.ch (by have := hk.lt; omega)
  omega

/-- The kid on the way to m. -/
theorem Tr.way {L : List Nd} (h : Tr L) {n m : Nat} (hn : n < L.length) (h1 : n < m) (h2 : (m : Int) < n + sz L n) : ∃ κ, Kid L n κ ∧ κ ≤ m ∧ (m : Int) < κ + sz L κ := by
  obtain ⟨g1, g2⟩ := h.good n hn
  have he : (endOf L n : Int) = n + sz L n := by unfold endOf; omega
  have key : ∀ (d k : Nat), m - k ≤ d → Ch L (n + 1) k → k ≤ m → ∃ κ, Kid L n κ ∧ κ ≤ m ∧ (m : Int) < κ + sz L κ := by
    intro d
    induction d with
    | zero => intro k hd hc hk
              have : k = m := by omega
              subst this
              have hK : Kid L n k := ⟨hc, by omega⟩
              have := h.kid_good hn hK
              exact ⟨k, hK, hk, by omega⟩
    | succ d ih =>
      intro k hd hc hk
      have hK : Kid L n k := ⟨hc, by omega⟩
      have := h.kid_good hn hK
      by_cases q : (m : Int) < k + sz L k
      · exact ⟨k, hK, hk, q⟩
      · exact ih (k + (sz L k).toNat) (by omega) (hc.snoc this.1) (by omega)
  exact key (m - (n + 1)) (n + 1) (Nat.le_refl _) (.here _) (by omega)

/-! The subtree of an expression is a tree. -/

def subL (L : List Nd) (n s : Nat) : List Nd := (L.drop n).take s
theorem subL_len {L : List Nd} {n s : Nat} (h : n + s ≤ L.length) : (subL L n s).length = s := by unfold subL; simp; omega
theorem nd_sub {L : List Nd} {n s m : Nat} (h : m < s) : nd (subL L n s) m = nd L (n + m) := by
  unfold nd subL
  rw [List.getD_eq_getElem?_getD, List.getD_eq_getElem?_getD, List.getElem?_take_of_lt h, List.getElem?_drop]

theorem kidw_fuel (L : List Nd) (n e : Nat) : ∀ (f f' k c : Nat), e ≤ k + f → e ≤ k + f' → kidw L n e f k c = kidw L n e f' k c
  | 0, 0, _, _, _, _ => rfl
  | 0, f' + 1, k, c, h1, h2 => by unfold kidw; rw [if_pos (by omega)]
  | f + 1, 0, k, c, h1, h2 => by unfold kidw; rw [if_pos (by omega)]
  | f + 1, f' + 1, k, c, h1, h2 => by
    unfold kidw
    split
    · rfl
    · split
      · rfl
      · rename_i q
        have q1 : ¬ sz L k < 1 := fun z => q (.inl z)
        exact kidw_fuel L n e f f' _ _ (by omega) (by omega)

theorem plc_run : ∀ (A : List Nd) (j : Nat), j < A.length → (∀ i, i < j → (nd A i).kind = 24) → (nd A j).kind ≠ 24 → plc A = ((nd A j).kind == 23)
  | [], j, h, _, _ => by simp at h
  | x :: A, 0, _, _, h => by
    unfold plc
    rw [if_neg (by simpa [nd] using h)]
    simp [nd]
  | x :: A, j + 1, hj, hi, h => by
    have h0 : x.kind = 24 := by have := hi 0 (by omega); simpa [nd] using this
    unfold plc
    rw [if_pos h0, plc_run A j (by simpa using hj) (fun i hi' => by have := hi (i + 1) (by omega); simpa [nd] using this) (by simpa [nd] using h)]
    simp [nd]

theorem Tr.run {L : List Nd} (h : Tr L) : ∀ (d k : Nat), L.length - k ≤ d → k < L.length → ∃ j, k ≤ j ∧ (j : Int) < k + sz L k ∧ (∀ i, k ≤ i → i < j → (nd L i).kind = 24) ∧ (nd L j).kind ≠ 24
  | 0, k, h1, h2 => by omega
  | d + 1, k, h1, h2 => by
    obtain ⟨g1, g2⟩ := h.good k h2
    by_cases hk : (nd L k).kind = 24
    · have hi := h.idx k h2 hk
      have he : (endOf L k : Int) = k + sz L k := by unfold endOf; omega
      have hlt : ¬ endOf L k ≤ k + 1 := by
        intro q
        rw [kidw_fuel L k _ (L.length + 1) 0 (k + 1) 0 (by omega) (by omega)] at hi
        simp [kidw] at hi
      have hK : Kid L k (k + 1) := ⟨.here _, by omega⟩
      have hg := h.kid_good h2 hK
      obtain ⟨j, a, b, c, e⟩ := h.run d (k + 1) (by omega) (by omega)
      refine ⟨j, by omega, by omega, fun i h3 h4 => ?_, e⟩
      by_cases q : i = k
      · subst q; exact hk
      · exact c i (by omega) h4
    · exact ⟨k, Nat.le_refl _, by omega, fun i h3 h4 => by omega, hk⟩

theorem nd_drop (L : List Nd) (k i : Nat) : nd (L.drop k) i = nd L (k + i) := by
  unfold nd
  rw [List.getD_eq_getElem?_getD, List.getD_eq_getElem?_getD, List.getElem?_drop]

theorem Tr.place_sub {L : List Nd} (h : Tr L) {n s m : Nat} (hs : n + s ≤ L.length) (hm : ((n + m : Nat) : Int) + sz L (n + m) ≤ ((n + s : Nat) : Int)) (hms : m < s) : place (subL L n s) m = place L (n + m) := by
  obtain ⟨j, a, b, c, e⟩ := h.run (L.length - (n + m)) (n + m) (Nat.le_refl _) (by omega)
  unfold place
  rw [plc_run (L.drop (n + m)) (j - (n + m)) (by simp; omega) (fun i hi => by rw [nd_drop]; exact c _ (by omega) (by omega)) (by rw [nd_drop, show n + m + (j - (n + m)) = j from by omega]; exact e),
    plc_run ((subL L n s).drop m) (j - (n + m)) (by simp [subL_len hs]; omega) (fun i hi => by rw [nd_drop, nd_sub (by omega)]; exact c _ (by omega) (by omega)) (by rw [nd_drop, nd_sub (by omega), show n + (m + (j - (n + m))) = j from by omega]; exact e)]
  rw [nd_drop, nd_drop, nd_sub (by omega)]
  congr 3
  omega

theorem Tr.kidw_sub {L : List Nd} (h : Tr L) {n s m : Nat} (hs : n + s ≤ L.length) (hms : m < s) {e : Nat} (he : e ≤ s) (hme : ((n + e : Nat) : Int) = ((n + m : Nat) : Int) + sz L (n + m)) :
    ∀ (f k c : Nat), m < k → Ch L (n + m + 1) (n + k) → kidw (subL L n s) m e f k c = kidw L (n + m) (n + e) f (n + k) c
  | 0, _, _, _, _ => rfl
  | f + 1, k, c, hk, hc => by
    unfold kidw
    by_cases hek : e ≤ k
    · rw [if_pos hek, if_pos (show n + e ≤ n + k by omega)]
    · rw [if_neg hek, if_neg (show ¬ n + e ≤ n + k by omega)]
      have hK : Kid L (n + m) (n + k) := ⟨hc, by omega⟩
      have hg := h.kid_good (by omega) hK
      have hks : k < s := by omega
      have hz : sz (subL L n s) k = sz L (n + k) := by unfold sz; rw [nd_sub hks]
      have hmay : may (subL L n s) m k c = may L (n + m) (n + k) c := by
        unfold may
        have hz2 : sz (subL L n s) m = sz L (n + m) := by unfold sz; rw [nd_sub hms]
        rw [h.place_sub hs (by omega) hks, hz, hz2, nd_sub hks, nd_sub hms]
        have e1 : ((k : Int) + sz L (n + k) < (m : Int) + sz L (n + m)) ↔ (((n + k : Nat) : Int) + sz L (n + k) < ((n + m : Nat) : Int) + sz L (n + m)) := by omega
        simp only [e1]
      rw [hz, hmay]
      have e2 : (sz L (n + k) < 1 ∨ (e : Int) - k < sz L (n + k) ∨ may L (n + m) (n + k) c = false) ↔ (sz L (n + k) < 1 ∨ ((n + e : Nat) : Int) - ((n + k : Nat) : Int) < sz L (n + k) ∨ may L (n + m) (n + k) c = false) := by
        rw [show ((n + e : Nat) : Int) - ((n + k : Nat) : Int) = (e : Int) - k from by omega]
      simp only [e2]
      split
      · rfl
      · rw [h.kidw_sub hs hms he hme f (k + (sz L (n + k)).toNat) (c + 1) (by omega) (by rw [← Nat.add_assoc]; exact hc.snoc hg.1), Nat.add_assoc]

theorem tree_sub {nm ty : ByteArray → Bool} {L : List Nd} (h : treeS nm ty L = true) {n : Nat} (hn : n < L.length) (hr : n = 0 ∨ isExpr (nd L n).kind = true) : treeS nm ty (subL L n (sz L n).toNat) = true := by
  have hT := tr_of h
  obtain ⟨h0, h1⟩ := tree_parts h
  obtain ⟨g1, g2⟩ := hT.good n hn
  have hs : n + (sz L n).toNat ≤ L.length := by omega
  unfold treeS
  rw [Bool.and_eq_true, List.all_eq_true]
  rw [subL_len hs]
  refine ⟨?_, fun m hm => ?_⟩
  · unfold headS
    rw [subL_len hs]
    have h00 : 0 < (sz L n).toNat := by omega
    have hz : sz (subL L n (sz L n).toNat) 0 = sz L n := by show (nd _ 0).size = _; rw [nd_sub h00]; rfl
    rw [hz, nd_sub h00, Nat.add_zero]
    unfold headS at h0
    simp only [Bool.and_eq_true, decide_eq_true_eq, beq_iff_eq, Bool.or_eq_true] at h0 ⊢
    refine ⟨⟨by omega, by omega⟩, ?_⟩
    rcases hr with rfl | hr
    · exact h0.2
    · exact .inr hr
  · rw [List.mem_range] at hm
    have hf := h1 (n + m) (by omega)
    obtain ⟨q1, q2⟩ := hT.good (n + m) (by omega)
    have hne := hT.nest m n (n + m) (by omega) hn (by omega) (by omega)
    unfold fit kidsS at hf ⊢
    have hz : sz (subL L n (sz L n).toNat) m = sz L (n + m) := by unfold sz; rw [nd_sub hm]
    rw [nd_sub hm, subL_len hs]
    have he : endOf (subL L n (sz L n).toNat) m = m + (sz L (n + m)).toNat := by unfold endOf; rw [hz]
    have hk := hT.kidw_sub hs hm (e := m + (sz L (n + m)).toNat) (by omega) (by omega) ((sz L n).toNat + 1) (m + 1) 0 (by omega) (.here _)
    rw [he, hk, kidw_fuel L (n + m) (n + (m + (sz L (n + m)).toNat)) ((sz L n).toNat + 1) (L.length + 1) (n + (m + 1)) 0 (by omega) (by omega)]
    unfold endOf at hf
    rw [← Nat.add_assoc, ← Nat.add_assoc]
    exact hf

end Go.Proofs.YtekgnogjfggnmaaDoor
