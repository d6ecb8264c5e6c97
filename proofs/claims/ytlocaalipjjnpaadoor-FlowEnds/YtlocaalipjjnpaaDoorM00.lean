namespace Go.Proofs.YtlocaalipjjnpaaDoor

/-! Trees, over lists: which lists of nodes are trees. -/

structure Nd where
  kind : Int
  pos : Int
  name : ByteArray
  label : ByteArray
  typ : ByteArray
  op : Int
  int : Int
  text : ByteArray
  size : Int
deriving DecidableEq

instance : Inhabited Nd := ⟨⟨0, 0, ⟨#[]⟩, ⟨#[]⟩, ⟨#[]⟩, 0, 0, ⟨#[]⟩, 0⟩⟩

structure Shp where
  label : Int
  name : Int
  typ : Int
  leastInt : Int
  mostInt : Int
  firstOp : Int
  lastOp : Int
  longest : Int
  fewest : Int
  most : Int

def nilShp : Shp := ⟨0, 0, 0, 0, 0, 0, 0, 0, 0, 0⟩

/-- What a kind's fields and kids may be. -/
def shp (k : Int) : Shp × Bool :=
  if k = 1 ∨ k = 4 then ({ nilShp with most := 9223372036854775807 }, true)
  else if k = 2 then ({ nilShp with name := 2, typ := 1, fewest := 1, most := 9 }, true)
  else if k = 3 then ({ nilShp with name := 2, typ := 2 }, true)
  else if k = 5 then ({ nilShp with name := 2, typ := 2, fewest := 1, most := 1 }, true)
  else if k = 6 ∨ k = 24 then ({ nilShp with fewest := 2, most := 2 }, true)
  else if k = 7 then ({ nilShp with fewest := 2, most := 3 }, true)
  else if k = 8 then ({ nilShp with label := 1, fewest := 2, most := 2 }, true)
  else if k = 9 then ({ nilShp with label := 1, name := 2, fewest := 3, most := 3 }, true)
  else if k = 10 ∨ k = 11 then ({ nilShp with label := 1 }, true)
  else if k = 12 then ({ nilShp with mostInt := 40000, most := 1 }, true)
  else if k = 13 then ({ nilShp with fewest := 1, most := 16 }, true)
  else if k = 14 ∨ k = 15 ∨ k = 29 ∨ k = 30 then ({ nilShp with fewest := 1, most := 1 }, true)
  else if k = 16 then ({ nilShp with leastInt := 1, mostInt := 40000, name := 1 }, true)
  else if k = 20 then ({ nilShp with mostInt := 9223372036854775807 }, true)
  else if k = 21 then ({ nilShp with mostInt := 1 }, true)
  else if k = 22 then ({ nilShp with longest := 200 }, true)
  else if k = 23 then ({ nilShp with name := 2 }, true)
  else if k = 25 then ({ nilShp with name := 2, most := 9223372036854775807 }, true)
  else if k = 26 then ({ nilShp with firstOp := 1, lastOp := 2, fewest := 1, most := 1 }, true)
  else if k = 27 then ({ nilShp with firstOp := 3, lastOp := 15, fewest := 2, most := 2 }, true)
  else if k = 28 then ({ nilShp with typ := 2, fewest := 1, most := 1 }, true)
  else (nilShp, false)

abbrev nd (L : List Nd) (k : Nat) : Nd := L.getD k default
abbrev sz (L : List Nd) (k : Nat) : Int := (nd L k).size

def isExpr (k : Int) : Bool := decide (20 ≤ k) && decide (k ≤ 30)
def isStmt (k : Int) : Bool := k == 4 || (decide (5 ≤ k) && decide (k ≤ 16))

/-- Is there a name behind the run of index nodes at n? -/
def plc : List Nd → Bool
  | [] => false
  | x :: r => if x.kind = 24 then plc r else x.kind == 23
def place (L : List Nd) (n : Nat) : Bool := plc (L.drop n)

/-- May k be the kid of n with so many ahead? -/
def may (L : List Nd) (n k c : Nat) : Bool :=
  let q := (nd L k).kind
  let p := (nd L n).kind
  if p = 1 then q == 2
  else if p = 2 then (if (k : Int) + sz L k < (n : Int) + sz L n then q == 3 else q == 4)
  else if p = 4 then isStmt q
  else if p = 6 ∧ c = 0 then place L k
  else if p = 14 then place L k
  else if p = 15 then q == 25
  else if p = 7 ∧ 0 < c then q == 4 || (c == 2 && q == 7)
  else if p = 8 ∧ c = 1 then q == 4
  else if p = 9 ∧ c = 2 then q == 4
  else isExpr q

/-- The kids of n from k on, c ahead of them, n's subtree ending at e: how many there are in all, if all may be. -/
def kidw (L : List Nd) (n e : Nat) : Nat → Nat → Nat → Option Nat
  | 0, _, c => some c
  | f + 1, k, c =>
    if e ≤ k then some c
    else if sz L k < 1 ∨ (e : Int) - k < sz L k ∨ may L n k c = false then none
    else kidw L n e f (k + (sz L k).toNat) (c + 1)

end Go.Proofs.YtlocaalipjjnpaaDoor

namespace Go.Proofs.YtlocaalipjjnpaaDoor


/-- A field that is never, perhaps or always filled. -/
def fitsS (w : Int) (t : ByteArray) (good : ByteArray → Bool) : Bool := if t.size = 0 then w != 2 else (w != 0 && good t)

/-- Are the fields as the kind's shape says? nm, ty: what names and types are. -/
def fieldsS (nm ty : ByteArray → Bool) (s : Shp) (x : Nd) : Bool :=
  decide (0 ≤ x.pos) && fitsS s.label x.label nm && fitsS s.name x.name nm && fitsS s.typ x.typ ty &&
    decide (s.leastInt ≤ x.int) && decide (x.int ≤ s.mostInt) && decide (s.firstOp ≤ x.op) && decide (x.op ≤ s.lastOp) && decide ((x.text.size : Int) ≤ s.longest)

def endOf (L : List Nd) (n : Nat) : Nat := n + (sz L n).toNat

def kidsS (L : List Nd) (s : Shp) (n : Nat) : Bool :=
  match kidw L n (endOf L n) (L.length + 1) (n + 1) 0 with
  | none => false
  | some c => decide (s.fewest ≤ (c : Int)) && decide ((c : Int) ≤ s.most)

def fit (nm ty : ByteArray → Bool) (L : List Nd) (n : Nat) : Bool :=
  (shp (nd L n).kind).2 && fieldsS nm ty (shp (nd L n).kind).1 (nd L n) && kidsS L (shp (nd L n).kind).1 n

def headS (L : List Nd) : Bool := decide (0 < L.length) && sz L 0 == (L.length : Int) && ((nd L 0).kind == 1 || isExpr (nd L 0).kind)

def treeS (nm ty : ByteArray → Bool) (L : List Nd) : Bool := headS L && (List.range L.length).all (fit nm ty L)

/-- A node's size keeps within the list. -/
def Good (L : List Nd) (n : Nat) : Prop := 1 ≤ sz L n ∧ (n : Int) + sz L n ≤ (L.length : Int)

theorem kw_at (L : List Nd) (n e : Nat) : ∀ (f k c : Nat), kidw L n e f k c ≠ none → e ≤ k + f → ∀ x, k ≤ x → x < e →
    ∃ κ, k ≤ κ ∧ κ ≤ x ∧ (x : Int) < κ + sz L κ ∧ 1 ≤ sz L κ ∧ (κ : Int) + sz L κ ≤ e
  | 0, k, c, _, hf, x, h1, h2 => by omega
  | f + 1, k, c, h, hf, x, h1, h2 => by
    unfold kidw at h
    rw [if_neg (by omega)] at h
    split at h
    · exact absurd rfl h
    · rename_i hc
      have hc1 : ¬ sz L k < 1 := fun q => hc (.inl q)
      have hc2 : ¬ (e : Int) - k < sz L k := fun q => hc (.inr (.inl q))
      by_cases hx : (x : Int) < k + sz L k
      · exact ⟨k, Nat.le_refl _, h1, hx, by omega, by omega⟩
      · obtain ⟨κ, a, b, c', d, g⟩ := kw_at L n e f _ _ h (by omega) x (by omega) h2
        exact ⟨κ, by omega, b, c', d, g⟩

theorem fit_kids {nm ty : ByteArray → Bool} {L : List Nd} {n : Nat} (h : fit nm ty L n = true) : kidw L n (endOf L n) (L.length + 1) (n + 1) 0 ≠ none := by
  unfold fit kidsS at h
  intro e
  rw [e] at h
  simp at h

theorem good_next {nm ty : ByteArray → Bool} {L : List Nd} {n : Nat} (hn : ∀ m, m < n → fit nm ty L m = true) : ∀ (d p : Nat), n - p ≤ d → p < n → Good L p → (n : Int) < p + sz L p → Good L n
  | 0, p, hd, hp, _, _ => by omega
  | d + 1, p, hd, hp, hg, hlt => by
    have he : (endOf L p : Int) = p + sz L p := by unfold endOf; have := hg.1; omega
    have := hg.2
    obtain ⟨κ, a, b, c, e, g⟩ := kw_at L p (endOf L p) (L.length + 1) (p + 1) 0 (fit_kids (hn p hp)) (by omega) n (by omega) (by omega)
    by_cases hk : κ = n
    · subst hk; exact ⟨e, by omega⟩
    · exact good_next hn d κ (by omega) (by omega) ⟨e, by omega⟩ c

theorem good_of {nm ty : ByteArray → Bool} {L : List Nd} {n : Nat} (h0 : headS L = true) (hn : ∀ m, m < n → fit nm ty L m = true) (hl : n < L.length) : Good L n := by
  unfold headS at h0
  simp only [Bool.and_eq_true, decide_eq_true_eq, beq_iff_eq] at h0
  have hg : Good L 0 := ⟨by omega, by omega⟩
  by_cases h : n = 0
  · subst h; exact hg
  · exact good_next hn n 0 (by omega) (by omega) hg (by omega)

/-! Other places make no difference. -/
def mv (L : List Nd) (n : Nat) (a : Int) : List Nd := L.modify n fun x => { x with pos := a }

theorem nd_mv (L : List Nd) (n k : Nat) (a : Int) (hn : n < L.length) : nd (mv L n a) k = if k = n then { nd L k with pos := a } else nd L k := by
  unfold nd mv
  rw [List.getD_eq_getElem?_getD, List.getElem?_modify]
  by_cases h : n = k
  · subst h
    rw [List.getD_eq_getElem?_getD, List.getElem?_eq_getElem hn]
    simp
  · rw [if_neg (Ne.symm h), List.getD_eq_getElem?_getD]
    simp [h]

theorem sz_mv (L : List Nd) (n k : Nat) (a : Int) (hn : n < L.length) : sz (mv L n a) k = sz L k := by
  unfold sz; rw [nd_mv L n k a hn]; split <;> rfl
theorem kind_mv (L : List Nd) (n k : Nat) (a : Int) (hn : n < L.length) : (nd (mv L n a) k).kind = (nd L k).kind := by
  rw [nd_mv L n k a hn]; split <;> rfl

theorem plc_kinds : ∀ (A B : List Nd), A.map (·.kind) = B.map (·.kind) → plc A = plc B
  | [], [], _ => rfl
  | [], _ :: _, h => by simp at h
  | _ :: _, [], h => by simp at h
  | x :: A, y :: B, h => by
    simp only [List.map_cons, List.cons.injEq] at h
    unfold plc
    rw [h.1, plc_kinds A B h.2]

theorem kinds_mv (L : List Nd) (n : Nat) (a : Int) : (mv L n a).map (·.kind) = L.map (·.kind) := by
  unfold mv
  apply List.ext_getElem?
  intro i
  simp only [List.getElem?_map, List.getElem?_modify]
  cases L[i]? with
  | none => rfl
  | some x => simp only [Option.map_some]; split <;> rfl

theorem place_mv (L : List Nd) (n k : Nat) (a : Int) : place (mv L n a) k = place L k := by
  unfold place
  apply plc_kinds
  rw [List.map_drop, List.map_drop, kinds_mv]

theorem may_mv (L : List Nd) (n p k c : Nat) (a : Int) (hn : n < L.length) : may (mv L n a) p k c = may L p k c := by
  unfold may
  simp only [kind_mv L n _ a hn, sz_mv L n _ a hn, place_mv]

theorem kw_mv (L : List Nd) (n p e : Nat) (a : Int) (hn : n < L.length) : ∀ f k c, kidw (mv L n a) p e f k c = kidw L p e f k c
  | 0, _, _ => rfl
  | f + 1, k, c => by
    unfold kidw
    rw [sz_mv L n _ a hn, may_mv L n _ _ _ a hn, kw_mv L n p e a hn f]

theorem len_mv (L : List Nd) (n : Nat) (a : Int) : (mv L n a).length = L.length := by unfold mv; simp

theorem fields_mv (nm ty : ByteArray → Bool) (s : Shp) (x : Nd) (a : Int) (h0 : 0 ≤ x.pos) (ha : 0 ≤ a) : fieldsS nm ty s { x with pos := a } = fieldsS nm ty s x := by
  unfold fieldsS
  simp [h0, ha]

theorem tree_mv (nm ty : ByteArray → Bool) (L : List Nd) (n : Nat) (a : Int) (hn : n < L.length) (ha : 0 ≤ a) (h : treeS nm ty L = true) : treeS nm ty (mv L n a) = true := by
  unfold treeS at h ⊢
  simp only [Bool.and_eq_true, List.all_eq_true, List.mem_range] at h ⊢
  refine ⟨?_, fun k hk => ?_⟩
  · have := h.1
    unfold headS at this ⊢
    rw [len_mv, sz_mv L n _ a hn, kind_mv L n _ a hn]
    exact this
  · rw [len_mv] at hk
    have hf := h.2 k hk
    unfold fit kidsS endOf at hf ⊢
    rw [kind_mv L n _ a hn, sz_mv L n _ a hn, len_mv, kw_mv L n _ _ a hn, nd_mv L n _ a hn]
    split
    · rename_i e
      rw [fields_mv _ _ _ _ _ ?_ ha]
      · exact hf
      · simp only [Bool.and_eq_true] at hf
        have := hf.1.2
        unfold fieldsS at this
        simp only [Bool.and_eq_true, decide_eq_true_eq] at this
        exact this.1.1.1.1.1.1.1.1
    · exact hf

end Go.Proofs.YtlocaalipjjnpaaDoor

namespace Go.Proofs.YtlocaalipjjnpaaDoor

/-! Ways within a tree. -/

/-- A list all of whose nodes fit. -/
structure Tr (L : List Nd) : Prop where
  pos : 0 < L.length
  root : sz L 0 = (L.length : Int)
  kids : ∀ n, n < L.length → kidw L n (endOf L n) (L.length + 1) (n + 1) 0 ≠ none
  idx : ∀ n, n < L.length → (nd L n).kind = 24 → kidw L n (endOf L n) (L.length + 1) (n + 1) 0 = some 2
  good : ∀ n, n < L.length → Good L n

theorem tree_parts {nm ty : ByteArray → Bool} {L : List Nd} (h : treeS nm ty L = true) : headS L = true ∧ ∀ n, n < L.length → fit nm ty L n = true := by
  unfold treeS at h
  simpa only [Bool.and_eq_true, List.all_eq_true, List.mem_range] using h

theorem tr_of {nm ty : ByteArray → Bool} {L : List Nd} (h : treeS nm ty L = true) : Tr L := by
  obtain ⟨h0, h1⟩ := tree_parts h
  have hh := h0
  unfold headS at hh
  simp only [Bool.and_eq_true, decide_eq_true_eq, beq_iff_eq] at hh
  refine ⟨hh.1.1, hh.1.2, fun n hn => fit_kids (h1 n hn), fun n hn hk => ?_, fun n hn => good_of h0 (fun m hm => h1 m (by omega)) hn⟩
  have hf := h1 n hn
  unfold fit kidsS at hf
  rw [hk] at hf
  have hs : shp 24 = ({ nilShp with fewest := 2, most := 2 }, true) := by rfl
  rw [hs] at hf
  simp only [Bool.and_eq_true] at hf
  have h3 := hf.2
  split at h3
  · simp at h3
  · rename_i c hc
    simp only [Bool.and_eq_true, decide_eq_true_eq] at h3
    rw [hc]
    congr 1
    omega

/-- κ is met when one goes from k on, subtree by subtree. -/
inductive Ch (L : List Nd) : Nat → Nat → Prop
  | here (k : Nat) : Ch L k k
  | next {k κ : Nat} (h1 : 1 ≤ sz L k) (h : Ch L (k + (sz L k).toNat) κ) : Ch L k κ

theorem Ch.le {L : List Nd} {k κ : Nat} (h : Ch L k κ) : k ≤ κ := by
  induction h with
  | here => exact Nat.le_refl _
  | next h1 _ ih => omega

theorem Ch.snoc {L : List Nd} {k κ : Nat} (h : Ch L k κ) (h1 : 1 ≤ sz L κ) : Ch L k (κ + (sz L κ).toNat) := by
  induction h with
  | here => exact .next h1 (.here _)
  | next h2 _ ih => exact .next h2 (ih h1)

theorem Ch.cover {L : List Nd} {k κ : Nat} (h : Ch L k κ) : ∀ m, k ≤ m → m < κ → ∃ q, k ≤ q ∧ q ≤ m ∧ (m : Int) < q + sz L q ∧ (q : Int) + sz L q ≤ κ := by
  induction h with
  | here => intro m h1 h2; omega
  | @next k κ h1 h ih =>
    intro m hm hk
    by_cases hq : (m : Int) < k + sz L k
    · exact ⟨k, Nat.le_refl _, hm, hq, by have := h.le; omega⟩
    · obtain ⟨q, a, b, c, d⟩ := ih m (by omega) hk
      exact ⟨q, by omega, b, c, d⟩

theorem Tr.nest {L : List Nd} (h : Tr L) : ∀ (d q m : Nat), m - q ≤ d → q < L.length → q ≤ m → (m : Int) < q + sz L q → (m : Int) + sz L m ≤ q + sz L q
  | 0, q, m, hd, _, h1, _ => by obtain rfl : m = q := by omega
                                exact Int.le_refl _
  | d + 1, q, m, hd, hq, h1, h2 => by
    by_cases e : m = q
    · subst e; exact Int.le_refl _
    · obtain ⟨g1, g2⟩ := h.good q hq
      have he : (endOf L q : Int) = q + sz L q := by unfold endOf; omega
      obtain ⟨κ, a, b, c, e', g⟩ := kw_at L q (endOf L q) (L.length + 1) (q + 1) 0 (h.kids q hq) (by omega) m (by omega) (by omega)
      have := h.nest d κ m (by omega) (by omega) b c
      omega

/-- κ is a kid of n. -/
structure Kid (L : List Nd) (n κ : Nat) : Prop where
  ch : Ch L (n + 1) κ
  lt : (κ : Int) < n + sz L n

/-- The nearest one ahead whose subtree reaches n. -/
def par (L : List Nd) (n : Nat) : Nat → Int
  | 0 => -1
  | p + 1 => if (p : Int) + sz L p ≤ n then par L n p else (p : Int)

theorem par_at {L : List Nd} {n p : Nat} (hp : (n : Int) < p + sz L p) : ∀ (q : Nat), p < q → (∀ m, p < m → m < q → (m : Int) + sz L m ≤ n) → par L n q = p
  | 0, h, _ => by omega
  | q + 1, h, hm => by
    unfold par
    by_cases e : p = q
    · subst e; rw [if_neg (by omega)]
    · rw [if_pos (hm q (by omega) (by omega))]
      exact par_at hp q (by omega) (fun m h1 h2 => hm m h1 (by omega))

theorem Kid.par {L : List Nd} {n κ : Nat} (hT : Tr L) (hn : n < L.length) (h : Kid L n κ) : par L κ κ = n := by
  obtain ⟨g1, g2⟩ := hT.good n hn
  refine par_at h.lt κ (by have := h.ch.le; omega) (fun m h1 h2 => ?_)
  obtain ⟨q, a, b, c, d⟩ := h.ch.cover m (by omega) h2
  have := hT.nest (m - q) q m (Nat.le_refl _) (by have := h.lt; omega) b c
  omega

/-- The kids, and where they end. -/
def kidL (L : List Nd) (e : Nat) : Nat → Nat → List Nat
  | 0, _ => []
  | f + 1, k => if e ≤ k then [] else k :: kidL L e f (k + (sz L k).toNat)

theorem kidw_sizes (L : List Nd) (n e : Nat) : ∀ (f k c : Nat), kidw L n e f k c ≠ none → e ≤ k + f → k ≤ e → ∀ κ, Ch L k κ → κ < e → 1 ≤ sz L κ ∧ (κ : Int) + sz L κ ≤ e
  | 0, k, c, _, hf, _, κ, hc, hl => by have := hc.le; omega
  | f + 1, k, c, h, hf, hke, κ, hc, hl => by
    unfold kidw at h
    have := hc.le
    rw [if_neg (by omega)] at h
    split at h
    · exact absurd rfl h
    · rename_i q
      have q1 : ¬ sz L k < 1 := fun z => q (.inl z)
      have q2 : ¬ (e : Int) - k < sz L k := fun z => q (.inr (.inl z))
      cases hc with
      | here => exact ⟨by omega, by omega⟩
      | next _ hc => exact kidw_sizes L n e f _ _ h (by omega) (by omega) κ hc hl

theorem Tr.kid_good {L : List Nd} (h : Tr L) {n κ : Nat} (hn : n < L.length) (hk : Kid L n κ) : 1 ≤ sz L κ ∧ (κ : Int) + sz L κ ≤ n + sz L n := by
  obtain ⟨g1, g2⟩ := h.good n hn
  have he : (endOf L n : Int) = n + sz L n := by unfold endOf; omega
  have := kidw_sizes L n (endOf L n) (L.length + 1) (n + 1) 0 (h.kids n hn) (by omega) (by omega) κ hk.ch (by have := hk.lt; omega)
  omega

/-- The kid on the way to m. -/
theorem Tr.way {L : List Nd} (h : Tr L) {n m : Nat} (hn : n < L.length) (h1 : n < m) (h2 : (m : Int) < n + sz L n) : ∃ κ, Kid L n κ ∧ κ ≤ m ∧ (m : Int) < κ + sz L κ := by
  obtain ⟨g1, g2⟩ := h.good n hn
  have he : (endOf L n : Int) = n + sz L n := by unfold endOf; omega
  have key : ∀ (d k : Nat), m - k ≤ d → Ch L (n + 1) k → k ≤ m → ∃ κ, Kid L n κ ∧ κ ≤ m ∧ (m : Int) < κ + sz L κ := by
    intro d
    induction d with
    | zero => intro k hd hc hk
              have : k = m := by omega
              subst this
              have hK : Kid L n k := ⟨hc, by omega⟩
              have := h.kid_good hn hK
              exact ⟨k, hK, hk, by omega⟩
    | succ d ih =>
      intro k hd hc hk
      have hK : Kid L n k := ⟨hc, by omega⟩
      have := h.kid_good hn hK
      by_cases q : (m : Int) < k + sz L k
      · exact ⟨k, hK, hk, q⟩
      · exact ih (k + (sz L k).toNat) (by omega) (hc.snoc this.1) (by omega)
  exact key (m - (n + 1)) (n + 1) (Nat.le_refl _) (.here _) (by omega)

/-! The subtree of an expression is a tree. -/

def subL (L : List Nd) (n s : Nat) : List Nd := (L.drop n).take s
theorem subL_len {L : List Nd} {n s : Nat} (h : n + s ≤ L.length) : (subL L n s).length = s := by unfold subL; simp; omega
theorem nd_sub {L : List Nd} {n s m : Nat} (h : m < s) : nd (subL L n s) m = nd L (n + m) := by
  unfold nd subL
  rw [List.getD_eq_getElem?_getD, List.getD_eq_getElem?_getD, List.getElem?_take_of_lt h, List.getElem?_drop]

theorem kidw_fuel (L : List Nd) (n e : Nat) : ∀ (f f' k c : Nat), e ≤ k + f → e ≤ k + f' → kidw L n e f k c = kidw L n e f' k c
  | 0, 0, _, _, _, _ => rfl
  | 0, f' + 1, k, c, h1, h2 => by unfold kidw; rw [if_pos (by omega)]
  | f + 1, 0, k, c, h1, h2 => by unfold kidw; rw [if_pos (by omega)]
  | f + 1, f' + 1, k, c, h1, h2 => by
    unfold kidw
    split
    · rfl
    · split
      · rfl
      · rename_i q
        have q1 : ¬ sz L k < 1 := fun z => q (.inl z)
        exact kidw_fuel L n e f f' _ _ (by omega) (by omega)

theorem plc_run : ∀ (A : List Nd) (j : Nat), j < A.length → (∀ i, i < j → (nd A i).kind = 24) → (nd A j).kind ≠ 24 → plc A = ((nd A j).kind == 23)
  | [], j, h, _, _ => by simp at h
  | x :: A, 0, _, _, h => by
    unfold plc
    rw [if_neg (by simpa [nd] using h)]
    simp [nd]
  | x :: A, j + 1, hj, hi, h => by
    have h0 : x.kind = 24 := by have := hi 0 (by omega); simpa [nd] using this
    unfold plc
    rw [if_pos h0, plc_run A j (by simpa using hj) (fun i hi' => by have := hi (i + 1) (by omega); simpa [nd] using this) (by simpa [nd] using h)]
    simp [nd]

theorem Tr.run {L : List Nd} (h : Tr L) : ∀ (d k : Nat), L.length - k ≤ d → k < L.length → ∃ j, k ≤ j ∧ (j : Int) < k + sz L k ∧ (∀ i, k ≤ i → i < j → (nd L i).kind = 24) ∧ (nd L j).kind ≠ 24
  | 0, k, h1, h2 => by omega
  | d + 1, k, h1, h2 => by
    obtain ⟨g1, g2⟩ := h.good k h2
    by_cases hk : (nd L k).kind = 24
    · have hi := h.idx k h2 hk
      have he : (endOf L k : Int) = k + sz L k := by unfold endOf; omega
      have hlt : ¬ endOf L k ≤ k + 1 := by
        intro q
        rw [kidw_fuel L k _ (L.length + 1) 0 (k + 1) 0 (by omega) (by omega)] at hi
        simp [kidw] at hi
      have hK : Kid L k (k + 1) := ⟨.here _, by omega⟩
      have hg := h.kid_good h2 hK
      obtain ⟨j, a, b, c, e⟩ := h.run d (k + 1) (by omega) (by omega)
      refine ⟨j, by omega, by omega, fun i h3 h4 => ?_, e⟩
      by_cases q : i = k
      · subst q; exact hk
      · exact c i (by omega) h4
    · exact ⟨k, Nat.le_refl _, by omega, fun i h3 h4 => by omega, hk⟩

theorem nd_drop (L : List Nd) (k i : Nat) : nd (L.drop k) i = nd L (k + i) := by
  unfold nd
  rw [List.getD_eq_getElem?_getD, List.getD_eq_getElem?_getD, List.getElem?_drop]

theorem Tr.place_sub {L : List Nd} (h : Tr L) {n s m : Nat} (hs : n + s ≤ L.length) (hm : ((n + m : Nat) : Int) + sz L (n + m) ≤ ((n + s : Nat) : Int)) (hms : m < s) : place (subL L n s) m = place L (n + m) := by
  obtain ⟨j, a, b, c, e⟩ := h.run (L.length - (n + m)) (n + m) (Nat.le_refl _) (by omega)
  unfold place
  rw [plc_run (L.drop (n + m)) (j - (n + m)) (by simp; omega) (fun i hi => by rw [nd_drop]; exact c _ (by omega) (by omega)) (by rw [nd_drop, show n + m + (j - (n + m)) = j from by omega]; exact e),
    plc_run ((subL L n s).drop m) (j - (n + m)) (by simp [subL_len hs]; omega) (fun i hi => by rw [nd_drop, nd_sub (by omega)]; exact c _ (by omega) (by omega)) (by rw [nd_drop, nd_sub (by omega), show n + (m + (j - (n + m))) = j from by omega]; exact e)]
  rw [nd_drop, nd_drop, nd_sub (by omega)]
  congr 3
  omega

theorem Tr.kidw_sub {L : List Nd} (h : Tr L) {n s m : Nat} (hs : n + s ≤ L.length) (hms : m < s) {e : Nat} (he : e ≤ s) (hme : ((n + e : Nat) : Int) = ((n + m : Nat) : Int) + sz L (n + m)) :
    ∀ (f k c : Nat), m < k → Ch L (n + m + 1) (n + k) → kidw (subL L n s) m e f k c = kidw L (n + m) (n + e) f (n + k) c
  | 0, _, _, _, _ => rfl
  | f + 1, k, c, hk, hc => by
    unfold kidw
    by_cases hek : e ≤ k
    · rw [if_pos hek, if_pos (show n + e ≤ n + k by omega)]
    · rw [if_neg hek, if_neg (show ¬ n + e ≤ n + k by omega)]
      have hK : Kid L (n + m) (n + k) := ⟨hc, by omega⟩
      have hg := h.kid_good (by omega) hK
      have hks : k < s := by omega
      have hz : sz (subL L n s) k = sz L (n + k) := by unfold sz; rw [nd_sub hks]
      have hmay : may (subL L n s) m k c = may L (n + m) (n + k) c := by
        unfold may
        have hz2 : sz (subL L n s) m = sz L (n + m) := by unfold sz; rw [nd_sub hms]
        rw [h.place_sub hs (by omega) hks, hz, hz2, nd_sub hks, nd_sub hms]
        have e1 : ((k : Int) + sz L (n + k) < (m : Int) + sz L (n + m)) ↔ (((n + k : Nat) : Int) + sz L (n + k) < ((n + m : Nat) : Int) + sz L (n + m)) := by omega
        simp only [e1]
      rw [hz, hmay]
      have e2 : (sz L (n + k) < 1 ∨ (e : Int) - k < sz L (n + k) ∨ may L (n + m) (n + k) c = false) ↔ (sz L (n + k) < 1 ∨ ((n + e : Nat) : Int) - ((n + k : Nat) : Int) < sz L (n + k) ∨ may L (n + m) (n + k) c = false) := by
        rw [show ((n + e : Nat) : Int) - ((n + k : Nat) : Int) = (e : Int) - k from by omega]
      simp only [e2]
      split
      · rfl
      · rw [h.kidw_sub hs hms he hme f (k + (sz L (n + k)).toNat) (c + 1) (by omega) (by rw [← Nat.add_assoc]; exact hc.snoc hg.1), Nat.add_assoc]

theorem tree_sub {nm ty : ByteArray → Bool} {L : List Nd} (h : treeS nm ty L = true) {n : Nat} (hn : n < L.length) (hr : n = 0 ∨ isExpr (nd L n).kind = true) : treeS nm ty (subL L n (sz L n).toNat) = true := by
  have hT := tr_of h
  obtain ⟨h0, h1⟩ := tree_parts h
  obtain ⟨g1, g2⟩ := hT.good n hn
  have hs : n + (sz L n).toNat ≤ L.length := by omega
  unfold treeS
  rw [Bool.and_eq_true, List.all_eq_true]
  rw [subL_len hs]
  refine ⟨?_, fun m hm => ?_⟩
  · unfold headS
    rw [subL_len hs]
    have h00 : 0 < (sz L n).toNat := by omega
    have hz : sz (subL L n (sz L n).toNat) 0 = sz L n := by show (nd _ 0).size = _; rw [nd_sub h00]; rfl
    rw [hz, nd_sub h00, Nat.add_zero]
    unfold headS at h0
    simp only [Bool.and_eq_true, decide_eq_true_eq, beq_iff_eq, Bool.or_eq_true] at h0 ⊢
    refine ⟨⟨by omega, by omega⟩, ?_⟩
    rcases hr with rfl | hr
    · exact h0.2
    · exact .inr hr
  · rw [List.mem_range] at hm
    have hf := h1 (n + m) (by omega)
    obtain ⟨q1, q2⟩ := hT.good (n + m) (by omega)
    have hne := hT.nest m n (n + m) (by omega) hn (by omega) (by omega)
    unfold fit kidsS at hf ⊢
    have hz : sz (subL L n (sz L n).toNat) m = sz L (n + m) := by unfold sz; rw [nd_sub hm]
    rw [nd_sub hm, subL_len hs]
    have he : endOf (subL L n (sz L n).toNat) m = m + (sz L (n + m)).toNat := by unfold endOf; rw [hz]
    have hk := hT.kidw_sub hs hm (e := m + (sz L (n + m)).toNat) (by omega) (by omega) ((sz L n).toNat + 1) (m + 1) 0 (by omega) (.here _)
    rw [he, hk, kidw_fuel L (n + m) (n + (m + (sz L (n + m)).toNat)) ((sz L n).toNat + 1) (L.length + 1) (n + (m + 1)) 0 (by omega) (by omega)]
    unfold endOf at hf
    rw [← Nat.add_assoc, ← Nat.add_assoc]
    exact hf

end Go.Proofs.YtlocaalipjjnpaaDoor

namespace Go.Proofs.YtlocaalipjjnpaaDoor

/-! The ways through a program, over lists. -/
abbrev WT := Nat → Bool × Bool

def stm (L : List Nd) (e : Nat) : Nat → Nat → List Nat
  | 0, _ => []
  | f + 1, k => if e ≤ k then [] else if (nd L k).kind = 16 then stm L e f (k + (sz L k).toNat) else k :: stm L e f (k + (sz L k).toNat)
/-- The statements that count, from k up to e. -/
def stmS (L : List Nd) (k e : Nat) : List Nat := stm L e (e - k) k

theorem stm_fuel (L : List Nd) (e : Nat) (hg : ∀ x, x < e → 1 ≤ sz L x) : ∀ (f f' k : Nat), e - k ≤ f → e - k ≤ f' → stm L e f k = stm L e f' k
  | 0, 0, _, _, _ => rfl
  | 0, f' + 1, k, h, _ => by
    show [] = if e ≤ k then [] else _
    rw [if_pos (by omega)]
  | f + 1, 0, k, _, h => by
    show (if e ≤ k then [] else _) = []
    rw [if_pos (by omega)]
  | f + 1, f' + 1, k, h, h' => by
    show (if e ≤ k then [] else _) = (if e ≤ k then [] else _)
    by_cases h1 : e ≤ k
    · rw [if_pos h1, if_pos h1]
    · have := hg k (by omega)
      rw [if_neg h1, if_neg h1, stm_fuel L e hg f f' (k + (sz L k).toNat) (by omega) (by omega)]
theorem stm_end (L : List Nd) (k e : Nat) (h : e ≤ k) : stmS L k e = [] := by
  unfold stmS
  rw [show e - k = 0 by omega]
  rfl
theorem stm_go (L : List Nd) (k e : Nat) (hg : ∀ x, x < e → 1 ≤ sz L x) (h : k < e) : stmS L k e = if (nd L k).kind = 16 then stmS L (k + (sz L k).toNat) e else k :: stmS L (k + (sz L k).toNat) e := by
  unfold stmS
  have := hg k h
  obtain ⟨f, hf⟩ : ∃ f, e - k = f + 1 := ⟨e - k - 1, by omega⟩
  rw [hf]
  show (if e ≤ k then [] else _) = _
  rw [if_neg (by omega), stm_fuel L e hg f (e - (k + (sz L k).toNat)) (k + (sz L k).toNat) (by omega) (by omega)]

def retL (T : WT) (K : List Nat) (b : Bool) : Bool := K.foldl (fun _ k => (T k).1) b
def endL (T : WT) (K : List Nat) : Bool := K.all fun k => (T k).2
/-- How a statement can be left, by what the table says of those within. -/
def wayAt (L : List Nd) (T : WT) (n : Nat) : Bool × Bool :=
  if (nd L n).kind = 12 then (true, false)
  else if (nd L n).kind = 10 ∨ (nd L n).kind = 11 then (false, false)
  else if (nd L n).kind = 4 then (retL T (stmS L (n + 1) (endOf L n)) false, endL T (stmS L (n + 1) (endOf L n)))
  else if (nd L n).kind = 7 then
    (if endOf L n ≤ endOf L (endOf L (n + 1)) then (false, true)
     else ((T (endOf L (n + 1))).1 && (T (endOf L (endOf L (n + 1)))).1, (T (endOf L (n + 1))).2 || (T (endOf L (endOf L (n + 1)))).2))
  else (false, decide (5 ≤ (nd L n).kind) && decide ((nd L n).kind ≤ 16))
/-- The table when the last d nodes are done. -/
def tbl (L : List Nd) : Nat → WT
  | 0 => fun _ => (false, false)
  | d + 1 => fun i => if i = L.length - (d + 1) then wayAt L (tbl L d) (L.length - (d + 1)) else tbl L d i

def bodyF (L : List Nd) : Nat → Nat → Nat
  | 0, k => k
  | f + 1, k => if (nd L k).kind = 3 then bodyF L f (k + 1) else k
def bodyOf (L : List Nd) (n : Nat) : Nat := bodyF L L.length (n + 1)

def hooked (x : Nd) : Bool := decide (x.kind = 16) || (decide (x.kind = 12) && !decide (x.int = 0))
def resAt (x : Nd) (res : ByteArray) : ByteArray := if x.kind = 2 then x.typ else res
def gives (L : List Nd) (T : WT) (n : Nat) (res : ByteArray) : Bool :=
  if (nd L n).kind = 2 then decide (res.size = 0) || (T (bodyOf L n)).1
  else if (nd L n).kind = 12 then (!decide (res.size = 0)) == decide (1 < sz L n)
  else true
def chk (L : List Nd) (T : WT) (hooks : Bool) : Nat → Nat → ByteArray → Int × Int
  | 0, _, _ => (0, 0)
  | f + 1, k, res =>
    if L.length ≤ k then (0, 0)
    else if !hooks && hooked (nd L k) then (81, (nd L k).pos)
    else if !gives L T k (resAt (nd L k) res) then (80, (nd L k).pos)
    else chk L T hooks f (k + 1) (resAt (nd L k) res)
def chkS (L : List Nd) (hooks : Bool) (k : Nat) (res : ByteArray) : Int × Int := chk L (tbl L L.length) hooks (L.length - k) k res

theorem chk_end (L : List Nd) (hooks : Bool) (res : ByteArray) : chkS L hooks L.length res = (0, 0) := by
  unfold chkS
  rw [Nat.sub_self]
  rfl
theorem chk_go (L : List Nd) (hooks : Bool) (k : Nat) (res : ByteArray) (h : k < L.length) : chkS L hooks k res =
    if !hooks && hooked (nd L k) then (81, (nd L k).pos) else if !gives L (tbl L L.length) k (resAt (nd L k) res) then (80, (nd L k).pos) else chkS L hooks (k + 1) (resAt (nd L k) res) := by
  unfold chkS
  obtain ⟨f, hf⟩ : ∃ f, L.length - k = f + 1 := ⟨L.length - k - 1, by omega⟩
  rw [hf]
  show (if L.length ≤ k then _ else _) = _
  rw [if_neg (by omega), show L.length - (k + 1) = f by omega]

def progS (nm ty : ByteArray → Bool) (L : List Nd) : Bool := treeS nm ty L && (nd L 0).kind == 1
def checkS (nm ty : ByteArray → Bool) (L : List Nd) (hooks : Bool) : Int × Int := if progS nm ty L then chkS L hooks 0 ⟨#[]⟩ else (30, 0)

/-- What a tree's nodes keep. -/
structure Wy (L : List Nd) : Prop where
  good : ∀ n, n < L.length → Good L n
  nest : ∀ n k, n < L.length → n < k → k < endOf L n → endOf L k ≤ endOf L n
  iff : ∀ n, n < L.length → (nd L n).kind = 7 → n + 1 < endOf L n ∧ endOf L (n + 1) < endOf L n
  fn : ∀ n, n < L.length → (nd L n).kind = 2 → n < bodyOf L n ∧ bodyOf L n < endOf L n ∧ (nd L (bodyOf L n)).kind = 4 ∧ endOf L (bodyOf L n) = endOf L n ∧ ∀ j, n < j → j < bodyOf L n → (nd L j).kind = 3 ∧ sz L j = 1

theorem kidw_ge (L : List Nd) (n e : Nat) : ∀ (f k c r : Nat), kidw L n e f k c = some r → c ≤ r
  | 0, k, c, r, h => by
    have : c = r := by simpa [kidw] using h
    omega
  | f + 1, k, c, r, h => by
    unfold kidw at h
    split at h
    · have : c = r := by simpa using h
      omega
    · split at h
      · cases h
      · have := kidw_ge L n e f _ _ r h
        omega

theorem kidw_one (L : List Nd) (n e f k c r : Nat) (h : kidw L n e (f + 1) k c = some r) (hk : k < e) : c + 1 ≤ r ∧ kidw L n e f (k + (sz L k).toNat) (c + 1) = some r ∧ 1 ≤ sz L k ∧ (k : Int) + sz L k ≤ e ∧ may L n k c = true := by
  unfold kidw at h
  rw [if_neg (by omega)] at h
  split at h
  · cases h
  · rename_i q
    refine ⟨kidw_ge L n e f _ _ r h, h, ?_, ?_, ?_⟩
    · have : ¬ sz L k < 1 := fun z => q (.inl z)
      omega
    · have : ¬ (e : Int) - k < sz L k := fun z => q (.inr (.inl z))
      omega
    · cases hm : may L n k c with
      | true => rfl
      | false => exact absurd (.inr (.inr hm)) q

theorem fit_count {nm ty : ByteArray → Bool} {L : List Nd} {n : Nat} (h : fit nm ty L n = true) : ∃ c : Nat, kidw L n (endOf L n) (L.length + 1) (n + 1) 0 = some c ∧ (shp (nd L n).kind).1.fewest ≤ (c : Int) ∧ (c : Int) ≤ (shp (nd L n).kind).1.most := by
  unfold fit kidsS at h
  simp only [Bool.and_eq_true] at h
  have h3 := h.2
  split at h3
  · cases h3
  · rename_i c hc
    simp only [Bool.and_eq_true, decide_eq_true_eq] at h3
    exact ⟨c, hc, h3.1, h3.2⟩

theorem body_go {L : List Nd} {n : Nat} (hk : (nd L n).kind = 2) (hg : (endOf L n : Int) = n + sz L n) (hp : ∀ j, n < j → j < endOf L n → (nd L j).kind = 3 → sz L j = 1) :
    ∀ (f f' k c r : Nat), kidw L n (endOf L n) f k c = some r → endOf L n ≤ k + f → endOf L n ≤ k + f' → n < k → k < endOf L n →
      k ≤ bodyF L f' k ∧ bodyF L f' k < endOf L n ∧ (nd L (bodyF L f' k)).kind = 4 ∧ endOf L (bodyF L f' k) = endOf L n ∧ ∀ j, k ≤ j → j < bodyF L f' k → (nd L j).kind = 3 ∧ sz L j = 1
  | 0, f', k, c, r, h, h1, _, _, h2 => by omega
  | f + 1, 0, k, c, r, h, _, h1, _, h2 => by omega
  | f + 1, f' + 1, k, c, r, h, h1, h1', hnk, h2 => by
    obtain ⟨_, hn, hs1, hs2, hm⟩ := kidw_one L n _ f k c r h h2
    unfold may at hm
    simp only [hk] at hm
    rw [if_neg (by omega), if_pos trivial] at hm
    by_cases hl : (k : Int) + sz L k < (n : Int) + sz L n
    · rw [if_pos hl] at hm
      have hk3 : (nd L k).kind = 3 := by simpa using hm
      have hz := hp k hnk h2 hk3
      have e1 : bodyF L (f' + 1) k = bodyF L f' (k + 1) := by
        show (if (nd L k).kind = 3 then _ else _) = _
        rw [if_pos hk3]
      rw [hz] at hn
      obtain ⟨a, b, c', d, e⟩ := body_go hk hg hp f f' (k + 1) (c + 1) r hn (by omega) (by omega) (by omega) (by omega)
      rw [e1]
      refine ⟨by omega, b, c', d, fun j h3 h4 => ?_⟩
      by_cases hj : j = k
      · subst hj; exact ⟨hk3, hz⟩
      · exact e j (by omega) h4
    · rw [if_neg hl] at hm
      have hk4 : (nd L k).kind = 4 := by simpa using hm
      have e1 : bodyF L (f' + 1) k = k := by
        show (if (nd L k).kind = 3 then _ else _) = _
        rw [if_neg (by omega)]
      rw [e1]
      refine ⟨by omega, h2, hk4, ?_, fun j h3 h4 => by omega⟩
      have he : (endOf L k : Int) = k + sz L k := by unfold endOf; omega
      omega

theorem wy_of {nm ty : ByteArray → Bool} {L : List Nd} (h : treeS nm ty L = true) : Wy L := by
  have hT := tr_of h
  obtain ⟨_, h1⟩ := tree_parts h
  have he : ∀ n, n < L.length → (endOf L n : Int) = n + sz L n := fun n hn => by
    have := (hT.good n hn).1
    unfold endOf
    omega
  have hle : ∀ n, n < L.length → endOf L n ≤ L.length := fun n hn => by
    have := (hT.good n hn).2
    have := he n hn
    omega
  have hp : ∀ j, j < L.length → (nd L j).kind = 3 → sz L j = 1 := fun j hj hk => by
    obtain ⟨c, hc, _, hm⟩ := fit_count (h1 j hj)
    rw [hk] at hm
    have hm0 : (shp 3).1.most = 0 := rfl
    rw [hm0] at hm
    have h3 := (hT.good j hj).1
    have h4 := he j hj
    by_cases hlt : j + 1 < endOf L j
    · have := (kidw_one L j _ _ _ _ _ hc hlt).1
      omega
    · omega
  refine ⟨hT.good, fun n k hn h2 h3 => ?_, fun n hn hk => ?_, fun n hn hk => ?_⟩
  · have a := he n hn
    have b := hle n hn
    have := hT.nest (k - n) n k (Nat.le_refl _) hn (by omega) (by omega)
    have := he k (by omega)
    omega
  · obtain ⟨c, hc, hm, _⟩ := fit_count (h1 n hn)
    rw [hk] at hm
    have hm0 : (shp 7).1.fewest = 2 := rfl
    rw [hm0] at hm
    have h3 := (hT.good n hn).1
    have h4 := he n hn
    have hlt : n + 1 < endOf L n := by
      rcases Nat.lt_or_ge (n + 1) (endOf L n) with hq | hq
      · exact hq
      · unfold kidw at hc
        rw [if_pos hq] at hc
        cases hc
        omega
    refine ⟨hlt, ?_⟩
    have h5 := hle n hn
    obtain ⟨_, hc2, hs1, hs2, _⟩ := kidw_one L n _ _ _ _ _ hc hlt
    rcases Nat.lt_or_ge (endOf L (n + 1)) (endOf L n) with hq | hq
    · exact hq
    · obtain ⟨q, hq'⟩ : ∃ q, L.length = q + 1 := ⟨L.length - 1, by omega⟩
      rw [hq'] at hc2
      unfold kidw at hc2
      rw [if_pos (by unfold endOf at hq ⊢; omega)] at hc2
      cases hc2
      omega
  · obtain ⟨c, hc, hm, _⟩ := fit_count (h1 n hn)
    rw [hk] at hm
    have hm0 : (shp 2).1.fewest = 1 := rfl
    rw [hm0] at hm
    have h5 := hle n hn
    have hlt : n + 1 < endOf L n := by
      rcases Nat.lt_or_ge (n + 1) (endOf L n) with hq | hq
      · exact hq
      · unfold kidw at hc
        rw [if_pos hq] at hc
        cases hc
        omega
    obtain ⟨a, b, c', d, e⟩ := body_go hk (he n hn) (fun j h2 h3 h4 => hp j (by omega) h4) (L.length + 1) L.length (n + 1) 0 c hc (by omega) (by omega) (by omega) hlt
    exact ⟨a, b, c', d, fun j h2 h3 => e j (by omega) h3⟩

end Go.Proofs.YtlocaalipjjnpaaDoor

namespace Go.Proofs.YtlocaalipjjnpaaDoor

/-! The statements that no way leads to, over lists. -/
/-- What stands behind the first that cannot end. -/
def cutD (T : WT) : List Nat → List Nat
  | [] => []
  | k :: r => if (T k).2 = true then cutD T r else r
/-- A block's own ones. -/
def blkD (L : List Nd) (T : WT) (n : Nat) : List Nat := if (nd L n).kind = 4 then cutD T (stmS L (n + 1) (endOf L n)) else []
/-- Those of the blocks below m, block by block. -/
def allD (L : List Nd) (T : WT) : Nat → List Nat
  | 0 => []
  | m + 1 => allD L T m ++ blkD L T m
def upd (D : Nat → Bool) (k : Nat) (b : Bool) : Nat → Bool := fun x => if x = k then b else D x
/-- The reference's row of marks, when the kids from k on have been met. -/
def ovr (L : List Nd) (T : WT) (e : Nat) : Nat → Nat → Bool → (Nat → Bool) → (Nat → Bool)
  | 0, _, _, D => D
  | f + 1, k, o, D => if e ≤ k then D else ovr L T e f (k + (sz L k).toNat) (o || !(T k).2) (upd D k (o && !decide ((nd L k).kind = 16)))
/-- The marks when the blocks below m are done. -/
def refD (L : List Nd) (T : WT) : Nat → (Nat → Bool)
  | 0 => fun _ => false
  | m + 1 => if (nd L m).kind = 4 then ovr L T (endOf L m) (endOf L m - (m + 1)) (m + 1) false (refD L T m) else refD L T m

theorem cutD_sub {T : WT} : ∀ {l : List Nat} {x : Nat}, x ∈ cutD T l → x ∈ l
  | [], _, h => h
  | k :: r, x, h => by
    unfold cutD at h
    split at h
    · exact List.mem_cons_of_mem _ (cutD_sub h)
    · exact List.mem_cons_of_mem _ h
theorem stm_ch {L : List Nd} {e : Nat} (hg : ∀ x, x < e → 1 ≤ sz L x) : ∀ (f k x : Nat), x ∈ stm L e f k → Ch L k x ∧ x < e ∧ (nd L x).kind ≠ 16
  | 0, _, _, h => by cases h
  | f + 1, k, x, h => by
    unfold stm at h
    by_cases h1 : e ≤ k
    · rw [if_pos h1] at h; cases h
    · rw [if_neg h1] at h
      have hs := hg k (by omega)
      by_cases h2 : (nd L k).kind = 16
      · rw [if_pos h2] at h
        obtain ⟨a, b, c⟩ := stm_ch hg f _ x h
        exact ⟨.next hs a, b, c⟩
      · rw [if_neg h2] at h
        rcases List.mem_cons.1 h with rfl | h
        · exact ⟨.here _, by omega, h2⟩
        · obtain ⟨a, b, c⟩ := stm_ch hg f _ x h
          exact ⟨.next hs a, b, c⟩
theorem ovr_spec {L : List Nd} {T : WT} {e : Nat} (hg : ∀ x, x < e → 1 ≤ sz L x) (hh : ∀ k, k < e → (nd L k).kind = 16 → (T k).2 = true) : ∀ (f k : Nat) (o : Bool) (D : Nat → Bool) (x : Nat), e - k ≤ f →
    ((∀ y, Ch L k y → y < e → y ≠ x) → ovr L T e f k o D x = D x) ∧ (Ch L k x → x < e → ovr L T e f k o D x = decide (x ∈ if o = true then stm L e f k else cutD T (stm L e f k)))
  | 0, k, o, D, x, hf => ⟨fun _ => rfl, fun h1 h2 => by have := h1.le; omega⟩
  | f + 1, k, o, D, x, hf => by
    by_cases h1 : e ≤ k
    · refine ⟨fun _ => ?_, fun h2 h3 => by have := h2.le; omega⟩
      unfold ovr
      rw [if_pos h1]
    have hs := hg k (by omega)
    obtain ⟨i1, i2⟩ := ovr_spec hg hh f (k + (sz L k).toNat) (o || !(T k).2) (upd D k (o && !decide ((nd L k).kind = 16))) x (by omega)
    have hov : ovr L T e (f + 1) k o D = ovr L T e f (k + (sz L k).toNat) (o || !(T k).2) (upd D k (o && !decide ((nd L k).kind = 16))) := by
      show (if e ≤ k then D else _) = _
      rw [if_neg h1]
    have hst : stm L e (f + 1) k = if (nd L k).kind = 16 then stm L e f (k + (sz L k).toNat) else k :: stm L e f (k + (sz L k).toNat) := by
      show (if e ≤ k then [] else _) = _
      rw [if_neg h1]
    have hnk : ∀ y, Ch L (k + (sz L k).toNat) y → k < y := fun y hy => by have := hy.le; omega
    have hnr : k ∉ stm L e f (k + (sz L k).toNat) := fun hm => by have := hnk _ (stm_ch hg f _ _ hm).1; omega
    rw [hov]
    refine ⟨fun hn => ?_, fun h2 h3 => ?_⟩
    · have hxk : x ≠ k := fun e1 => hn k (.here _) (by omega) e1.symm
      rw [i1 (fun y hy he => hn y (.next hs hy) he)]
      unfold upd
      rw [if_neg hxk]
    · by_cases hxk : x = k
      · subst hxk
        rw [i1 (fun y hy _ e1 => by have := hnk y hy; omega), hst]
        unfold upd
        rw [if_pos rfl]
        by_cases h16 : (nd L x).kind = 16
        · rw [if_pos h16, decide_eq_true h16]
          have : x ∉ (if o = true then stm L e f (x + (sz L x).toNat) else cutD T (stm L e f (x + (sz L x).toNat))) := by
            split
            · exact hnr
            · exact fun hm => hnr (cutD_sub hm)
          simp [this]
        · rw [if_neg h16, decide_eq_false h16]
          cases o with
          | true => simp
          | false =>
            have : x ∉ cutD T (x :: stm L e f (x + (sz L x).toNat)) := by
              unfold cutD
              split
              · exact fun hm => hnr (cutD_sub hm)
              · exact hnr
            simp [this]
      · have hch : Ch L (k + (sz L k).toNat) x := by
          cases h2 with
          | here => exact absurd rfl hxk
          | next _ h => exact h
        rw [i2 hch h3, hst]
        by_cases h16 : (nd L k).kind = 16
        · rw [if_pos h16, hh k (by omega) h16]
          cases o <;> simp
        · rw [if_neg h16]
          cases o with
          | true => simp [hxk]
          | false =>
            rw [show (if false = true then k :: stm L e f (k + (sz L k).toNat) else cutD T (k :: stm L e f (k + (sz L k).toNat))) = (if (T k).2 = true then cutD T (stm L e f (k + (sz L k).toNat)) else stm L e f (k + (sz L k).toNat)) from rfl]
            cases hT : (T k).2 <;> simp

theorem all_kid {L : List Nd} {T : WT} (hT : Tr L) : ∀ (m x : Nat), m ≤ L.length → x ∈ allD L T m → ∃ n, n < m ∧ Kid L n x
  | 0, _, _, h => by cases h
  | m + 1, x, hm, h => by
    obtain ⟨g1, g2⟩ := hT.good m (by omega)
    have he : (endOf L m : Int) = m + sz L m := by unfold endOf; omega
    rcases List.mem_append.1 h with h | h
    · obtain ⟨n, hn, hk⟩ := all_kid hT m x (by omega) h
      exact ⟨n, by omega, hk⟩
    · unfold blkD at h
      split at h
      · obtain ⟨a, b, _⟩ := stm_ch (fun y hy => (hT.good y (by omega)).1) _ _ _ (cutD_sub h)
        exact ⟨m, by omega, ⟨a, by omega⟩⟩
      · cases h
theorem ref_mem {L : List Nd} {T : WT} (hT : Tr L) (hh : ∀ k, k < L.length → (nd L k).kind = 16 → (T k).2 = true) : ∀ (m x : Nat), m ≤ L.length → refD L T m x = decide (x ∈ allD L T m)
  | 0, _, _ => by simp [refD, allD]
  | m + 1, x, hm => by
    have ih := ref_mem hT hh m x (by omega)
    obtain ⟨g1, g2⟩ := hT.good m (by omega)
    have he : (endOf L m : Int) = m + sz L m := by unfold endOf; omega
    unfold refD allD blkD
    by_cases h4 : (nd L m).kind = 4
    · rw [if_pos h4, if_pos h4]
      have hg : ∀ y, y < endOf L m → 1 ≤ sz L y := fun y hy => (hT.good y (by omega)).1
      obtain ⟨i1, i2⟩ := ovr_spec (T := T) hg (fun k hk => hh k (by omega)) (endOf L m - (m + 1)) (m + 1) false (refD L T m) x (Nat.le_refl _)
      by_cases hv : Ch L (m + 1) x ∧ x < endOf L m
      · rw [i2 hv.1 hv.2]
        have hnot : x ∉ allD L T m := fun hm2 => by
          obtain ⟨n, hn, hk⟩ := all_kid hT m x (by omega) hm2
          have e1 := hk.par hT (by omega)
          have e2 := Kid.par hT (show m < L.length by omega) (⟨hv.1, by omega⟩ : Kid L m x)
          rw [e1] at e2
          omega
        simp [hnot, stmS]
      · rw [i1 (fun y hy hy2 e1 => hv (by rw [← e1]; exact ⟨hy, hy2⟩)), ih]
        have hnot : x ∉ cutD T (stmS L (m + 1) (endOf L m)) := fun hm2 => by
          obtain ⟨a, b, _⟩ := stm_ch hg _ _ _ (cutD_sub hm2)
          exact hv ⟨a, b⟩
        simp [hnot]
    · rw [if_neg h4, if_neg h4, List.append_nil]
      exact ih
theorem stm_inc {L : List Nd} {e : Nat} (hg : ∀ x, x < e → 1 ≤ sz L x) : ∀ (f k : Nat), (stm L e f k).Pairwise (· < ·)
  | 0, _ => .nil
  | f + 1, k => by
    unfold stm
    by_cases h1 : e ≤ k
    · rw [if_pos h1]; exact .nil
    · rw [if_neg h1]
      have hs := hg k (by omega)
      split
      · exact stm_inc hg f _
      · refine List.Pairwise.cons (fun x hx => ?_) (stm_inc hg f _)
        have := (stm_ch hg f _ x hx).1.le
        omega
theorem cutD_inc {T : WT} : ∀ {l : List Nat}, l.Pairwise (· < ·) → (cutD T l).Pairwise (· < ·)
  | [], h => h
  | k :: r, h => by
    unfold cutD
    split
    · exact cutD_inc (List.Pairwise.of_cons h)
    · exact List.Pairwise.of_cons h
theorem all_nodup {L : List Nd} {T : WT} (hT : Tr L) : ∀ (m : Nat), m ≤ L.length → (allD L T m).Nodup
  | 0, _ => .nil
  | m + 1, hm => by
    obtain ⟨g1, g2⟩ := hT.good m (by omega)
    have he : (endOf L m : Int) = m + sz L m := by unfold endOf; omega
    unfold allD
    rw [List.nodup_append]
    refine ⟨all_nodup hT m (by omega), ?_, ?_⟩
    · unfold blkD
      split
      · exact (cutD_inc (stm_inc (fun y hy => (hT.good y (by omega)).1) _ _)).imp (fun h => Nat.ne_of_lt h)
      · exact .nil
    · intro x hx y hy e
      subst e
      obtain ⟨n, hn, hk⟩ := all_kid hT m x (by omega) hx
      unfold blkD at hy
      split at hy
      · obtain ⟨a, b, _⟩ := stm_ch (fun y hy => (hT.good y (by omega)).1) _ _ _ (cutD_sub hy)
        have e1 := hk.par hT (by omega)
        have e2 := Kid.par hT (show m < L.length by omega) (⟨a, by omega⟩ : Kid L m x)
        rw [e1] at e2
        omega
      · cases hy
/-- The dead ones, by number. -/
def outD (L : List Nd) (T : WT) : List Nat := (List.range L.length).filter fun x => refD L T L.length x
theorem out_inc (L : List Nd) (T : WT) : (outD L T).Pairwise (· < ·) := List.Pairwise.filter _ List.pairwise_lt_range
theorem out_mem {L : List Nd} {T : WT} (hT : Tr L) (hh : ∀ k, k < L.length → (nd L k).kind = 16 → (T k).2 = true) (x : Nat) : x ∈ outD L T ↔ x ∈ allD L T L.length := by
  unfold outD
  rw [List.mem_filter, ref_mem hT hh _ _ (Nat.le_refl _)]
  simp
  intro h
  obtain ⟨n, hn, hk⟩ := all_kid hT _ x (Nat.le_refl _) h
  obtain ⟨g1, g2⟩ := hT.good n hn
  have := hk.lt
  omega
theorem out_perm {L : List Nd} {T : WT} (hT : Tr L) (hh : ∀ k, k < L.length → (nd L k).kind = 16 → (T k).2 = true) : (allD L T L.length).Perm (outD L T) := by
  refine (List.perm_ext_iff_of_nodup (all_nodup hT _ (Nat.le_refl _)) ((out_inc L T).imp (fun h => Nat.ne_of_lt h))).2 fun x => ?_
  exact (out_mem hT hh x).symm
end Go.Proofs.YtlocaalipjjnpaaDoor
