namespace Go.Proofs.YtlocaalipjjnpaaDoor

/-! Trees, over lists: which lists of nodes are trees. -/

structure Nd where
  kind : Int
  pos : Int
  name : ByteArray
  label : ByteArray
  typ : ByteArray
  op : Int
  int : Int
  text : ByteArray
  size : Int
deriving DecidableEq

instance : Inhabited Nd := ⟨⟨0, 0, ⟨#[]⟩, ⟨#[]⟩, ⟨#[]⟩, 0, 0, ⟨#[]⟩, 0⟩⟩

structure Shp where
  label : Int
  name : Int
  typ : Int
  leastInt : Int
  mostInt : Int
  firstOp : Int
  lastOp : Int
  longest : Int
  fewest : Int
  most : Int

def nilShp : Shp := ⟨0, 0, 0, 0, 0, 0, 0, 0, 0, 0⟩

/-- What a kind's fields and kids may be. -/
def shp (k : Int) : Shp × Bool :=
  if k = 1 ∨ k = 4 then ({ nilShp with most := 9223372036854775807 }, true)
  else if k = 2 then ({ nilShp with name := 2, typ := 1, fewest := 1, most := 9 }, true)
  else if k = 3 then ({ nilShp with name := 2, typ := 2 }, true)
  else if k = 5 then ({ nilShp with name := 2, typ := 2, fewest := 1, most := 1 }, true)
  else if k = 6 ∨ k = 24 then ({ nilShp with fewest := 2, most := 2 }, true)
  else if k = 7 then ({ nilShp with fewest := 2, most := 3 }, true)
  else if k = 8 then ({ nilShp with label := 1, fewest := 2, most := 2 }, true)
  else if k = 9 then ({ nilShp with label := 1, name := 2, fewest := 3, most := 3 }, true)
  else if k = 10 ∨ k = 11 then ({ nilShp with label := 1 }, true)
  else if k = 12 then ({ nilShp with mostInt := 40000, most := 1 }, true)
  else if k = 13 then ({ nilShp with fewest := 1, most := 16 }, true)
  else if k = 14 ∨ k = 15 ∨ k = 29 ∨ k = 30 then ({ nilShp with fewest := 1, most := 1 }, true)
  else if k = 16 then ({ nilShp with leastInt := 1, mostInt := 40000, name := 1 }, true)
  else if k = 20 then ({ nilShp with mostInt := 9223372036854775807 }, true)
  else if k = 21 then ({ nilShp with mostInt := 1 }, true)
  else if k = 22 then ({ nilShp with longest := 200 }, true)
  else if k = 23 then ({ nilShp with name := 2 }, true)
  else if k = 25 then ({ nilShp with name := 2, most := 9223372036854775807 }, true)
  else if k = 26 then ({ nilShp with firstOp := 1, lastOp := 2, fewest := 1, most := 1 }, true)
  else if k = 27 then ({ nilShp with firstOp := 3, lastOp := 15, fewest := 2, most := 2 }, true)
  else if k = 28 then ({ nilShp with typ := 2, fewest := 1, most := 1 }, true)
  else (nilShp, false)

abbrev nd (L : List Nd) (k : Nat) : Nd := L.getD k default
abbrev sz (L : List Nd) (k : Nat) : Int := (nd L k).size

def isExpr (k : Int) : Bool := decide (20 ≤ k) && decide (k ≤ 30)
def isStmt (k : Int) : Bool := k == 4 || (decide (5 ≤ k) && decide (k ≤ 16))

/-- Is there a name behind the run of index nodes at n? -/
def plc : List Nd → Bool
  | [] => false
  | x :: r => if x.kind = 24 then plc r else x.kind == 23
def place (L : List Nd) (n : Nat) : Bool := plc (L.drop n)

/-- May k be the kid of n with so many ahead? -/
def may (L : List Nd) (n k c : Nat) : Bool :=
  let q := (nd L k).kind
  let p := (nd L n).kind
  if p = 1 then q == 2
  else if p = 2 then (if (k : Int) + sz L k < (n : Int) + sz L n then q == 3 else q == 4)
  else if p = 4 then isStmt q
  else if p = 6 ∧ c = 0 then place L k
  else if p = 14 then place L k
  else if p = 15 then q == 25
  else if p = 7 ∧ 0 < c then q == 4 || (c == 2 && q == 7)
  else if p = 8 ∧ c = 1 then q == 4
  else if p = 9 ∧ c = 2 then q == 4
  else isExpr q

/-- The kids of n from k on, c ahead of them, n's subtree ending at e: how many there are in all, if all may be. -/
def kidw (L : List Nd) (n e : Nat) : Nat → Nat → Nat → Option Nat
  | 0, _, c => some c
  | f + 1, k, c =>
    if e ≤ k then some c
    else if sz L k < 1 ∨ (e : Int) - k < sz L k ∨ may L n k c = false then none
    else kidw L n e f (k + (sz L k).toNat) (c + 1)

end Go.Proofs.YtlocaalipjjnpaaDoor

namespace Go.Proofs.YtlocaalipjjnpaaDoor


/-- A field that is never, perhaps or always filled. -/
def fitsS (w : Int) (t : ByteArray) (good : ByteArray → Bool) : Bool := if t.size = 0 then w != 2 else (w != 0 && good t)

/-- Are the fields as the kind's shape says? nm, ty: what names and types are. -/
def fieldsS (nm ty : ByteArray → Bool) (s : Shp) (x : Nd) : Bool :=
  decide (0 ≤ x.pos) && fitsS s.label x.label nm && fitsS s.name x.name nm && fitsS s.typ x.typ ty &&
    decide (s.leastInt ≤ x.int) && decide (x.int ≤ s.mostInt) && decide (s.firstOp ≤ x.op) && decide (x.op ≤ s.lastOp) && decide ((x.text.size : Int) ≤ s.longest)

def endOf (L : List Nd) (n : Nat) : Nat := n + (sz L n).toNat

def kidsS (L : List Nd) (s : Shp) (n : Nat) : Bool :=
  match kidw L n (endOf L n) (L.length + 1) (n + 1) 0 with
  | none => false
  | some c => decide (s.fewest ≤ (c : Int)) && decide ((c : Int) ≤ s.most)

def fit (nm ty : ByteArray → Bool) (L : List Nd) (n : Nat) : Bool :=
  (shp (nd L n).kind).2 && fieldsS nm ty (shp (nd L n).kind).1 (nd L n) && kidsS L (shp (nd L n).kind).1 n

def headS (L : List Nd) : Bool := decide (0 < L.length) && sz L 0 == (L.length : Int) && ((nd L 0).kind == 1 || isExpr (nd L 0).kind)

def treeS (nm ty : ByteArray → Bool) (L : List Nd) : Bool := headS L && (List.range L.length).all (fit nm ty L)

/-- A node's size keeps within the list. -/
def Good (L : List Nd) (n : Nat) : Prop := 1 ≤ sz L n ∧ (n : Int) + sz L n ≤ (L.length : Int)

theorem kw_at (L : List Nd) (n e : Nat) : ∀ (f k c : Nat), kidw L n e f k c ≠ none → e ≤ k + f → ∀ x, k ≤ x → x < e →
    ∃ κ, k ≤ κ ∧ κ ≤ x ∧ (x : Int) < κ + sz L κ ∧ 1 ≤ sz L κ ∧ (κ : Int) + sz L κ ≤ e
  | 0, k, c, _, hf, x, h1, h2 => by omega
  | f + 1, k, c, h, hf, x, h1, h2 => by
    unfold kidw at h
    rw [if_neg (by omega)] at h
    split at h
    · exact absurd rfl h
    · rename_i hc
      have hc1 : ¬ sz L k < 1 := fun q => hc (.inl q)
      have hc2 : ¬ (e : Int) - k < sz L k := fun q => hc (.inr (.inl q))
      by_cases hx : (x : Int) < k + sz L k
      · exact ⟨k, Nat.le_refl _, h1, hx, by omega, by omega⟩
      · obtain ⟨κ, a, b, c', d, g⟩ := kw_at L n e f _ _ h (by omega) x (by omega) h2
        exact ⟨κ, by omega, b, c', d, g⟩

theorem fit_kids {nm ty : ByteArray → Bool} {L : List Nd} {n : Nat} (h : fit nm ty L n = true) : kidw L n (endOf L n) (L.length + 1) (n + 1) 0 ≠ none := by
  unfold fit kidsS at h
  intro e
  rw [e] at h
  simp at h

theorem good_next {nm ty : ByteArray → Bool} {L : List Nd} {n : Nat} (hn : ∀ m, m < n → fit nm ty L m = true) : ∀ (d p : Nat), n - p ≤ d → p < n → Good L p → (n : Int) < p + sz L p → Good L n
  | 0, p, hd, hp, _, _ => by omega
  | d + 1, p, hd, hp, hg, hlt => by
    have he : (endOf L p : Int) = p + sz L p := by unfold endOf; have := hg.1; omega
    have := hg.2
    obtain ⟨κ, a, b, c, e, g⟩ := kw_at L p (endOf L p) (L.length + 1) (p + 1) 0 (fit_kids (hn p hp)) (by omega) n (by omega) (by omega)
    by_cases hk : κ = n
    · subst hk; exact ⟨e, by omega⟩
    · exact good_next hn d κ (by omega) (by omega) ⟨e, by omega⟩ c

theorem good_of {nm ty : ByteArray → Bool} {L : List Nd} {n : Nat} (h0 : headS L = true) (hn : ∀ m, m < n → fit nm ty L m = true) (hl : n < L.length) : Good L n := by
  unfold headS at h0
  simp only [Bool.and_eq_true, decide_eq_true_eq, beq_iff_eq] at h0
  have hg : Good L 0 := ⟨by omega, by omega⟩
  by_cases h : n = 0
  · subst h; exact hg
  · exact good_next hn n 0 (by omega) (by omega) hg (by omega)

/-! Other places make no difference. -/
def mv (L : List Nd) (n : Nat) (a : Int) : List Nd := L.modify n fun x => { x with pos := a }

theorem nd_mv (L : List Nd) (n k : Nat) (a : Int) (hn : n < L.length) : nd (mv L n a) k = if k = n then { nd L k with pos := a } else nd L k := by
  unfold nd mv
  rw [List.getD_eq_getElem?_getD, List.getElem?_modify]
  by_cases h : n = k
  · subst h
    rw [List.getD_eq_getElem?_getD, List.getElem?_eq_getElem hn]
    simp
  · rw [if_neg (Ne.symm h), List.getD_eq_getElem?_getD]
    simp [h]

theorem sz_mv (L : List Nd) (n k : Nat) (a : Int) (hn : n < L.length) : sz (mv L n a) k = sz L k := by
  unfold sz; rw [nd_mv L n k a hn]; split <;> rfl
theorem kind_mv (L : List Nd) (n k : Nat) (a : Int) (hn : n < L.length) : (nd (mv L n a) k).kind = (nd L k).kind := by
  rw [nd_mv L n k a hn]; split <;> rfl

theorem plc_kinds : ∀ (A B : List Nd), A.map (·.kind) = B.map (·.kind) → plc A = plc B
  | [], [], _ => rfl
  | [], _ :: _, h => by simp at h
  | _ :: _, [], h => by simp at h
  | x :: A, y :: B, h => by
    simp only [List.map_cons, List.cons.injEq] at h
    unfold plc
    rw [h.1, plc_kinds A B h.2]

theorem kinds_mv (L : List Nd) (n : Nat) (a : Int) : (mv L n a).map (·.kind) = L.map (·.kind) := by
  unfold mv
  apply List.ext_getElem?
  intro i
  simp only [List.getElem?_map, List.getElem?_modify]
  cases L[i]? with
  | none => rfl
  | some x => simp only [Option.map_some]; split <;> rfl

theorem place_mv (L : List Nd) (n k : Nat) (a : Int) : place (mv L n a) k = place L k := by
  unfold place
  apply plc_kinds
  rw [List.map_drop, List.map_drop, kinds_mv]

theorem may_mv (L : List Nd) (n p k c : Nat) (a : Int) (hn : n < L.length) : may (mv L n a) p k c = may L p k c := by
  unfold may
  simp only [kind_mv L n _ a hn, sz_mv L n _ a hn, place_mv]

theorem kw_mv (L : List Nd) (n p e : Nat) (a : Int) (hn : n < L.length) : ∀ f k c, kidw (mv L n a) p e f k c = kidw L p e f k c
  | 0, _, _ => rfl
  | f + 1, k, c => by
    unfold kidw
    rw [sz_mv L n _ a hn, may_mv L n _ _ _ a hn, kw_mv L n p e a hn f]

theorem len_mv (L : List Nd) (n : Nat) (a : Int) : (mv L n a).length = L.length := by unfold mv; simp

theorem fields_mv (nm ty : ByteArray → Bool) (s : Shp) (x : Nd) (a : Int) (h0 : 0 ≤ x.pos) (ha : 0 ≤ a) : fieldsS nm ty s { x with pos := a } = fieldsS nm ty s x := by
  unfold fieldsS
  simp [h0, ha]

theorem tree_mv (nm ty : ByteArray → Bool) (L : List Nd) (n : Nat) (a : Int) (hn : n < L.length) (ha : 0 ≤ a) (h : treeS nm ty L = true) : treeS nm ty (mv L n a) = true := by
  unfold treeS at h ⊢
  simp only [Bool.and_eq_true, List.all_eq_true, List.mem_range] at h ⊢
  refine ⟨?_, fun k hk => ?_⟩
  · have := h.1
    unfold headS at this ⊢
    rw [len_mv, sz_mv L n _ a hn, kind_mv L n _ a hn]
    exact this
  · rw [len_mv] at hk
    have hf := h.2 k hk
    unfold fit kidsS endOf at hf ⊢
    rw [kind_mv L n _ a hn, sz_mv L n _ a hn, len_mv, kw_mv L n _ _ a hn, nd_mv L n _ a hn]
    split
    · rename_i e
      rw [fields_mv _ _ _ _ _ ?_ ha]
      · exact hf
      · simp only [Bool.and_eq_true] at hf
        have := hf.1.2
        unfold fieldsS at this
        simp only [Bool.and_eq_true, decide_eq_true_eq] at this
        exact this.1.1.1.1.1.1.1.1
    · exact hf

end Go.Proofs.YtlocaalipjjnpaaDoor

namespace Go.Proofs.YtlocaalipjjnpaaDoor

/-! Ways within a tree. -/

/-- A list all of whose nodes fit. -/
structure Tr (L : List Nd) : Prop where
  pos : 0 < L.length
  root : sz L 0 = (L.length : Int)
  kids : ∀ n, n < L.length → kidw L n (endOf L n) (L.length + 1) (n + 1) 0 ≠ none
  idx : ∀ n, n < L.length → (nd L n).kind = 24 → kidw L n (endOf L n) (L.length + 1) (n + 1) 0 = some 2
  good : ∀ n, n < L.length → Good L n

theorem tree_parts {nm ty : ByteArray → Bool} {L : List Nd} (h : treeS nm ty L = true) : headS L = true ∧ ∀ n, n < L.length → fit nm ty L n = true := by
  unfold treeS at h
  simpa only [Bool.and_eq_true, List.all_eq_true, List.mem_range] using h

theorem tr_of {nm ty : ByteArray → Bool} {L : List Nd} (h : treeS nm ty L = true) : Tr L := by
  obtain ⟨h0, h1⟩ := tree_parts h
  have hh := h0
  unfold headS at hh
  simp only [Bool.and_eq_true, decide_eq_true_eq, beq_iff_eq] at hh
  refine ⟨hh.1.1, hh.1.2, fun n hn => fit_kids (h1 n hn), fun n hn hk => ?_, fun n hn => good_of h0 (fun m hm => h1 m (by omega)) hn⟩
  have hf := h1 n hn
  unfold fit kidsS at hf
  rw [hk] at hf
  have hs : shp 24 = ({ nilShp with fewest := 2, most := 2 }, true) := by rfl
  rw [hs] at hf
  simp only [Bool.and_eq_true] at hf
  have h3 := hf.2
  split at h3
  · simp at h3
  · rename_i c hc
    simp only [Bool.and_eq_true, decide_eq_true_eq] at h3
    rw [hc]
    congr 1
    omega

/-- κ is met when one goes from k on, subtree by subtree. -/
inductive Ch (L : List Nd) : Nat → Nat → Prop
  | here (k : Nat) : Ch L k k
  | next {k κ : Nat} (h1 : 1 ≤ sz L k) (h : Ch L (k + (sz L k).toNat) κ) : Ch L k κ

theorem Ch.le {L : List Nd} {k κ : Nat} (h : Ch L k κ) : k ≤ κ := by
  induction h with
  | here => exact Nat.le_refl _
  | next h1 _ ih => omega

theorem Ch.snoc {L : List Nd} {k κ : Nat} (h : Ch L k κ) (h1 : 1 ≤ sz L κ) : Ch L k (κ + (sz L κ).toNat) := by
  induction h with
  | here => exact .next h1 (.here _)
  | next h2 _ ih => exact .next h2 (ih h1)

theorem Ch.cover {L : List Nd} {k κ : Nat} (h : Ch L k κ) : ∀ m, k ≤ m → m < κ → ∃ q, k ≤ q ∧ q ≤ m ∧ (m : Int) < q + sz L q ∧ (q : Int) + sz L q ≤ κ := by
  induction h with
  | here => intro m h1 h2; omega
  | @next k κ h1 h ih =>
    intro m hm hk
    by_cases hq : (m : Int) < k + sz L k
    · exact ⟨k, Nat.le_refl _, hm, hq, by have := h.le; omega⟩
    · obtain ⟨q, a, b, c, d⟩ := ih m (by omega) hk
      exact ⟨q, by omega, b, c, d⟩

theorem Tr.nest {L : List Nd} (h : Tr L) : ∀ (d q m : Nat), m - q ≤ d → q < L.length → q ≤ m → (m : Int) < q + sz L q → (m : Int) + sz L m ≤ q + sz L q
  | 0, q, m, hd, _, h1, _ => by obtain rfl : m = q := by omega
                                exact Int.le_refl _
  | d + 1, q, m, hd, hq, h1, h2 => by
    by_cases e : m = q
    · subst e; exact Int.le_refl _
    · obtain ⟨g1, g2⟩ := h.good q hq
      have he : (endOf L q : Int) = q + sz L q := by unfold endOf; omega
      obtain ⟨κ, a, b, c, e', g⟩ := kw_at L q (endOf L q) (L.length + 1) (q + 1) 0 (h.kids q hq) (by omega) m (by omega) (by omega)
      have := h.nest d κ m (by omega) (by omega) b c
      omega

/-- κ is a kid of n. -/
structure Kid (L : List Nd) (n κ : Nat) : Prop where
  ch : Ch L (n + 1) κ
  lt : (κ : Int) < n + sz L n

/-- The nearest one ahead whose subtree reaches n. -/
def par (L : List Nd) (n : Nat) : Nat → Int
  | 0 => -1
  | p + 1 => if (p : Int) + sz L p ≤ n then par L n p else (p : Int)

theorem par_at {L : List Nd} {n p : Nat} (hp : (n : Int) < p + sz L p) : ∀ (q : Nat), p < q → (∀ m, p < m → m < q → (m : Int) + sz L m ≤ n) → par L n q = p
  | 0, h, _ => by omega
  | q + 1, h, hm => by
    unfold par
    by_cases e : p = q
    · subst e; rw [if_neg (by omega)]
    · rw [if_pos (hm q (by omega) (by omega))]
      exact par_at hp q (by omega) (fun m h1 h2 => hm m h1 (by omega))

theorem Kid.par {L : List Nd} {n κ : Nat} (hT : Tr L) (hn : n < L.length) (h : Kid L n κ) : par L κ κ = n := by
  obtain ⟨g1, g2⟩ := hT.good n hn
  refine par_at h.lt κ (by have := h.ch.le; omega) (fun m h1 h2 => ?_)
  obtain ⟨q, a, b, c, d⟩ := h.ch.cover m (by omega) h2
  have := hT.nest (m - q) q m (Nat.le_refl _) (by have := h.lt; omega) b c
  omega

/-- The kids, and where they end. -/
def kidL (L : List Nd) (e : Nat) : Nat → Nat → List Nat
  | 0, _ => []
  | f + 1, k => if e ≤ k then [] else k :: kidL L e f (k + (sz L k).toNat)

theorem kidw_sizes (L : List Nd) (n e : Nat) : ∀ (f k c : Nat), kidw L n e f k c ≠ none → e ≤ k + f → k ≤ e → ∀ κ, Ch L k κ → κ < e → 1 ≤ sz L κ ∧ (κ : Int) + sz L κ ≤ e
  | 0, k, c, _, hf, _, κ, hc, hl => by have := hc.le; omega
  | f + 1, k, c, h, hf, hke, κ, hc, hl => by
    unfold kidw at h
    have := hc.le
    rw [if_neg (by omega)] at h
    split at h
    · exact absurd rfl h
    · rename_i q
      have q1 : ¬ sz L k < 1 := fun z => q (.inl z)
      have q2 : ¬ (e : Int) - k < sz L k := fun z => q (.inr (.inl z))
      cases hc with
      | here => exact ⟨by omega, by omega⟩
      | next _ hc => exact kidw_sizes L n e f _ _ h (by omega) (by omega) κ hc hl

theorem Tr.kid_good {L : List Nd} (h : Tr L) {n κ : Nat} (hn : n < L.length) (hk : Kid L n κ) : 1 ≤ sz L κ ∧ (κ : Int) + sz L κ ≤ n + sz L n := by
  obtain ⟨g1, g2⟩ := h.good n hn
  have he : (endOf L n : Int) = n + sz L n := by unfold endOf; omega
  have := kidw_sizes L n (endOf L n) (L.length + 1) (n + 1) 0 (h.kids n hn) (by omega) (by omega) κ hk.ch (by have := hk.lt; omega)
  omega

/-- The kid on the way to m. -/
theorem Tr.way {L : List Nd} (h : Tr L) {n m : Nat} (hn : n < L.length) (h1 : n < m) (h2 : (m : Int) < n + sz L n) : ∃ κ, Kid L n κ ∧ κ ≤ m ∧ (m : Int) < κ + sz L κ := by
  obtain ⟨g1, g2⟩ := h.good n hn
  have he : (endOf L n : Int) = n + sz L n := by unfold endOf; omega
  have key : ∀ (d k : Nat), m - k ≤ d → Ch L (n + 1) k → k ≤ m → ∃ κ, Kid L n κ ∧ κ ≤ m ∧ (m : Int) < κ + sz L κ := by
    intro d
    induction d with
    | zero => intro k hd hc hk
              have : k = m := by omega
              subst this
              have hK : Kid L n k := ⟨hc, by omega⟩
              have := h.kid_good hn hK
              exact ⟨k, hK, hk, by omega⟩
    | succ d ih =>
      intro k hd hc hk
      have hK : Kid L n k := ⟨hc, by omega⟩
      have := h.kid_good hn hK
      by_cases q : (m : Int) < k + sz L k
      · exact ⟨k, hK, hk, q⟩
      · exact ih (k + (sz L k).toNat) (by omega) (hc.snoc this.1) (by omega)
  exact key (m - (n + 1)) (n + 1) (Nat.le_refl _) (.here _) (by omega)

/-! The subtree of an expression is a tree. -/

def subL (L : List Nd) (n s : Nat) : List Nd := (L.drop n).take s
theorem subL_len {L : List Nd} {n s : Nat} (h : n + s ≤ L.length) : (subL L n s).length = s := by unfold subL; simp; omega
theorem nd_sub {L : List Nd} {n s m : Nat} (h : m < s) : nd (subL L n s) m = nd L (n + m) := by
  unfold nd subL
  rw [List.getD_eq_getElem?_getD, List.getD_eq_getElem?_getD, List.getElem?_take_of_lt h, List.getElem?_drop]

theorem kidw_fuel (L : List Nd) (n e : Nat) : ∀ (f f' k c : Nat), e ≤ k + f → e ≤ k + f' → kidw L n e f k c = kidw L n e f' k c
  | 0, 0, _, _, _, _ => rfl
  | 0, f' + 1, k, c, h1, h2 => by unfold kidw; rw [if_pos (by omega)]
  | f + 1, 0, k, c, h1, h2 => by unfold kidw; rw [if_pos (by omega)]
  | f + 1, f' + 1, k, c, h1, h2 => by
    unfold kidw
    split
    · rfl
    · split
      · rfl
      · rename_i q
        have q1 : ¬ sz L k < 1 := fun z => q (.inl z)
        exact kidw_fuel L n e f f' _ _ (by omega) (by omega)

theorem plc_run : ∀ (A : List Nd) (j : Nat), j < A.length → (∀ i, i < j → (nd A i).kind = 24) → (nd A j).kind ≠ 24 → plc A = ((nd A j).kind == 23)
  | [], j, h, _, _ => by simp at h
  | x :: A, 0, _, _, h => by
    unfold plc
    rw [if_neg (by simpa [nd] using h)]
    simp [nd]
  | x :: A, j + 1, hj, hi, h => by
    have h0 : x.kind = 24 := by have := hi 0 (by omega); simpa [nd] using this
    unfold plc
    rw [if_pos h0, plc_run A j (by simpa using hj) (fun i hi' => by have := hi (i + 1) (by omega); simpa [nd] using this) (by simpa [nd] using h)]
    simp [nd]

theorem Tr.run {L : List Nd} (h : Tr L) : ∀ (d k : Nat), L.length - k ≤ d → k < L.length → ∃ j, k ≤ j ∧ (j : Int) < k + sz L k ∧ (∀ i, k ≤ i → i < j → (nd L i).kind = 24) ∧ (nd L j).kind ≠ 24
  | 0, k, h1, h2 => by omega
  | d + 1, k, h1, h2 => by
    obtain ⟨g1, g2⟩ := h.good k h2
    by_cases hk : (nd L k).kind = 24
    · have hi := h.idx k h2 hk
      have he : (endOf L k : Int) = k + sz L k := by unfold endOf; omega
      have hlt : ¬ endOf L k ≤ k + 1 := by
        intro q
        rw [kidw_fuel L k _ (L.length + 1) 0 (k + 1) 0 (by omega) (by omega)] at hi
        simp [kidw] at hi
      have hK : Kid L k (k + 1) := ⟨.here _, by omega⟩
      have hg := h.kid_good h2 hK
      obtain ⟨j, a, b, c, e⟩ := h.run d (k + 1) (by omega) (by omega)
      refine ⟨j, by omega, by omega, fun i h3 h4 => ?_, e⟩
      by_cases q : i = k
      · subst q; exact hk
      · exact c i (by omega) h4
    · exact ⟨k, Nat.le_refl _, by omega, fun i h3 h4 => by omega, hk⟩

theorem nd_drop (L : List Nd) (k i : Nat) : nd (L.drop k) i = nd L (k + i) := by
  unfold nd
  rw [List.getD_eq_getElem?_getD, List.getD_eq_getElem?_getD, List.getElem?_drop]

theorem Tr.place_sub {L : List Nd} (h : Tr L) {n s m : Nat} (hs : n + s ≤ L.length) (hm : ((n + m : Nat) : Int) + sz L (n + m) ≤ ((n + s : Nat) : Int)) (hms : m < s) : place (subL L n s) m = place L (n + m) := by
  obtain ⟨j, a, b, c, e⟩ := h.run (L.length - (n + m)) (n + m) (Nat.le_refl _) (by omega)
  unfold place
  rw [plc_run (L.drop (n + m)) (j - (n + m)) (by simp; omega) (fun i hi => by rw [nd_drop]; exact c _ (by omega) (by omega)) (by rw [nd_drop, show n + m + (j - (n + m)) = j from by omega]; exact e),
    plc_run ((subL L n s).drop m) (j - (n + m)) (by simp [subL_len hs]; omega) (fun i hi => by rw [nd_drop, nd_sub (by omega)]; exact c _ (by omega) (by omega)) (by rw [nd_drop, nd_sub (by omega), show n + (m + (j - (n + m))) = j from by omega]; exact e)]
  rw [nd_drop, nd_drop, nd_sub (by omega)]
  congr 3
  omega

theorem Tr.kidw_sub {L : List Nd} (h : Tr L) {n s m : Nat} (hs : n + s ≤ L.length) (hms : m < s) {e : Nat} (he : e ≤ s) (hme : ((n + e : Nat) : Int) = ((n + m : Nat) : Int) + sz L (n + m)) :
    ∀ (f k c : Nat), m < k → Ch L (n + m + 1) (n + k) → kidw (subL L n s) m e f k c = kidw L (n + m) (n + e) f (n + k) c
  | 0, _, _, _, _ => rfl
  | f + 1, k, c, hk, hc => by
    unfold kidw
    by_cases hek : e ≤ k
    · rw [if_pos hek, if_pos (show n + e ≤ n + k by omega)]
    · rw [if_neg hek, if_neg (show ¬ n + e ≤ n + k by omega)]
      have hK : Kid L (n + m) (n + k) := ⟨hc, by omega⟩
      have hg := h.kid_good (by omega) hK
      have hks : k < s := by omega
      have hz : sz (subL L n s) k = sz L (n + k) := by unfold sz; rw [nd_sub hks]
      have hmay : may (subL L n s) m k c = may L (n + m) (n + k) c := by
        unfold may
        have hz2 : sz (subL L n s) m = sz L (n + m) := by unfold sz; rw [nd_sub hms]
        rw [h.place_sub hs (by omega) hks, hz, hz2, nd_sub hks, nd_sub hms]
        have e1 : ((k : Int) + sz L (n + k) < (m : Int) + sz L (n + m)) ↔ (((n + k : Nat) : Int) + sz L (n + k) < ((n + m : Nat) : Int) + sz L (n + m)) := by omega
        simp only [e1]
      rw [hz, hmay]
      have e2 : (sz L (n + k) < 1 ∨ (e : Int) - k < sz L (n + k) ∨ may L (n + m) (n + k) c = false) ↔ (sz L (n + k) < 1 ∨ ((n + e : Nat) : Int) - ((n + k : Nat) : Int) < sz L (n + k) ∨ may L (n + m) (n + k) c = false) := by
        rw [show ((n + e : Nat) : Int) - ((n + k : Nat) : Int) = (e : Int) - k from by omega]
      simp only [e2]
      split
      · rfl
      · rw [h.kidw_sub hs hms he hme f (k + (sz L (n + k)).toNat) (c + 1) (by omega) (by rw [← Nat.add_assoc]; exact hc.snoc hg.1), Nat.add_assoc]

theorem tree_sub {nm ty : ByteArray → Bool} {L : List Nd} (h : treeS nm ty L = true) {n : Nat} (hn : n < L.length) (hr : n = 0 ∨ isExpr (nd L n).kind = true) : treeS nm ty (subL L n (sz L n).toNat) = true := by
  have hT := tr_of h
  obtain ⟨h0, h1⟩ := tree_parts h
  obtain ⟨g1, g2⟩ := hT.good n hn
  have hs : n + (sz L n).toNat ≤ L.length := by omega
  unfold treeS
  rw [Bool.and_eq_true, List.all_eq_true]
  rw [subL_len hs]
  refine ⟨?_, fun m hm => ?_⟩
  · unfold headS
    rw [subL_len hs]
    have h00 : 0 < (sz L n).toNat := by omega
    have hz : sz (subL L n (sz L n).toNat) 0 = sz L n := by show (nd _ 0).size = _; rw [nd_sub h00]; rfl
    rw [hz, nd_sub h00, Nat.add_zero]
    unfold headS at h0
    simp only [Bool.and_eq_true, decide_eq_true_eq, beq_iff_eq, Bool.or_eq_true] at h0 ⊢
    refine ⟨⟨by omega, by omega⟩, ?_⟩
    rcases hr with rfl | hr
    · exact h0.2
    · exact .inr hr
  · rw [List.mem_range] at hm
    have hf := h1 (n + m) (by omega)
    obtain ⟨q1, q2⟩ := hT.good (n + m) (by omega)
    have hne := hT.nest m n (n + m) (by omega) hn (by omega) (by omega)
    unfold fit kidsS at hf ⊢
    have hz : sz (subL L n (sz L n).toNat) m = sz L (n + m) := by unfold sz; rw [nd_sub hm]
    rw [nd_sub hm, subL_len hs]
    have he : endOf (subL L n (sz L n).toNat) m = m + (sz L (n + m)).toNat := by unfold endOf; rw [hz]
    have hk := hT.kidw_sub hs hm (e := m + (sz L (n + m)).toNat) (by omega) (by omega) ((sz L n).toNat + 1) (m + 1) 0 (by omega) (.here _)
    rw [he, hk, kidw_fuel L (n + m) (n + (m + (sz L (n + m)).toNat)) ((sz L n).toNat + 1) (L.length + 1) (n + (m + 1)) 0 (by omega) (by omega)]
    unfold endOf at hf
    rw [← Nat.add_assoc, ← Nat.add_assoc]
    exact hf

end Go.Proofs.YtlocaalipjjnpaaDoor

namespace Go.Proofs.YtlocaalipjjnpaaDoor

/-! The ways through a program, over lists. -/
abbrev WT := Nat → Bool × Bool

def stm (L : List Nd) (e : Nat) : Nat → Nat → List Nat
  | 0, _ => []
  | f + 1, k => if e ≤ k then [] else if (nd L k).kind = 16 then stm L e f (k + (sz L k).toNat) else k :: stm L e f (k + (sz L k).toNat)
/-- The statements that count, from k up to e. -/
def stmS (L : List Nd) (k e : Nat) : List Nat := stm L e (e - k) k

theorem stm_fuel (L : List Nd) (e : Nat) (hg : ∀ x, x < e → 1 ≤ sz L x) : ∀ (f f' k : Nat), e - k ≤ f → e - k ≤ f' → stm L e f k = stm L e f' k
  | 0, 0, _, _, _ => rfl
  | 0, f' + 1, k, h, _ => by
    show [] = if e ≤ k then [] else _
    rw [if_pos (by omega)]
  | f + 1, 0, k, _, h => by
    show (if e ≤ k then [] else _) = []
    rw [if_pos (by omega)]
  | f + 1, f' + 1, k, h, h' => by
    show (if e ≤ k then [] else _) = (if e ≤ k then [] else _)
    by_cases h1 : e ≤ k
    · rw [if_pos h1, if_pos h1]
    · have := hg k (by omega)
      rw [if_neg h1, if_neg h1, stm_fuel L e hg f f' (k + (sz L k).toNat) (by omega) (by omega)]
theorem stm_end (L : List Nd) (k e : Nat) (h : e ≤ k) : stmS L k e = [] := by
  unfold stmS
  rw [show e - k = 0 by omega]
  rfl
theorem stm_go (L : List Nd) (k e : Nat) (hg : ∀ x, x < e → 1 ≤ sz L x) (h : k < e) : stmS L k e = if (nd L k).kind = 16 then stmS L (k + (sz L k).toNat) e else k :: stmS L (k + (sz L k).toNat) e := by
  unfold stmS
  have := hg k h
  obtain ⟨f, hf⟩ : ∃ f, e - k = f + 1 := ⟨e - k - 1, by omega⟩
  rw [hf]
  show (if e ≤ k then [] else _) = _
  rw [if_neg (by omega), stm_fuel L e hg f (e - (k + (sz L k).toNat)) (k + (sz L k).toNat) (by omega) (by omega)]

def retL (T : WT) (K : List Nat) (b : Bool) : Bool := K.foldl (fun _ k => (T k).1) b
def endL (T : WT) (K : List Nat) : Bool := K.all fun k => (T k).2
/-- How a statement can be left, by what the table says of those within. -/
def wayAt (L : List Nd) (T : WT) (n : Nat) : Bool × Bool :=
  if (nd L n).kind = 12 then (true, false)
  else if (nd L n).kind = 10 ∨ (nd L n).kind = 11 then (false, false)
  else if (nd L n).kind = 4 then (retL T (stmS L (n + 1) (endOf L n)) false, endL T (stmS L (n + 1) (endOf L n)))
  else if (nd L n).kind = 7 then
    (if endOf L n ≤ endOf L (endOf L (n + 1)) then (false, true)
     else ((T (endOf L (n + 1))).1 && (T (endOf L (endOf L (n + 1)))).1, (T (endOf L (n + 1))).2 || (T (endOf L (endOf L (n + 1)))).2))
  else (false, decide (5 ≤ (nd L n).kind) && decide ((nd L n).kind ≤ 16))
/-- The table when the last d nodes are done. -/
def tbl (L : List Nd) : Nat → WT
  | 0 => fun _ => (false, false)
  | d + 1 => fun i => if i = L.length - (d + 1) then wayAt L (tbl L d) (L.length - (d + 1)) else tbl L d i

def bodyF (L : List Nd) : Nat → Nat → Nat
  | 0, k => k
  | f + 1, k => if (nd L k).kind = 3 then bodyF L f (k + 1) else k
def bodyOf (L : List Nd) (n : Nat) : Nat := bodyF L L.length (n + 1)

def hooked (x : Nd) : Bool := decide (x.kind = 16) || (decide (x.kind = 12) && !decide (x.int = 0))
def resAt (x : Nd) (res : ByteArray) : ByteArray := if x.kind = 2 then x.typ else res
def gives (L : List Nd) (T : WT) (n : Nat) (res : ByteArray) : Bool :=
  if (nd L n).kind = 2 then decide (res.size = 0) || (T (bodyOf L n)).1
  else if (nd L n).kind = 12 then (!decide (res.size = 0)) == decide (1 < sz L n)
  else true
def chk (L : List Nd) (T : WT) (hooks : Bool) : Nat → Nat → ByteArray → Int × Int
  | 0, _, _ => (0, 0)
  | f + 1, k, res =>
    if L.length ≤ k then (0, 0)
    else if !hooks && hooked (nd L k) then (81, (nd L k).pos)
    else if !gives L T k (resAt (nd L k) res) then (80, (nd L k).pos)
    else chk L T hooks f (k + 1) (resAt (nd L k) res)
def chkS (L : List Nd) (hooks : Bool) (k : Nat) (res : ByteArray) : Int × Int := chk L (tbl L L.length) hooks (L.length - k) k res

theorem chk_end (L : List Nd) (hooks : Bool) (res : ByteArray) : chkS L hooks L.length res = (0, 0) := by
  unfold chkS
  rw [Nat.sub_self]
  rfl
theorem chk_go (L : List Nd) (hooks : Bool) (k : Nat) (res : ByteArray) (h : k < L.length) : chkS L hooks k res =
    if !hooks && hooked (nd L k) then (81, (nd L k).pos) else if !gives L (tbl L L.length) k (resAt (nd L k) res) then (80, (nd L k).pos) else chkS L hooks (k + 1) (resAt (nd L k) res) := by
  unfold chkS
  obtain ⟨f, hf⟩ : ∃ f, L.length - k = f + 1 := ⟨L.length - k - 1, by omega⟩
  rw [hf]
  show (if L.length ≤ k then _ else _) = _
  rw [if_neg (by omega), show L.length - (k + 1) = f by omega]

def progS (nm ty : ByteArray → Bool) (L : List Nd) : Bool := treeS nm ty L && (nd L 0).kind == 1
def checkS (nm ty : ByteArray → Bool) (L : List Nd) (hooks : Bool) : Int × Int := if progS nm ty L then chkS L hooks 0 ⟨#[]⟩ else (30, 0)

/-- What a tree's nodes keep. -/
structure Wy (L : List Nd) : Prop where
  good : ∀ n, n < L.length → Good L n
  nest : ∀ n k, n < L.length → n < k → k < endOf L n → endOf L k ≤ endOf L n
  iff : ∀ n, n < L.length → (nd L n).kind = 7 → n + 1 < endOf L n ∧ endOf L (n + 1) < endOf L n
  fn : ∀ n, n < L.length → (nd L n).kind = 2 → n < bodyOf L n ∧ bodyOf L n < endOf L n ∧ (nd L (bodyOf L n)).kind = 4 ∧ endOf L (bodyOf L n) = endOf L n ∧ ∀ j, n < j → j < bodyOf L n → (nd L j).kind = 3 ∧ sz L j = 1

theorem kidw_ge (L : List Nd) (n e : Nat) : ∀ (f k c r : Nat), kidw L n e f k c = some r → c ≤ r
  | 0, k, c, r, h => by
    have : c = r := by simpa [kidw] using h
    omega
  | f + 1, k, c, r, h => by
    unfold kidw at h
    split at h
    · have : c = r := by simpa using h
      omega
    · split at h
      · cases h
      · have := kidw_ge L n e f _ _ r h
        omega

theorem kidw_one (L : List Nd) (n e f k c r : Nat) (h : kidw L n e (f + 1) k c = some r) (hk : k < e) : c + 1 ≤ r ∧ kidw L n e f (k + (sz L k).toNat) (c + 1) = some r ∧ 1 ≤ sz L k ∧ (k : Int) + sz L k ≤ e ∧ may L n k c = true := by
  unfold kidw at h
  rw [if_neg (by omega)] at h
  split at h
  · cases h
  · rename_i q
    refine ⟨kidw_ge L n e f _ _ r h, h, ?_, ?_, ?_⟩
    · have : ¬ sz L k < 1 := fun z => q (.inl z)
      omega
    · have : ¬ (e : Int) - k < sz L k := fun z => q (.inr (.inl z))
      omega
    · cases hm : may L n k c with
      | true => rfl
      | false => exact absurd (.inr (.inr hm)) q

theorem fit_count {nm ty : ByteArray → Bool} {L : List Nd} {n : Nat} (h : fit nm ty L n = true) : ∃ c : Nat, kidw L n (endOf L n) (L.length + 1) (n + 1) 0 = some c ∧ (shp (nd L n).kind).1.fewest ≤ (c : Int) ∧ (c : Int) ≤ (shp (nd L n).kind).1.most := by
  unfold fit kidsS at h
  simp only [Bool.and_eq_true] at h
  have h3 := h.2
  split at h3
  · cases h3
  · rename_i c hc
    simp only [Bool.and_eq_true, decide_eq_true_eq] at h3
    exact ⟨c, hc, h3.1, h3.2⟩

theorem body_go {L : List Nd} {n : Nat} (hk : (nd L n).kind = 2) (hg : (endOf L n : Int) = n + sz L n) (hp : ∀ j, n < j → j < endOf L n → (nd L j).kind = 3 → sz L j = 1) :
    ∀ (f f' k c r : Nat), kidw L n (endOf L n) f k c = some r → endOf L n ≤ k + f → endOf L n ≤ k + f' → n < k → k < endOf L n →
      k ≤ bodyF L f' k ∧ bodyF L f' k < endOf L n ∧ (nd L (bodyF L f' k)).kind = 4 ∧ endOf L (bodyF L f' k) = endOf L n ∧ ∀ j, k ≤ j → j < bodyF L f' k → (nd L j).kind = 3 ∧ sz L j = 1
  | 0, f', k, c, r, h, h1, _, _, h2 => by omega
  | f + 1, 0, k, c, r, h, _, h1, _, h2 => by omega
  | f + 1, f' + 1, k, c, r, h, h1, h1', hnk, h2 => by
    obtain ⟨_, hn, hs1, hs2, hm⟩ := kidw_one L n _ f k c r h h2
    unfold may at hm
    simp only [hk] at hm
    rw [if_neg (by omega), if_pos trivial] at hm
    by_cases hl : (k : Int) + sz L k < (n : Int) + sz L n
    · rw [if_pos hl] at hm
      have hk3 : (nd L k).kind = 3 := by simpa using hm
      have hz := hp k hnk h2 hk3
      have e1 : bodyF L (f' + 1) k = bodyF L f' (k + 1) := by
        show (if (nd L k).kind = 3 then _ else _) = _
        rw [if_pos hk3]
      rw [hz] at hn
      obtain ⟨a, b, c', d, e⟩ := body_go hk hg hp f f' (k + 1) (c + 1) r hn (by omega) (by omega) (by omega) (by omega)
      rw [e1]
      refine ⟨by omega, b, c', d, fun j h3 h4 => ?_⟩
      by_cases hj : j = k
      · subst hj; exact ⟨hk3, hz⟩
      · exact e j (by omega) h4
    · rw [if_neg hl] at hm
      have hk4 : (nd L k).kind = 4 := by simpa using hm
      have e1 : bodyF L (f' + 1) k = k := by
        show (if (nd L k).kind = 3 then _ else _) = _
        rw [if_neg (by omega)]
      rw [e1]
      refine ⟨by omega, h2, hk4, ?_, fun j h3 h4 => by omega⟩
      have he : (endOf L k : Int) = k + sz L k := by unfold endOf; omega
      omega

theorem wy_of {nm ty : ByteArray → Bool} {L : List Nd} (h : treeS nm ty L = true) : Wy L := by
  have hT := tr_of h
  obtain ⟨_, h1⟩ := tree_parts h
  have he : ∀ n, n < L.length → (endOf L n : Int) = n + sz L n := fun n hn => by
    have := (hT.good n hn).1
    unfold endOf
    omega
  have hle : ∀ n, n < L.length → endOf L n ≤ L.length := fun n hn => by
    have := (hT.good n hn).2
    have := he n hn
    omega
  have hp : ∀ j, j < L.length → (nd L j).kind = 3 → sz L j = 1 := fun j hj hk => by
    obtain ⟨c, hc, _, hm⟩ := fit_count (h1 j hj)
    rw [hk] at hm
    have hm0 : (shp 3).1.most = 0 := rfl
    rw [hm0] at hm
    have h3 := (hT.good j hj).1
    have h4 := he j hj
    by_cases hlt : j + 1 < endOf L j
    · have := (kidw_one L j _ _ _ _ _ hc hlt).1
      omega
    · omega
  refine ⟨hT.good, fun n k hn h2 h3 => ?_, fun n hn hk => ?_, fun n hn hk => ?_⟩
  · have a := he n hn
    have b := hle n hn
    have := hT.nest (k - n) n k (Nat.le_refl _) hn (by omega) (by omega)
    have := he k (by omega)
    omega
  · obtain ⟨c, hc, hm, _⟩ := fit_count (h1 n hn)
    rw [hk] at hm
    have hm0 : (shp 7).1.fewest = 2 := rfl
    rw [hm0] at hm
    have h3 := (hT.good n hn).1
    have h4 := he n hn
    have hlt : n + 1 < endOf L n := by
      rcases Nat.lt_or_ge (n + 1) (endOf L n) with hq | hq
      · exact hq
      · unfold kidw at hc
        rw [if_pos hq] at hc
        cases hc
        omega
    refine ⟨hlt, ?_⟩
    have h5 := hle n hn
    obtain ⟨_, hc2, hs1, hs2, _⟩ := kidw_one L n _ _ _ _ _ hc hlt
    rcases Nat.lt_or_ge (endOf L (n + 1)) (endOf L n) with hq | hq
    · exact hq
    · obtain ⟨q, hq'⟩ : ∃ q, L.length = q + 1 := ⟨L.length - 1, by omega⟩
      rw [hq'] at hc2
      unfold kidw at hc2
      rw [if_pos (by unfold endOf at hq ⊢; omega)] at hc2
      cases hc2
      omega
  · obtain ⟨c, hc, hm, _⟩ := fit_count (h1 n hn)
    rw [hk] at hm
    have hm0 : (shp 2).1.fewest = 1 := rfl
    rw [hm0] at hm
    have h5 := hle n hn
    have hlt : n + 1 < endOf L n := by
      rcases Nat.lt_or_ge (n + 1) (endOf L n) with hq | hq
      · exact hq
      · unfold kidw at hc
        rw [if_pos hq] at hc
        cases hc
        omega
    obtain ⟨a, b, c', d, e⟩ := body_go hk (he n hn) (fun j h2 h3 h4 => hp j (by omega) h4) (L.length + 1) L.length (n + 1) 0 c hc (by omega) (by omega) (by omega) hlt
    exact ⟨a, b, c', d, fun j h2 h3 => e j (by omega) h3⟩

end Go.Proofs.YtlocaalipjjnpaaDoor

namespace Go.Proofs.YtlocaalipjjnpaaDoor

/-! A hook put in at the beginning of the block n. -/
def io (n i : Nat) : Nat := if i ≤ n then i else i + 1
theorem io_low {n i : Nat} (h : i ≤ n) : io n i = i := if_pos h
theorem io_high {n i : Nat} (h : n < i) : io n i = i + 1 := if_neg (by omega)
theorem io_lt {n i j : Nat} : io n i < io n j ↔ i < j := by
  unfold io
  split <;> split <;> omega
theorem io_le {n i j : Nat} : io n i ≤ io n j ↔ i ≤ j := by
  unfold io
  split <;> split <;> omega
theorem io_next {n i : Nat} (h : i ≠ n) : io n i + 1 = io n (i + 1) := by
  unfold io
  split <;> split <;> omega
theorem io_cover {n N x : Nat} (hn : n < N) (hx : x < N + 1) (h : x ≠ n + 1) : ∃ i, i < N ∧ io n i = x := by
  by_cases h1 : x ≤ n
  · exact ⟨x, by omega, io_low h1⟩
  · exact ⟨x - 1, by omega, by rw [io_high (by omega)]; omega⟩
def hkN : Nd := ⟨16, 0, ⟨#[]⟩, ⟨#[]⟩, ⟨#[]⟩, 0, 1, ⟨#[]⟩, 1⟩
structure Ins (L M : List Nd) (n : Nat) : Prop where
  lt : n < L.length
  blk : (nd L n).kind = 4
  len : M.length = L.length + 1
  old : ∀ i, i < L.length → nd M (io n i) = { nd L i with size := (nd L i).size + if i ≤ n ∧ (n : Int) < (i : Int) + (nd L i).size then 1 else 0 }
  hook : nd M (n + 1) = hkN
theorem Ins.kind {L M : List Nd} {n : Nat} (h : Ins L M n) {i : Nat} (hi : i < L.length) : (nd M (io n i)).kind = (nd L i).kind := by rw [h.old i hi]
theorem Ins.size {L M : List Nd} {n : Nat} (h : Ins L M n) {i : Nat} (hi : i < L.length) : sz M (io n i) = sz L i + if i ≤ n ∧ (n : Int) < (i : Int) + sz L i then 1 else 0 := by
  show (nd M (io n i)).size = _
  rw [h.old i hi]
theorem Ins.pos1 {L M : List Nd} {n : Nat} (h : Ins L M n) {i : Nat} (hi : i < L.length) (hg : Good L i) : 1 ≤ sz M (io n i) := by
  rw [h.size hi]
  have := hg.1
  split <;> omega
theorem Ins.endI {L M : List Nd} {n : Nat} (h : Ins L M n) {i : Nat} (hi : i < L.length) (hg : Good L i) : ((io n i : Nat) : Int) + sz M (io n i) = ((io n (endOf L i) : Nat) : Int) := by
  rw [h.size hi]
  have h1 := hg.1
  have he : (endOf L i : Int) = i + sz L i := by unfold endOf; omega
  generalize endOf L i = e at he ⊢
  generalize sz L i = s at h1 he ⊢
  unfold io
  split <;> split <;> split <;> omega
theorem Ins.endO {L M : List Nd} {n : Nat} (h : Ins L M n) {i : Nat} (hi : i < L.length) (hg : Good L i) : endOf M (io n i) = io n (endOf L i) := by
  have h1 := h.endI hi hg
  have h2 := h.pos1 hi hg
  have : endOf M (io n i) = io n i + (sz M (io n i)).toNat := rfl
  omega
theorem plc_go (L : List Nd) (k : Nat) (hk : k < L.length) : place L k = if (nd L k).kind = 24 then place L (k + 1) else (nd L k).kind == 23 := by
  unfold place
  rw [List.drop_eq_getElem_cons hk]
  show (if L[k].kind = 24 then plc (L.drop (k + 1)) else L[k].kind == 23) = _
  have e : nd L k = L[k] := by simp [nd, List.getD_eq_getElem?_getD, List.getElem?_eq_getElem hk]
  rw [e]
theorem plc_out (L : List Nd) (k : Nat) (hk : L.length ≤ k) : place L k = false := by
  unfold place
  rw [List.drop_eq_nil_of_le hk]
  rfl
theorem Ins.plac {L M : List Nd} {n : Nat} (h : Ins L M n) : ∀ (f k : Nat), L.length - k ≤ f → place M (io n k) = place L k
  | 0, k, hf => by
    have := h.lt
    rw [plc_out L k (by omega), plc_out M _ (by rw [h.len, io_high (by omega)]; omega)]
  | f + 1, k, hf => by
    by_cases hk : k < L.length
    · have hk' : io n k < M.length := by
        rw [h.len]
        unfold io
        split <;> omega
      rw [plc_go L k hk, plc_go M _ hk', h.kind hk]
      by_cases h24 : (nd L k).kind = 24
      · have hne : k ≠ n := fun e => by
          have := h.blk
          rw [← e] at this
          omega
        rw [if_pos h24, if_pos h24, io_next hne, Ins.plac h f (k + 1) (by omega)]
      · rw [if_neg h24, if_neg h24]
    · have := h.lt
      rw [plc_out L k (by omega), plc_out M _ (by rw [h.len, io_high (by omega)]; omega)]
theorem Ins.mayI {L M : List Nd} {n : Nat} (h : Ins L M n) {m k : Nat} (hm : m < L.length) (hk : k < L.length) (gm : Good L m) (gk : Good L k) (c : Nat) : may M (io n m) (io n k) c = may L m k c := by
  have e1 := h.endI hm gm
  have e2 := h.endI hk gk
  have f1 : (endOf L m : Int) = m + sz L m := by unfold endOf; have := gm.1; omega
  have f2 : (endOf L k : Int) = k + sz L k := by unfold endOf; have := gk.1; omega
  have hlt : (((io n k : Nat) : Int) + sz M (io n k) < ((io n m : Nat) : Int) + sz M (io n m)) ↔ ((k : Int) + sz L k < (m : Int) + sz L m) := by
    rw [e1, e2, ← f1, ← f2]
    have := io_lt (n := n) (i := endOf L k) (j := endOf L m)
    omega
  unfold may
  simp only [h.kind hm, h.kind hk, hlt, h.plac _ k (Nat.le_refl _)]
theorem Ins.kids {L M : List Nd} {n : Nat} (h : Ins L M n) (hg : ∀ x, x < L.length → Good L x) {m e : Nat} (hm : m < L.length) (he : e ≤ L.length) : ∀ (f f' k c : Nat), e ≤ k + f → io n e ≤ io n k + f' → kidw M (io n m) (io n e) f' (io n k) c = kidw L m e f k c
  | 0, 0, k, c, _, _ => rfl
  | 0, f' + 1, k, c, h1, _ => by
    show (if io n e ≤ io n k then some c else _) = some c
    rw [if_pos (io_le.2 (by omega))]
  | f + 1, 0, k, c, _, h2 => by
    show some c = (if e ≤ k then some c else _)
    rw [if_pos (io_le.1 (by omega : io n e ≤ io n k))]
  | f + 1, f' + 1, k, c, h1, h2 => by
    show (if io n e ≤ io n k then some c else _) = (if e ≤ k then some c else _)
    by_cases hk : e ≤ k
    · rw [if_pos hk, if_pos (io_le.2 hk)]
    · have hk' : k < L.length := by omega
      have gk := hg k hk'
      have e1 := h.endI hk' gk
      have e2 := h.endO hk' gk
      have p1 := h.pos1 hk' gk
      have p2 := gk.1
      have f1 : (endOf L k : Int) = k + sz L k := by unfold endOf; omega
      have i1 := io_lt (n := n) (i := e) (j := endOf L k)
      have hnext : io n k + (sz M (io n k)).toNat = io n (k + (sz L k).toNat) := e2
      rw [if_neg hk, if_neg (fun q => hk (io_le.1 q)), h.mayI hm hk' (hg m hm) gk]
      have hcond : (sz M (io n k) < 1 ∨ ((io n e : Nat) : Int) - ((io n k : Nat) : Int) < sz M (io n k) ∨ may L m k c = false) ↔ (sz L k < 1 ∨ (e : Int) - k < sz L k ∨ may L m k c = false) := by
        constructor
        · rintro (q | q | q)
          · omega
          · exact .inr (.inl (by omega))
          · exact .inr (.inr q)
        · rintro (q | q | q)
          · omega
          · exact .inr (.inl (by omega))
          · exact .inr (.inr q)
      by_cases hc : sz L k < 1 ∨ (e : Int) - k < sz L k ∨ may L m k c = false
      · rw [if_pos hc, if_pos (hcond.2 hc)]
      · rw [if_neg hc, if_neg (fun q => hc (hcond.1 q)), hnext]
        refine Ins.kids h hg hm he f f' (k + (sz L k).toNat) (c + 1) (by omega) ?_
        have : io n k < io n (k + (sz L k).toNat) := io_lt.2 (by omega)
        omega
theorem kidw_shift (L : List Nd) (n e : Nat) (hk : (nd L n).kind = 4) : ∀ (f k c : Nat), kidw L n e f k (c + 1) = (kidw L n e f k c).map (· + 1)
  | 0, k, c => rfl
  | f + 1, k, c => by
    have hm : may L n k (c + 1) = may L n k c := by
      unfold may
      simp only [hk]
      rfl
    show (if e ≤ k then some (c + 1) else if _ then none else kidw L n e f _ (c + 1 + 1)) = Option.map (· + 1) (if e ≤ k then some c else if _ then none else kidw L n e f _ (c + 1))
    rw [hm, kidw_shift L n e hk f _ (c + 1)]
    split
    · rfl
    · split <;> rfl
theorem kidw_most (L : List Nd) (n e : Nat) : ∀ (f k c r : Nat), kidw L n e f k c = some r → r ≤ c + (e - k)
  | 0, k, c, r, h => by
    have : c = r := by simpa [kidw] using h
    omega
  | f + 1, k, c, r, h => by
    by_cases hk : k < e
    · obtain ⟨_, h2, h3, h4, _⟩ := kidw_one L n e f k c r h hk
      have := kidw_most L n e f _ _ r h2
      omega
    · unfold kidw at h
      rw [if_pos (by omega)] at h
      cases h
      omega
theorem Ins.fits {nm ty : ByteArray → Bool} {L M : List Nd} {n : Nat} (h : Ins L M n) (hg : ∀ x, x < L.length → Good L x) (hL : L.length ≤ 10000000000000) {m : Nat} (hm : m < L.length) (hf : fit nm ty L m = true) : fit nm ty M (io n m) = true := by
  have gm := hg m hm
  have he : endOf L m ≤ L.length := by
    have := gm.2
    have := gm.1
    unfold endOf
    omega
  have hml : m < endOf L m := by
    have := gm.1
    unfold endOf
    omega
  unfold fit at hf ⊢
  simp only [Bool.and_eq_true] at hf ⊢
  rw [h.kind hm]
  refine ⟨⟨hf.1.1, ?_⟩, ?_⟩
  · have : fieldsS nm ty (shp (nd L m).kind).1 (nd M (io n m)) = fieldsS nm ty (shp (nd L m).kind).1 (nd L m) := by
      rw [h.old m hm]
      rfl
    rw [this]
    exact hf.1.2
  · have hk := hf.2
    unfold kidsS at hk ⊢
    rw [h.endO hm gm]
    by_cases hmn : m = n
    · subst hmn
      have hio : io m m = m := io_low (Nat.le_refl _)
      have hie : io m (endOf L m) = endOf L m + 1 := io_high hml
      have hmay : may M m (m + 1) 0 = true := by
        unfold may
        have e1 : (nd M m).kind = 4 := by
          have := h.kind hm
          rw [hio] at this
          rw [this, h.blk]
        have e2 : (nd M (m + 1)).kind = 16 := by rw [h.hook]; rfl
        simp only [e1, e2]
        rfl
      have hs : sz M (m + 1) = 1 := by
        show (nd M (m + 1)).size = 1
        rw [h.hook]
        rfl
      have step : kidw M m (io m (endOf L m)) (M.length + 1) (m + 1) 0 = (kidw L m (endOf L m) (L.length + 1) (m + 1) 0).map (· + 1) := by
        have k1 : kidw M m (io m (endOf L m)) (M.length + 1) (m + 1) 0 = kidw M m (io m (endOf L m)) M.length (m + 2) 1 := by
          show (if io m (endOf L m) ≤ m + 1 then some 0 else if _ then none else _) = _
          rw [if_neg (by rw [hie]; omega), if_neg (by
            rw [hs, hmay, hie]
            rintro (q | q | q)
            · omega
            · omega
            · cases q), hs]
          rfl
        rw [k1]
        have k2 := h.kids hg hm he (L.length + 1) M.length (m + 1) 1 (by omega) (by rw [h.len, hie, io_high (by omega : m < m + 1)]; omega)
        rw [hio, io_high (by omega : m < m + 1)] at k2
        rw [k2, kidw_shift L m _ h.blk]
      rw [hio, step]
      cases hc : kidw L m (endOf L m) (L.length + 1) (m + 1) 0 with
      | none => rw [hc] at hk; exact hk
      | some c =>
        rw [hc] at hk
        have hmo := kidw_most L m _ _ _ _ _ hc
        rw [h.blk] at hk ⊢
        show (decide ((shp 4).1.fewest ≤ ((c + 1 : Nat) : Int)) && decide (((c + 1 : Nat) : Int) ≤ (shp 4).1.most)) = true
        have e1 : (shp 4).1.fewest = 0 := rfl
        have e2 : (shp 4).1.most = 9223372036854775807 := rfl
        rw [e1, e2]
        simp only [Bool.and_eq_true, decide_eq_true_eq]
        omega
    · rw [io_next hmn]
      have k2 := h.kids hg hm he (L.length + 1) (M.length + 1) (m + 1) 0 (by omega) (by
        rw [h.len]
        have : io n (endOf L m) ≤ endOf L m + 1 := by
          unfold io
          split <;> omega
        omega)
      rw [k2]
      exact hk
theorem Ins.tree {nm ty : ByteArray → Bool} {L M : List Nd} {n : Nat} (h : Ins L M n) (hL : L.length ≤ 10000000000000) (ht : treeS nm ty L = true) : treeS nm ty M = true := by
  obtain ⟨h0, h1⟩ := tree_parts ht
  have hg := (tr_of ht).good
  unfold treeS
  simp only [Bool.and_eq_true, List.all_eq_true, List.mem_range]
  refine ⟨?_, fun x hx => ?_⟩
  · have hn := h.lt
    unfold headS at h0 ⊢
    simp only [Bool.and_eq_true, decide_eq_true_eq, beq_iff_eq] at h0 ⊢
    have i0 : io n 0 = 0 := io_low (Nat.zero_le _)
    have s0 := h.size h0.1.1
    have k0 := h.kind h0.1.1
    rw [i0] at s0 k0
    rw [k0, s0, h.len, h0.1.2]
    refine ⟨⟨by omega, ?_⟩, h0.2⟩
    rw [if_pos ⟨Nat.zero_le _, by omega⟩]
    omega
  · by_cases hx1 : x = n + 1
    · subst hx1
      unfold fit kidsS
      have hs : sz M (n + 1) = 1 := by
        show (nd M (n + 1)).size = 1
        rw [h.hook]
        rfl
      have he : endOf M (n + 1) = n + 2 := by
        unfold endOf
        rw [hs]
        rfl
      have hkw : kidw M (n + 1) (n + 2) (M.length + 1) (n + 1 + 1) 0 = some 0 := by
        show (if n + 2 ≤ n + 1 + 1 then some 0 else _) = some 0
        rw [if_pos (Nat.le_refl _)]
      rw [he, hkw, h.hook]
      rfl
    · rw [h.len] at hx
      obtain ⟨i, hi, rfl⟩ := io_cover h.lt hx hx1
      exact h.fits hg hL hi (h1 i hi)
end Go.Proofs.YtlocaalipjjnpaaDoor

namespace Go.Proofs.YtlocaalipjjnpaaDoor

theorem stm_ge (L : List Nd) (e : Nat) : ∀ (f k x : Nat), x ∈ stm L e f k → k ≤ x ∧ x < e
  | 0, k, x, h => by cases h
  | f + 1, k, x, h => by
    unfold stm at h
    by_cases h1 : e ≤ k
    · rw [if_pos h1] at h; cases h
    · rw [if_neg h1] at h
      by_cases h2 : (nd L k).kind = 16
      · rw [if_pos h2] at h
        have := stm_ge L e f _ x h
        omega
      · rw [if_neg h2] at h
        rcases List.mem_cons.1 h with rfl | h
        · omega
        · have := stm_ge L e f _ x h
          omega
theorem stmS_ge {L : List Nd} {k e x : Nat} (h : x ∈ stmS L k e) : k ≤ x ∧ x < e := stm_ge L e _ k x h
theorem retL_congr {T T' : WT} {K : List Nat} (h : ∀ k ∈ K, T k = T' k) (b : Bool) : retL T K b = retL T' K b := by
  unfold retL
  induction K generalizing b with
  | nil => rfl
  | cons k K ih =>
    rw [List.foldl_cons, List.foldl_cons, h k (List.mem_cons_self ..)]
    exact ih (fun j hj => h j (List.mem_cons_of_mem _ hj)) _
theorem endL_congr {T T' : WT} {K : List Nat} (h : ∀ k ∈ K, T k = T' k) : endL T K = endL T' K := by
  unfold endL
  induction K with
  | nil => rfl
  | cons k K ih =>
    rw [List.all_cons, List.all_cons, h k (List.mem_cons_self ..), ih (fun j hj => h j (List.mem_cons_of_mem _ hj))]
theorem retL_map (T : WT) (f : Nat → Nat) (K : List Nat) (b : Bool) : retL T (K.map f) b = retL (fun k => T (f k)) K b := by
  unfold retL
  rw [List.foldl_map]
theorem endL_map (T : WT) (f : Nat → Nat) (K : List Nat) : endL T (K.map f) = endL (fun k => T (f k)) K := by
  unfold endL
  rw [List.all_map]
  rfl
/-- How a statement can be left hangs on those behind it alone. -/
theorem way_congr {L : List Nd} {T T' : WT} {i : Nat} (hg : ∀ x, x < L.length → Good L x) (hi : i < L.length) (hw : Wy L) (h : ∀ j, i < j → T j = T' j) : wayAt L T i = wayAt L T' i := by
  unfold wayAt
  split
  · rfl
  split
  · rfl
  split
  · rw [retL_congr (T := T) (T' := T') (fun k hk => h k (by have := (stmS_ge hk).1; omega)), endL_congr (T := T) (T' := T') (fun k hk => h k (by have := (stmS_ge hk).1; omega))]
  split
  · rename_i h7
    obtain ⟨h1, h2⟩ := hw.iff i hi h7
    have g1 := hg i hi
    have hle : endOf L i ≤ L.length := by have := g1.2; have := g1.1; unfold endOf; omega
    have g2 := hg (i + 1) (by omega)
    have g3 := hg (endOf L (i + 1)) (by omega)
    have e2 : i + 1 < endOf L (i + 1) := by have := g2.1; unfold endOf; omega
    have e3 : endOf L (i + 1) < endOf L (endOf L (i + 1)) := by
      have := g3.1
      have : endOf L (endOf L (i + 1)) = endOf L (i + 1) + (sz L (endOf L (i + 1))).toNat := rfl
      omega
    split
    · rfl
    · rw [h _ (by omega : i < endOf L (i + 1)), h _ (by omega : i < endOf L (endOf L (i + 1)))]
  · rfl
theorem tbl_keep (L : List Nd) (j : Nat) : ∀ (d d' : Nat), d ≤ d' → d' ≤ L.length → L.length - d ≤ j → tbl L d' j = tbl L d j
  | d, 0, h, _, _ => by
    obtain rfl : d = 0 := by omega
    rfl
  | d, d' + 1, h, h', hj => by
    by_cases he : d = d' + 1
    · subst he; rfl
    · show (if j = L.length - (d' + 1) then _ else tbl L d' j) = _
      rw [if_neg (by omega), tbl_keep L j d d' (by omega) (by omega) hj]
theorem tbl_fix {L : List Nd} (hw : Wy L) {i : Nat} (hi : i < L.length) : tbl L L.length i = wayAt L (tbl L L.length) i := by
  have h1 := tbl_keep L i (L.length - i) L.length (by omega) (Nat.le_refl _) (by omega)
  obtain ⟨d, hd⟩ : ∃ d, L.length - i = d + 1 := ⟨L.length - i - 1, by omega⟩
  rw [hd] at h1
  rw [h1]
  show (if i = L.length - (d + 1) then wayAt L (tbl L d) (L.length - (d + 1)) else _) = _
  rw [if_pos (by omega), show L.length - (d + 1) = i by omega]
  exact way_congr hw.good hi hw (fun j hj => (tbl_keep L j d L.length (by omega) (Nat.le_refl _) (by omega)).symm)
theorem Ins.stmI {L M : List Nd} {n : Nat} (h : Ins L M n) (hg : ∀ x, x < L.length → Good L x) (hgM : ∀ x, x < M.length → Good M x) {e : Nat} (he : e ≤ L.length) : ∀ (f k : Nat), e - k ≤ f → stmS M (io n k) (io n e) = (stmS L k e).map (io n)
  | 0, k, hf => by rw [stm_end L k e (by omega), stm_end M _ _ (io_le.2 (by omega))]; rfl
  | f + 1, k, hf => by
    by_cases hk : k < e
    · have hk' : k < L.length := by omega
      have hioe : io n e ≤ M.length := by
        rw [h.len]
        unfold io
        split <;> omega
      have hnext : io n k + (sz M (io n k)).toNat = io n (k + (sz L k).toNat) := h.endO hk' (hg k hk')
      have g1 := (hg k hk').1
      rw [stm_go L k e (fun x hx => (hg x (by omega)).1) hk, stm_go M _ _ (fun x hx => (hgM x (by omega)).1) (io_lt.2 hk), h.kind hk', hnext, Ins.stmI h hg hgM he f (k + (sz L k).toNat) (by omega)]
      split
      · rfl
      · rfl
    · rw [stm_end L k e (by omega), stm_end M _ _ (io_le.2 (by omega))]; rfl
/-- The ways of the nodes that were there stay. -/
theorem Ins.tbls {L M : List Nd} {n : Nat} (h : Ins L M n) (hw : Wy L) (hM : Wy M) : ∀ (f i : Nat), L.length - i ≤ f → i < L.length → tbl M M.length (io n i) = tbl L L.length i
  | 0, i, hf, hi => by omega
  | f + 1, i, hf, hi => by
    have hiM : io n i < M.length := by
      rw [h.len]
      unfold io
      split <;> omega
    have ih : ∀ j, i < j → j < L.length → tbl M M.length (io n j) = tbl L L.length j := fun j h1 h2 => Ins.tbls h hw hM f j (by omega) h2
    have gi := hw.good i hi
    have hle : endOf L i ≤ L.length := by have := gi.2; have := gi.1; unfold endOf; omega
    have heq := h.endO hi gi
    rw [tbl_fix hM hiM, tbl_fix hw hi]
    generalize tbl M M.length = TM at ih ⊢
    generalize tbl L L.length = TL at ih ⊢
    unfold wayAt
    rw [h.kind hi]
    split
    · rfl
    split
    · rfl
    split
    · have hst : stmS M (io n i + 1) (endOf M (io n i)) = (stmS L (i + 1) (endOf L i)).map (io n) := by
        rw [heq]
        have h1 := h.stmI hw.good hM.good hle _ (i + 1) (Nat.le_refl _)
        by_cases hin : i = n
        · subst hin
          rw [io_high (by omega : i < i + 1)] at h1
          have hlt : i < endOf L i := by have := gi.1; unfold endOf; omega
          have hioe : io i (endOf L i) ≤ M.length := by
            rw [h.len]
            unfold io
            split <;> omega
          have hs : sz M (i + 1) = 1 := by
            show (nd M (i + 1)).size = 1
            rw [h.hook]
            rfl
          rw [io_low (Nat.le_refl i), stm_go M (i + 1) _ (fun x hx => (hM.good x (by omega)).1) (by rw [io_high hlt]; omega), if_pos (by rw [h.hook]; rfl), hs]
          exact h1
        · rw [io_next hin]
          exact h1
      have hT : ∀ k ∈ stmS L (i + 1) (endOf L i), TM (io n k) = TL k := fun k hk => by
        have := stmS_ge hk
        exact ih k (by omega) (by omega)
      rw [hst, retL_map, endL_map, retL_congr (T := fun k => TM (io n k)) (T' := TL) hT, endL_congr (T := fun k => TM (io n k)) (T' := TL) hT]
    split
    · rename_i h7
      have hin : i ≠ n := fun e => by have := h.blk; rw [← e] at this; omega
      obtain ⟨h1, h2⟩ := hw.iff i hi h7
      have g2 := hw.good (i + 1) (by omega)
      have g3 := hw.good (endOf L (i + 1)) (by omega)
      have e2 : i + 1 < endOf L (i + 1) := by have := g2.1; unfold endOf; omega
      have e3 : endOf L (i + 1) < endOf L (endOf L (i + 1)) := by
        have := g3.1
        have : endOf L (endOf L (i + 1)) = endOf L (i + 1) + (sz L (endOf L (i + 1))).toNat := rfl
        omega
      have q1 := h.endO (by omega : i + 1 < L.length) g2
      have q2 := h.endO (by omega : endOf L (i + 1) < L.length) g3
      rw [heq, io_next hin, q1, q2]
      by_cases hc : endOf L i ≤ endOf L (endOf L (i + 1))
      · rw [if_pos hc, if_pos (io_le.2 hc)]
      · rw [if_neg hc, if_neg (fun q => hc (io_le.1 q)), ih _ (by omega) (by omega), ih _ (by omega) (by omega)]
    · rfl
theorem Ins.body {L M : List Nd} {n : Nat} (h : Ins L M n) (hw : Wy L) (hM : Wy M) {k : Nat} (hk : k < L.length) (h2 : (nd L k).kind = 2) : bodyOf M (io n k) = io n (bodyOf L k) := by
  have hkM : io n k < M.length := by
    rw [h.len]
    unfold io
    split <;> omega
  obtain ⟨a1, a2, a3, a4, a5⟩ := hw.fn k hk h2
  obtain ⟨b1, b2, b3, b4, b5⟩ := hM.fn (io n k) hkM (by rw [h.kind hk]; exact h2)
  have gk := hw.good k hk
  have hle : endOf L k ≤ L.length := by have := gk.2; have := gk.1; unfold endOf; omega
  have gM := hM.good (io n k) hkM
  have g4 : endOf M (io n k) ≤ M.length := by
    have q1 := gM.2
    have q2 := gM.1
    unfold endOf
    omega
  rcases Nat.lt_trichotomy (bodyOf M (io n k)) (io n (bodyOf L k)) with hc | hc | hc
  · exfalso
    by_cases hh : bodyOf M (io n k) = n + 1
    · rw [hh, h.hook] at b3
      exact absurd b3 (by decide)
    · obtain ⟨j, hj, hjj⟩ := io_cover h.lt (by rw [← h.len]; omega) hh
      rw [← hjj] at hc b1 b3
      have h3 := (a5 j (io_lt.1 b1) (io_lt.1 hc)).1
      rw [h.kind hj, h3] at b3
      exact absurd b3 (by decide)
  · exact hc
  · exfalso
    have h3 := (b5 (io n (bodyOf L k)) (io_lt.2 a1) hc).1
    rw [h.kind (by omega), a3] at h3
    exact absurd h3 (by decide)
theorem Ins.givesI {L M : List Nd} {n : Nat} (h : Ins L M n) (hw : Wy L) (hM : Wy M) {k : Nat} (hk : k < L.length) (res : ByteArray) : gives M (tbl M M.length) (io n k) res = gives L (tbl L L.length) k res := by
  unfold Go.Proofs.YtlocaalipjjnpaaDoor.gives
  rw [h.kind hk]
  split
  · rename_i h2
    obtain ⟨a1, a2, a3, a4, a5⟩ := hw.fn k hk h2
    have gk := hw.good k hk
    have hle : endOf L k ≤ L.length := by have := gk.2; have := gk.1; unfold endOf; omega
    rw [h.body hw hM hk h2, h.tbls hw hM _ (bodyOf L k) (Nat.le_refl _) (by omega)]
  split
  · rename_i h12
    have hkn : k ≠ n := fun e => by have := h.blk; rw [← e] at this; omega
    have : decide (1 < sz M (io n k)) = decide (1 < sz L k) := by
      rw [h.size hk]
      apply decide_eq_decide.2
      split
      · omega
      · omega
    rw [this]
  · rfl
theorem Ins.res {L M : List Nd} {n : Nat} (h : Ins L M n) {k : Nat} (hk : k < L.length) (res : ByteArray) : resAt (nd M (io n k)) res = resAt (nd L k) res := by
  unfold resAt
  rw [h.old k hk]
theorem Ins.chkI {L M : List Nd} {n : Nat} (h : Ins L M n) (hw : Wy L) (hM : Wy M) : ∀ (f k : Nat) (res : ByteArray), L.length - k ≤ f → k ≤ L.length → chkS M true (io n k) res = chkS L true k res
  | 0, k, res, hf, hk => by
    obtain rfl : k = L.length := by omega
    rw [io_high h.lt, ← h.len, chk_end, chk_end]
  | f + 1, k, res, hf, hk => by
    by_cases hlt : k < L.length
    · have hkM : io n k < M.length := by
        rw [h.len]
        unfold io
        split <;> omega
      have hpos : (nd M (io n k)).pos = (nd L k).pos := by rw [h.old k hlt]
      have hnx : chkS M true (io n k + 1) (resAt (nd L k) res) = chkS L true (k + 1) (resAt (nd L k) res) := by
        have ih := Ins.chkI h hw hM f (k + 1) (resAt (nd L k) res) (by omega) (by omega)
        by_cases hkn : k = n
        · subst hkn
          rw [io_high (by omega : k < k + 1)] at ih
          have hh : (nd M (k + 1)).kind = 16 := by rw [h.hook]; rfl
          have hg : Go.Proofs.YtlocaalipjjnpaaDoor.gives M (tbl M M.length) (k + 1) (resAt (nd M (k + 1)) (resAt (nd L k) res)) = true := by
            unfold Go.Proofs.YtlocaalipjjnpaaDoor.gives
            rw [hh]
            rfl
          have hr : resAt (nd M (k + 1)) (resAt (nd L k) res) = resAt (nd L k) res := by
            unfold resAt
            rw [hh]
            rfl
          have hkl := h.lt
          rw [io_low (Nat.le_refl k), chk_go M true (k + 1) _ (by rw [h.len]; omega), hg, hr]
          exact ih
        · rw [io_next hkn]
          exact ih
      rw [chk_go L true k res hlt, chk_go M true _ res hkM, h.res hlt, h.givesI hw hM hlt, hpos, hnx]
      rfl
    · obtain rfl : k = L.length := by omega
      rw [io_high h.lt, ← h.len, chk_end, chk_end]
/-- What is said where hooks may stand stays. -/
theorem Ins.check {nm ty : ByteArray → Bool} {L M : List Nd} {n : Nat} (h : Ins L M n) (hL : L.length ≤ 10000000000000) (ht : progS nm ty L = true) : progS nm ty M = true ∧ checkS nm ty M true = checkS nm ty L true := by
  have ht' := ht
  unfold progS at ht'
  simp only [Bool.and_eq_true, beq_iff_eq] at ht'
  have hM := h.tree hL ht'.1
  have h0 : 0 < L.length := by have := h.lt; omega
  have hp : progS nm ty M = true := by
    unfold progS
    simp only [Bool.and_eq_true, beq_iff_eq]
    have := h.kind h0
    rw [io_low (Nat.zero_le _)] at this
    exact ⟨hM, this.trans ht'.2⟩
  refine ⟨hp, ?_⟩
  unfold checkS
  rw [if_pos hp, if_pos ht]
  have := h.chkI (wy_of ht'.1) (wy_of hM) _ 0 ⟨#[]⟩ (Nat.le_refl _) (Nat.zero_le _)
  rw [io_low (Nat.zero_le _)] at this
  exact this
/-- Where hooks may not stand: the first of them is told, or what was wrong ahead of it. -/
theorem chk_false (L : List Nd) {j : Nat} (hj : j < L.length) (hh : hooked (nd L j) = true) : ∀ (f k : Nat) (res : ByteArray), L.length - k ≤ f → k ≤ j → (chkS L false k res).1 = 81 ∨ ((chkS L false k res).1 = 80 ∧ (chkS L true k res).1 = 80)
  | 0, k, res, hf, hk => by omega
  | f + 1, k, res, hf, hk => by
    rw [chk_go L false k res (by omega), chk_go L true k res (by omega)]
    by_cases h1 : hooked (nd L k) = true
    · rw [h1]
      exact .inl rfl
    · have hkj : k ≠ j := fun e => h1 (by rw [e]; exact hh)
      have h1' : hooked (nd L k) = false := by simpa using h1
      rw [h1']
      by_cases h2 : gives L (tbl L L.length) k (resAt (nd L k) res) = true
      · rw [h2]
        exact chk_false L hj hh f (k + 1) (resAt (nd L k) res) (by omega) (by omega)
      · have h2' : gives L (tbl L L.length) k (resAt (nd L k) res) = false := by simpa using h2
        rw [h2']
        exact .inr ⟨rfl, rfl⟩
end Go.Proofs.YtlocaalipjjnpaaDoor
