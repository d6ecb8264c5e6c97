namespace Go.Proofs.YtekgnogjfggnmaaGreatDoor
structure Nd where
 kind : Int
 pos : Int
 name : ByteArray
 label : ByteArray
 typ : ByteArray
 op : Int
 int : Int
 text : ByteArray
 size : Int
deriving DecidableEq
instance : Inhabited Nd := ⟨⟨0, 0, ⟨#[]⟩, ⟨#[]⟩, ⟨#[]⟩, 0, 0, ⟨#[]⟩, 0⟩⟩
structure Shp where
 label : Int
 name : Int
 typ : Int
 leastInt : Int
 mostInt : Int
 firstOp : Int
 lastOp : Int
 longest : Int
 fewest : Int
 most : Int
def nilShp : Shp := ⟨0, 0, 0, 0, 0, 0, 0, 0, 0, 0⟩
def shp (k : Int) : Shp × Bool :=
 if k = 1 ∨ k = 4 then ({ nilShp with most := 9223372036854775807 }, true)
 else if k = 2 then ({ nilShp with name := 2, typ := 1, fewest := 1, most := 9 }, true)
 else if k = 3 then ({ nilShp with name := 2, typ := 2 }, true)
 else if k = 5 then ({ nilShp with name := 2, typ := 2, fewest := 1, most := 1 }, true)
 else if k = 6 ∨ k = 24 then ({ nilShp with fewest := 2, most := 2 }, true)
 else if k = 7 then ({ nilShp with fewest := 2, most := 3 }, true)
 else if k = 8 then ({ nilShp with label := 1, fewest := 2, most := 2 }, true)
 else if k = 9 then ({ nilShp with label := 1, name := 2, fewest := 3, most := 3 }, true)
 else if k = 10 ∨ k = 11 then ({ nilShp with label := 1 }, true)
 else if k = 12 then ({ nilShp with mostInt := 40000, most := 1 }, true)
 else if k = 13 then ({ nilShp with fewest := 1, most := 16 }, true)
 else if k = 14 ∨ k = 15 ∨ k = 29 ∨ k = 30 then ({ nilShp with fewest := 1, most := 1 }, true)
 else if k = 16 then ({ nilShp with leastInt := 1, mostInt := 40000, name := 1 }, true)
 else if k = 20 then ({ nilShp with mostInt := 9223372036854775807 }, true)
 else if k = 21 then ({ nilShp with mostInt := 1 }, true)
 else if k = 22 then ({ nilShp with longest := 200 }, true)
 else if k = 23 then ({ nilShp with name := 2 }, true)
 else if k = 25 then ({ nilShp with name := 2, most := 9223372036854775807 }, true)
 else if k = 26 then ({ nilShp with firstOp := 1, lastOp := 2, fewest := 1, most := 1 }, true)
 else if k = 27 then ({ nilShp with firstOp := 3, lastOp := 15, fewest := 2, most := 2 }, true)
 else if k = 28 then ({ nilShp with typ := 2, fewest := 1, most := 1 }, true)
 else (nilShp, false)
abbrev nd (L : List Nd) (k : Nat) : Nd := L.getD k default
abbrev sz (L : List Nd) (k : Nat) : Int := (nd L k).size
def isExpr (k : Int) : Bool := decide (20 ≤ k) && decide (k ≤ 30)
def isStmt (k : Int) : Bool := k == 4 || (decide (5 ≤ k) && decide (k ≤ 16))
def plc : List Nd → Bool
 | [] => false
 | x :: r => if x.kind = 24 then plc r else x.kind == 23
def place (L : List Nd) (n : Nat) : Bool := plc (L.drop n)
def may (L : List Nd) (n k c : Nat) : Bool :=
 let q := (nd L k).kind
 let p := (nd L n).kind
 if p = 1 then q == 2
 else if p = 2 then (if (k : Int) + sz L k < (n : Int) + sz L n then q == 3 else q == 4)
 else if p = 4 then isStmt q
 else if p = 6 ∧ c = 0 then place L k
 else if p = 14 then place L k
 else if p = 15 then q == 25
 else if p = 7 ∧ 0 < c then q == 4 || (c == 2 && q == 7)
 else if p = 8 ∧ c = 1 then q == 4
 else if p = 9 ∧ c = 2 then q == 4
 else isExpr q
def kidw (L : List Nd) (n e : Nat) : Nat → Nat → Nat → Option Nat
 | 0, _, c => some c
 | f + 1, k, c =>
  if e ≤ k then some c
  else if sz L k < 1 ∨ (e : Int) - k < sz L k ∨ may L n k c = false then none
  else kidw L n e f (k + (sz L k).toNat) (c + 1)
def fitsS (w : Int) (t : ByteArray) (good : ByteArray → Bool) : Bool := if t.size = 0 then w != 2 else (w != 0 && good t)
def fieldsS (nm ty : ByteArray → Bool) (s : Shp) (x : Nd) : Bool :=
 decide (0 ≤ x.pos) && fitsS s.label x.label nm && fitsS s.name x.name nm && fitsS s.typ x.typ ty &&
  decide (s.leastInt ≤ x.int) && decide (x.int ≤ s.mostInt) && decide (s.firstOp ≤ x.op) && decide (x.op ≤ s.lastOp) && decide ((x.text.size : Int) ≤ s.longest)
def endOf (L : List Nd) (n : Nat) : Nat := n + (sz L n).toNat
def kidsS (L : List Nd) (s : Shp) (n : Nat) : Bool :=
 match kidw L n (endOf L n) (L.length + 1) (n + 1) 0 with
 | none => false
 | some c => decide (s.fewest ≤ (c : Int)) && decide ((c : Int) ≤ s.most)
def fit (nm ty : ByteArray → Bool) (L : List Nd) (n : Nat) : Bool :=
 (shp (nd L n).kind).2 && fieldsS nm ty (shp (nd L n).kind).1 (nd L n) && kidsS L (shp (nd L n).kind).1 n
def headS (L : List Nd) : Bool := decide (0 < L.length) && sz L 0 == (L.length : Int) && ((nd L 0).kind == 1 || isExpr (nd L 0).kind)
def treeS (nm ty : ByteArray → Bool) (L : List Nd) : Bool := headS L && (List.range L.length).all (fit nm ty L)
def Good (L : List Nd) (n : Nat) : Prop := 1 ≤ sz L n ∧ (n : Int) + sz L n ≤ (L.length : Int)
theorem kw_at (L : List Nd) (n e : Nat) : ∀ (f k c : Nat), kidw L n e f k c ≠ none → e ≤ k + f → ∀ x, k ≤ x → x < e →
 ∃ κ, k ≤ κ ∧ κ ≤ x ∧ (x : Int) < κ + sz L κ ∧ 1 ≤ sz L κ ∧ (κ : Int) + sz L κ ≤ e
 | 0, k, c, _, hf, x, h1, h2 => by omega
 | f + 1, k, c, h, hf, x, h1, h2 => by
  unfold kidw at h
  rw [if_neg (by omega)] at h
  split at h
  ·exact absurd rfl h
  ·rename_i hc
   have hc1 : ¬ sz L k < 1 := fun q => hc (.inl q)
   have hc2 : ¬ (e : Int) - k < sz L k := fun q => hc (.inr (.inl q))
   by_cases hx : (x : Int) < k + sz L k
   ·exact ⟨k, Nat.le_refl _, h1, hx, by omega, by omega⟩
   ·obtain ⟨κ, a, b, c', d, g⟩ := kw_at L n e f _ _ h (by omega) x (by omega) h2
    exact ⟨κ, by omega, b, c', d, g⟩
theorem fit_kids {nm ty : ByteArray → Bool} {L : List Nd} {n : Nat} (h : fit nm ty L n = true) : kidw L n (endOf L n) (L.length + 1) (n + 1) 0 ≠ none := by
 unfold fit kidsS at h
 intro e
 rw [e] at h
 simp at h
theorem good_next {nm ty : ByteArray → Bool} {L : List Nd} {n : Nat} (hn : ∀ m, m < n → fit nm ty L m = true) : ∀ (d p : Nat), n - p ≤ d → p < n → Good L p → (n : Int) < p + sz L p → Good L n
 | 0, p, hd, hp, _, _ => by omega
 | d + 1, p, hd, hp, hg, hlt => by
  have he : (endOf L p : Int) = p + sz L p := by unfold endOf; have := hg.1; omega
  have := hg.2
  obtain ⟨κ, a, b, c, e, g⟩ := kw_at L p (endOf L p) (L.length + 1) (p + 1) 0 (fit_kids (hn p hp)) (by omega) n (by omega) (by omega)
  by_cases hk : κ = n
  ·subst hk; exact ⟨e, by omega⟩
  ·exact good_next hn d κ (by omega) (by omega) ⟨e, by omega⟩ c
theorem good_of {nm ty : ByteArray → Bool} {L : List Nd} {n : Nat} (h0 : headS L = true) (hn : ∀ m, m < n → fit nm ty L m = true) (hl : n < L.length) : Good L n := by
 unfold headS at h0
 simp only [Bool.and_eq_true, decide_eq_true_eq, beq_iff_eq] at h0
 have hg : Good L 0 := ⟨by omega, by omega⟩
 by_cases h : n = 0
 ·subst h; exact hg
 ·exact good_next hn n 0 (by omega) (by omega) hg (by omega)
structure Tr (L : List Nd) : Prop where
 pos : 0 < L.length
 root : sz L 0 = (L.length : Int)
 kids : ∀ n, n < L.length → kidw L n (endOf L n) (L.length + 1) (n + 1) 0 ≠ none
 idx : ∀ n, n < L.length → (nd L n).kind = 24 → kidw L n (endOf L n) (L.length + 1) (n + 1) 0 = some 2
 good : ∀ n, n < L.length → Good L n
theorem tree_parts {nm ty : ByteArray → Bool} {L : List Nd} (h : treeS nm ty L = true) : headS L = true ∧ ∀ n, n < L.length → fit nm ty L n = true := by
 unfold treeS at h
 simpa only [Bool.and_eq_true, List.all_eq_true, List.mem_range] using h
theorem tr_of {nm ty : ByteArray → Bool} {L : List Nd} (h : treeS nm ty L = true) : Tr L := by
 obtain ⟨h0, h1⟩ := tree_parts h
 have hh := h0
 unfold headS at hh
 simp only [Bool.and_eq_true, decide_eq_true_eq, beq_iff_eq] at hh
 refine ⟨hh.1.1, hh.1.2, fun n hn => fit_kids (h1 n hn), fun n hn hk => ?_, fun n hn => good_of h0 (fun m hm => h1 m (by omega)) hn⟩
 have hf := h1 n hn
 unfold fit kidsS at hf
 rw [hk] at hf
 have hs : shp 24 = ({ nilShp with fewest := 2, most := 2 }, true) := by rfl
 rw [hs] at hf
 simp only [Bool.and_eq_true] at hf
 have h3 := hf.2
 split at h3
 ·simp at h3
 ·rename_i c hc
  simp only [Bool.and_eq_true, decide_eq_true_eq] at h3
  rw [hc]
  congr 1
  omega
theorem Tr.nest {L : List Nd} (h : Tr L) : ∀ (d q m : Nat), m - q ≤ d → q < L.length → q ≤ m → (m : Int) < q + sz L q → (m : Int) + sz L m ≤ q + sz L q
 | 0, q, m, hd, _, h1, _ => by obtain rfl : m = q := by omega
                               exact Int.le_refl _
 | d + 1, q, m, hd, hq, h1, h2 => by
  by_cases e : m = q
  ·subst e; exact Int.le_refl _
  ·obtain ⟨g1, g2⟩ := h.good q hq
   have he : (endOf L q : Int) = q + sz L q := by unfold endOf; omega
   obtain ⟨κ, a, b, c, e', g⟩ := kw_at L q (endOf L q) (L.length + 1) (q + 1) 0 (h.kids q hq) (by omega) m (by omega) (by omega)
   have := h.nest d κ m (by omega) (by omega) b c
   omega
def par (L : List Nd) (n : Nat) : Nat → Int
 | 0 => -1
 | p + 1 => if (p : Int) + sz L p ≤ n then par L n p else (p : Int)
def kidL (L : List Nd) (e : Nat) : Nat → Nat → List Nat
 | 0, _ => []
 | f + 1, k => if e ≤ k then [] else k :: kidL L e f (k + (sz L k).toNat)
end Go.Proofs.YtekgnogjfggnmaaGreatDoor
