import Derived.Test.YtekgnogjfggnmaaDoorTree
namespace Go.Proofs.YtekgnogjfggnmaaDoor


/-- A field that is never, perhaps or always filled. -/
def fitsS (w : Int) (t : ByteArray) (good : ByteArray → Bool) : Bool := if t.size = 0 then w != 2 else (w != 0 && good t)

/-- Are the fields as the kind's shape says? nm, ty: what names and types are. -/
def fieldsS (nm ty : ByteArray → Bool) (s : Shp) (x : Nd) : Bool :=
  decide (0 ≤ x.pos) && fitsS s.label x.label nm && fitsS s.name x.name nm && fitsS s.typ x.typ ty &&
    decide (s.leastInt ≤ x.int) && decide (x.int ≤ s.mostInt) && decide (s.firstOp ≤ x.op) && decide (x.op ≤ s.lastOp) && decide ((x.text.size : Int) ≤ s.longest)

def endOf (L : List Nd) (n : Nat) : Nat := n + (sz L n).toNat

def kidsS (L : List Nd) (s : Shp) (n : Nat) : Bool :=
  match kidw L n (endOf L n) (L.length + 1) (n + 1) 0 with
  | none => false
  | some c => decide (s.fewest ≤ (c : Int)) && decide ((c : Int) ≤ s.most)

def fit (nm ty : ByteArray → Bool) (L : List Nd) (n : Nat) : Bool :=
  (shp (nd L n).kind).2 && fieldsS nm ty (shp (nd L n).kind).1 (nd L n) && kidsS L (shp (nd L n).kind).1 n

def headS (L : List Nd) : Bool := decide (0 < L.length) && sz L 0 == (L.length : Int) && ((nd L 0).kind == 1 || isExpr (nd L 0).kind)

def treeS (nm ty : ByteArray → Bool) (L : List Nd) : Bool := headS L && (List.range L.length).all (fit nm ty L)

/-- A node's size keeps within the list. -/
def Good (L : List Nd) (n : Nat) : Prop := 1 ≤ sz L n ∧ (n : Int) + sz L n ≤ (L.length : Int)

theorem kw_at (L : List Nd) (n e : Nat) : ∀ (f k c : Nat), kidw L n e f k c ≠ none → e ≤ k + f → ∀ x, k ≤ x → x < e →
    ∃ κ, k ≤ κ ∧ κ ≤ x ∧ (x : Int) < κ + sz L κ ∧ 1 ≤ sz L κ ∧ (κ : Int) + sz L κ ≤ e
  | 0, k, c, _, hf, x, h1, h2 => by omega
  | f + 1, k, c, h, hf, x, h1, h2 => by
    unfold kidw at h
    rw [if_neg (by omega)] at h
    split at h
    · exact absurd rfl h
    · rename_i hc
      have hc1 : ¬ sz L k < 1 := fun q => hc (.inl q)
      have hc2 : ¬ (e : Int) - k < sz L k := fun q => hc (.inr (.inl q))
      by_cases hx : (x : Int) < k + sz L k
      · exact ⟨k, Nat.le_refl _, h1, hx, by omega, by omega⟩
      · obtain ⟨κ, a, b, c', d, g⟩ := kw_at L n e f _ _ h (by omega) x (by omega) h2
        exact ⟨κ, by omega, b, c', d, g⟩

theorem fit_kids {nm ty : ByteArray → Bool} {L : List Nd} {n : Nat} (h : fit nm ty L n = true) : kidw L n (endOf L n) (L.length + 1) (n + 1) 0 ≠ none := by
  unfold fit kidsS at h
  intro e
  rw [e] at h
  simp at h

theorem good_next {nm ty : ByteArray → Bool} {L : List Nd} {n : Nat} (hn : ∀ m, m < n → fit nm ty L m = true) : ∀ (d p : Nat), n - p ≤ d → p < n → Good L p → (n : Int) < p + sz L p → Good L n
  | 0, p, hd, hp, _, _ => by omega
  | d + 1, p, hd, hp, hg, hlt => by
    have he : (endOf L p : Int) = p + sz L p := by unfold endOf; have := hg.1; omega
    have := hg.2
    obtain ⟨κ, a, b, c, e, g⟩ := kw_at L p (endOf L p) (L.length + 1) (p + 1) 0 (fit_kids (hn p hp)) (by omega) n (by omega) (by omega)
    by_cases hk : κ = n
    · subst hk; exact ⟨e, by omega⟩
    · exact good_next hn d κ (by omega) (by omega) ⟨e, by omega⟩ c

theorem good_of {nm ty : ByteArray → Bool} {L : List Nd} {n : Nat} (h0 : headS L = true) (hn : ∀ m, m < n → fit nm ty L m = true) (hl : n < L.length) : Good L n := by
  unfold headS at h0
  simp only [Bool.and_eq_true, decide_eq_true_eq, beq_iff_eq] at h0
  have hg : Good L 0 := ⟨by omega, by omega⟩
  by_cases h : n = 0
  · subst h; exact hg
  · exact good_next hn n 0 (by omega) (by omega) hg (by omega)

/-! Other places make no difference. -/
def mv (L : List Nd) (n : Nat) (a : Int) : List Nd := L.modify n fun x => { x with pos := a }

theorem nd_mv (L : List Nd) (n k : Nat) (a : Int) (hn : n < L.length) : nd (mv L n a) k = if k = n then { nd L k with pos := a } else nd L k := by
  unfold nd mv
  rw [List.getD_eq_getElem?_getD, List.getElem?_modify]
  by_cases h : n = k
  · subst h
    rw [List.getD_eq_getElem?_getD, List.getElem?_eq_getElem hn]
    simp
  · rw [if_neg (Ne.symm h), List.getD_eq_getElem?_getD]
    simp [h]

theorem sz_mv (L : List Nd) (n k : Nat) (a : Int) (hn : n < L.length) : sz (mv L n a) k = sz L k := by
  unfold sz; rw [nd_mv L n k a hn]; split <;> rfl
theorem kind_mv (L : List Nd) (n k : Nat) (a : Int) (hn : n < L.length) : (nd (mv L n a) k).kind = (nd L k).kind := by
  rw [nd_mv L n k a hn]; split <;> rfl

theorem plc_kinds : ∀ (A B : List Nd), A.map (·.kind) = B.map (·.kind) → plc A = plc B
  | [], [], _ => rfl
  | [], _ :: _, h => by simp at h
  | _ :: _, [], h => by simp at h
  | x :: A, y :: B, h => by
    simp only [List.map_cons, List.cons.injEq] at h
    unfold plc
    rw [h.1, plc_kinds A B h.2]

theorem kinds_mv (L : List Nd) (n : Nat) (a : Int) : (mv L n a).map (·.kind) = L.map (·.kind) := by
  unfold mv
  apply List.ext_getElem?
  intro i
  simp only [List.getElem?_map, List.getElem?_modify]
  cases L[i]? with
  | none => rfl
  | some x => simp only [Option.map_some]; split <;> rfl

theorem place_mv (L : List Nd) (n k : Nat) (a : Int) : place (mv L n a) k = place L k := by
  unfold place
  apply plc_kinds
  rw [List.map_drop, List.map_drop, kinds_mv]

theorem may_mv (L : List Nd) (n p k c : Nat) (a : Int) (hn : n < L.length) : may (mv L n a) p k c = may L p k c := by
  unfold may
  simp only [kind_mv L n _ a hn, sz_mv L n _ a hn, place_mv]

theorem kw_mv (L : List Nd) (n p e : Nat) (a : Int) (hn : n < L.length) : ∀ f k c, kidw (mv L n a) p e f k c = kidw L p e f k c
  | 0, _, _ => rfl
  | f + 1, k, c => by
    unfold kidw
    rw [sz_mv L n _ a hn, may_mv L n _ _ _ a hn, kw_mv L n p e a hn f]

theorem len_mv (L : List Nd) (n : Nat) (a : Int) : (mv L n a).length = L.length := by unfold mv; simp

theorem fields_mv (nm ty : ByteArray → Bool) (s : Shp) (x : Nd) (a : Int) (h0 : 0 ≤ x.pos) (ha : 0 ≤ a) : fieldsS nm ty s { x with pos := a } = fieldsS nm ty s x := by
  unfold fieldsS
  simp [h0, ha]

theorem tree_mv (nm ty : ByteArray → Bool) (L : List Nd) (n : Nat) (a : Int) (hn : n < L.length) (ha : 0 ≤ a) (h : treeS nm ty L = true) : treeS nm ty (mv L n a) = true := by
  unfold treeS at h ⊢
  simp only [Bool.and_eq_true, List.all_eq_true, List.mem_range] at h ⊢
  refine ⟨?_, fun k hk => ?_⟩
  · have := h.1
    unfold headS at this ⊢
    rw [len_mv, sz_mv L n _ a hn, kind_mv L n _ a hn]
    exact this
  · rw [len_mv] at hk
    have hf := h.2 k hk
    unfold fit kidsS endOf at hf ⊢
    rw [kind_mv L n _ a hn, sz_mv L n _ a hn, len_mv, kw_mv L n _ _ a hn, nd_mv L n _ a hn]
    split
    · rename_i e
      rw [fields_mv _ _ _ _ _ ?_ ha]
      · exact hf
      · simp only [Bool.and_eq_true] at hf
        have := hf.1.2
        unfold fieldsS at this
        simp only [Bool.and_eq_true, decide_eq_true_eq] at this
        exact this.1.1.1.1.1.1.1.1
    · exact hf

end Go.Proofs.YtekgnogjfggnmaaDoor
