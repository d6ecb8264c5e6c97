import Derived.Test.YtekgnogjfggnmaaDoorTwinW
namespace Go.Proofs.YtekgnogjfggnmaaDoor
open Go.RowKit

theorem nd_modify (L : List Nd) (k i : Nat) (f : Nd → Nd) (hk : k < L.length) : nd (L.modify k f) i = if i = k then f (nd L i) else nd L i := by
  unfold nd
  rw [List.getD_eq_getElem?_getD, List.getElem?_modify]
  by_cases h : k = i
  · subst h
    rw [List.getD_eq_getElem?_getD, List.getElem?_eq_getElem hk]
    simp
  · rw [if_neg (Ne.symm h), List.getD_eq_getElem?_getD]
    simp [h]

/-- One field of one node is written. -/
theorem lay_put {w : World} {B : Nat} {L : List Nd} (h : Lay w B 0 L) (ht : w.there B 0 (L.length * 9)) (k j : Nat) (v : Value) (f : Nd → Nd) (hk : k < L.length) (hj : j < 9)
    (hf : ∀ (i : Nat) (u : Value), (ndV (f (nd L k)))[i]? = some u → (i = j → u = v) ∧ (i ≠ j → (ndV (nd L k))[i]? = some u)) :
    Lay (w.setCell ⟨B, k * 9 + j, none⟩ v) B 0 (L.modify k f) ∧ (w.setCell ⟨B, k * 9 + j, none⟩ v).there B 0 ((L.modify k f).length * 9) := by
  have hlen : (L.modify k f).length = L.length := by simp
  have hsome := (ht (k * 9 + j) (by omega)).1
  rw [Nat.zero_add] at hsome
  refine ⟨⟨by rw [size_set]; exact h.lt, fun i hi i' u hu => ?_⟩, fun i hi => ?_⟩
  · rw [hlen] at hi
    rw [nd_modify L k i f hk] at hu
    have hi' : i' < 9 := (Array.getElem?_eq_some_iff.1 hu).1
    rw [Nat.zero_add]
    by_cases e : i = k
    · subst e
      rw [if_pos rfl] at hu
      obtain ⟨h1, h2⟩ := hf i' u hu
      by_cases ej : i' = j
      · subst ej
        rw [h1 rfl]
        exact World.cell?_setCell_same' _ _ _ hsome
      · rw [World.cell?_setCell_other _ _ _ _ (fun e => ej (by have := congrArg Addr.off e; simp only at this; omega))]
        have := h.c i hi i' u (h2 ej)
        rw [Nat.zero_add] at this
        exact this
    · rw [if_neg e] at hu
      rw [World.cell?_setCell_other _ _ _ _ (fun e' => e (by have := congrArg Addr.off e'; simp only at this; omega))]
      have := h.c i hi i' u hu
      rw [Nat.zero_add] at this
      exact this
  · rw [hlen] at hi
    refine ⟨?_, by rw [World.frozen?_setCell]; exact (ht i hi).2⟩
    by_cases e : (0 + i) = k * 9 + j
    · rw [e, World.cell?_setCell_same' _ _ _ hsome]
      rfl
    · rw [World.cell?_setCell_other _ _ _ _ (fun e' => e (by have := congrArg Addr.off e'; simp only at this; omega))]
      exact (ht i hi).1

theorem fine_put {L : List Nd} (h : Fine L) (k : Nat) (f : Nd → Nd) (hk : k < L.length) (hf : ∀ x : Nd, x.name.size ≤ 140737488355328 ∧ x.label.size ≤ 140737488355328 ∧ x.typ.size ≤ 140737488355328 ∧ x.text.size ≤ 140737488355328 → (f x).name.size ≤ 140737488355328 ∧ (f x).label.size ≤ 140737488355328 ∧ (f x).typ.size ≤ 140737488355328 ∧ (f x).text.size ≤ 140737488355328) : Fine (L.modify k f) := by
  have hlen : (L.modify k f).length = L.length := by simp
  refine ⟨by rw [hlen]; exact h.len, fun i hi => ?_⟩
  rw [hlen] at hi
  rw [nd_modify L k i f hk]
  split
  · exact hf _ (h.txt i hi)
  · exact h.txt i hi

def fPos (a : Int) (x : Nd) : Nd := { x with pos := a }
def fKind (a : Int) (x : Nd) : Nd := { x with kind := a }
def fInt (a : Int) (x : Nd) : Nd := { x with int := a }
def fName (a : ByteArray) (x : Nd) : Nd := { x with name := a }

theorem put_at {x y : Nd} {j : Nat} {v : Value} (h : ∀ i : Nat, i < 9 → i ≠ j → (ndV y)[i]? = (ndV x)[i]?) (hv : (ndV y)[j]? = some v) : ∀ (i : Nat) (u : Value), (ndV y)[i]? = some u → (i = j → u = v) ∧ (i ≠ j → (ndV x)[i]? = some u) := fun i u hu =>
  ⟨fun e => by subst e; rw [hv] at hu; exact (Option.some.inj hu).symm, fun e => by rw [← h i (Array.getElem?_eq_some_iff.1 hu).1 e]; exact hu⟩
theorem nine {i : Nat} (h : i < 9) : i = 0 ∨ i = 1 ∨ i = 2 ∨ i = 3 ∨ i = 4 ∨ i = 5 ∨ i = 6 ∨ i = 7 ∨ i = 8 := by omega
theorem put_pos (x : Nd) (a : Int) : ∀ (i : Nat) (u : Value), (ndV (fPos a x))[i]? = some u → (i = 1 → u = .int .i64 a) ∧ (i ≠ 1 → (ndV x)[i]? = some u) :=
  put_at (fun i hi hj => by rcases nine hi with rfl | rfl | rfl | rfl | rfl | rfl | rfl | rfl | rfl <;> first | rfl | exact absurd rfl hj) rfl
theorem put_kind (x : Nd) (a : Int) : ∀ (i : Nat) (u : Value), (ndV (fKind a x))[i]? = some u → (i = 0 → u = .int .i64 a) ∧ (i ≠ 0 → (ndV x)[i]? = some u) :=
  put_at (fun i hi hj => by rcases nine hi with rfl | rfl | rfl | rfl | rfl | rfl | rfl | rfl | rfl <;> first | rfl | exact absurd rfl hj) rfl
theorem put_int (x : Nd) (a : Int) : ∀ (i : Nat) (u : Value), (ndV (fInt a x))[i]? = some u → (i = 6 → u = .int .i64 a) ∧ (i ≠ 6 → (ndV x)[i]? = some u) :=
  put_at (fun i hi hj => by rcases nine hi with rfl | rfl | rfl | rfl | rfl | rfl | rfl | rfl | rfl <;> first | rfl | exact absurd rfl hj) rfl
theorem put_name (x : Nd) (a : ByteArray) : ∀ (i : Nat) (u : Value), (ndV (fName a x))[i]? = some u → (i = 2 → u = .string a) ∧ (i ≠ 2 → (ndV x)[i]? = some u) :=
  put_at (fun i hi hj => by rcases nine hi with rfl | rfl | rfl | rfl | rfl | rfl | rfl | rfl | rfl <;> first | rfl | exact absurd rfl hj) rfl

/-! What Same says of the written lists. -/
theorem mv_fPos (L : List Nd) (k : Nat) (a : Int) : L.modify k (fPos a) = mv L k a := rfl

theorem alike_pos (x : Nd) (a : Int) : alikeB (fPos a x) x = true ∧ alikeB x (fPos a x) = true := by simp [alikeB, fPos]
theorem same_pos {L : List Nd} {k : Nat} {a : Int} (hk : k < L.length) (ha : 0 ≤ a) (h : treeS nameS typeS L = true) : sameS (L.modify k (fPos a)) L = true ∧ sameS L (L.modify k (fPos a)) = true := by
  have ht : treeS nameS typeS (L.modify k (fPos a)) = true := tree_mv nameS typeS L k a hk ha h
  have hlen : (L.modify k (fPos a)).length = L.length := by simp
  have h1 : sameL (L.modify k (fPos a)) L = true := same_yes hlen fun i _ => by
    rw [nd_modify L k i _ hk]
    split
    · exact (alike_pos _ a).1
    · simp [alikeB]
  have h2 : sameL L (L.modify k (fPos a)) = true := same_yes hlen.symm fun i _ => by
    rw [nd_modify L k i _ hk]
    split
    · exact (alike_pos _ a).2
    · simp [alikeB]
  unfold sameS
  rw [ht, h, h1, h2]
  exact ⟨rfl, rfl⟩

def eqB (x : Nd) (Kd It : Int) (Nm : ByteArray) : Bool := (Kd == x.kind) && (Nm.toList == x.name.toList) && (It == x.int)
theorem same_put {L : List Nd} {k : Nat} (Kd It : Int) (Nm : ByteArray) (hk : k < L.length) (h : treeS nameS typeS L = true) : sameS (((L.modify k (fKind Kd)).modify k (fInt It)).modify k (fName Nm)) L = eqB (nd L k) Kd It Nm := by
  have hk1 : k < (L.modify k (fKind Kd)).length := by simpa using hk
  have hk2 : k < ((L.modify k (fKind Kd)).modify k (fInt It)).length := by simpa using hk
  have hnd : ∀ i, nd (((L.modify k (fKind Kd)).modify k (fInt It)).modify k (fName Nm)) i = if i = k then fName Nm (fInt It (fKind Kd (nd L i))) else nd L i := fun i => by
    rw [nd_modify _ k i _ hk2, nd_modify _ k i _ hk1, nd_modify _ k i _ hk]
    split <;> rfl
  have hlen : (((L.modify k (fKind Kd)).modify k (fInt It)).modify k (fName Nm)).length = L.length := by simp
  have hal : alikeB (fName Nm (fInt It (fKind Kd (nd L k)))) (nd L k) = eqB (nd L k) Kd It Nm := by
    simp [alikeB, eqB, fName, fInt, fKind]
  cases hq : eqB (nd L k) Kd It Nm with
  | false =>
    unfold sameS
    rw [same_no (by rw [hlen]; exact hk) (by rw [hnd k, if_pos rfl, hal, hq])]
    simp
  | true =>
    have e : ((L.modify k (fKind Kd)).modify k (fInt It)).modify k (fName Nm) = L := by
      refine nd_ext hlen fun i _ => ?_
      rw [hnd i]
      split
      · rename_i e
        subst e
        unfold eqB at hq
        simp only [Bool.and_eq_true, beq_iff_eq] at hq
        obtain ⟨⟨q1, q2⟩, q3⟩ := hq
        have q2' : Nm = (nd L i).name := by
          rw [toL, toL] at q2
          exact ByteArray.ext (Array.ext' q2)
        unfold fName fInt fKind
        rw [q1, q2', q3]
      · rfl
    rw [e]
    unfold sameS
    rw [h, same_yes rfl fun _ _ => by simp [alikeB]]
    rfl

end Go.Proofs.YtekgnogjfggnmaaDoor
