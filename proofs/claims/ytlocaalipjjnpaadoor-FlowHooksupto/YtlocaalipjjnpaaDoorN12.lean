import Derived.Laws.CopyOwn
import Derived.Laws.MakeOwn
import Derived.Deep.MidRow
import Derived.Test.YtlocaalipjjnpaaDoorN11
namespace Go.Proofs.YtlocaalipjjnpaaDoor
open Go.RowKit

/-- The cells of a list's nodes, one behind the other. -/
def flat (L : List Nd) : List Value := L.flatMap fun x => (ndV x).toList
theorem flat_len : ∀ L : List Nd, (flat L).length = L.length * 9
  | [] => rfl
  | x :: L => by
    have := flat_len L
    unfold flat at this ⊢
    rw [List.flatMap_cons, List.length_append, this, List.length_cons]
    show 9 + L.length * 9 = _
    omega
theorem flat_at : ∀ (L : List Nd) (i j : Nat), i < L.length → j < 9 → (flat L)[i * 9 + j]? = (ndV (nd L i))[j]?
  | [], i, j, h, _ => by simp at h
  | x :: L, 0, j, _, hj => by
    unfold flat
    rw [List.flatMap_cons, Nat.zero_mul, Nat.zero_add, List.getElem?_append_left (show j < 9 from hj)]
    simp [nd]
  | x :: L, i + 1, j, h, hj => by
    have := flat_at L i j (by simpa using h) hj
    unfold flat at this ⊢
    rw [List.flatMap_cons, List.getElem?_append_right (show 9 ≤ (i + 1) * 9 + j by omega)]
    rw [show (i + 1) * 9 + j - (ndV x).toList.length = i * 9 + j by show (i + 1) * 9 + j - 9 = _; omega, this]
    simp [nd]
theorem flat_one (L : List Nd) : ∀ v ∈ flat L, v.oneCell' = true := by
  intro v hv
  obtain ⟨x, _, hx⟩ := List.mem_flatMap.1 hv
  simp only [ndV, List.mem_cons, List.not_mem_nil, or_false] at hx
  rcases hx with rfl | rfl | rfl | rfl | rfl | rfl | rfl | rfl | rfl <;> rfl
theorem lay_of_range {w : World} {B : Nat} {L : List Nd} (hB : B < w.heap.size) (h : w.rangeAt B 0 (flat L)) : Lay w B 0 L :=
  ⟨hB, fun i hi j v hv => by
    have hj : j < 9 := (Array.getElem?_eq_some_iff.1 hv).1
    have := h (i * 9 + j) v (by rw [flat_at L i j hi hj]; exact hv)
    rw [Nat.zero_add] at this ⊢
    exact this⟩

theorem info36 : (Tryd.prog.info? 39).map (fun i => (i.zero, i.size, i.bytes)) = some (some (.agg #[.int .i64 0, .int .i64 0, .string ⟨#[]⟩, .string ⟨#[]⟩, .string ⟨#[]⟩, .int .i64 0, .int .i64 0, .string ⟨#[]⟩, .int .i64 0]), 9, 104) := by kernel_rfl
theorem size36 : (Tryd.prog.info? 39).map (·.size) = some 9 := by kernel_rfl

/-- A copy of nodes. -/
theorem run_copy9 (w : World) (ty : TypeId) (B dLen dCap : Nat) (a : Addr) (n sCap : Nat) (cs : List Value) (hl : cs.length = n * 9) (hd : n ≤ dLen)
    (hsrc : ∀ j v, cs[j]? = some v → w.cell? (a.add j) = some v) (ht : w.there B 0 cs.length) (h1 : ∀ v ∈ cs, v.oneCell' = true) :
    (Builtin.copy_ #[22, 22] ty #[.slice (some ⟨B, 0, none⟩) dLen dCap, .slice (some a) n sCap]).run Tryd.prog w = .ok (goInt n) (w.setCells B 0 cs) := by
  have hll := run_loadCells_list (P := Tryd.prog) w a cs hsrc
  have hst := run_storeCells_cells (P := Tryd.prog) B 0 cs 0 w (fun j hj => by simpa using (ht j hj).1) (fun j hj => by simpa using (ht j hj).2) h1
  obtain ⟨i, hq, _, hi, _⟩ := info_parts info36
  have hm : min n dLen = n := by omega
  rw [hl] at hll
  simp [Builtin.copy_, run_underlying Tryd.underlying22, Builtin.lenOf, Builtin.firstCells, sizeOf, typeInfo, hq, hi, hm, hll, hst]

theorem wpList_copy9 {w : World} {ops : Array Oper} {rest : List Oper} {o : Oper} {a : Act} {Q : Exit → Act → World → Prop} (hgd : o.guard = none) (d s : Operand)
    (ho : o.op = .call { callee := .builtin .copy, args := #[d, s], argTypes := #[22, 22] }) (B dLen dCap : Nat) (ad : Addr) (n sCap : Nat) (hd : a.eval d = .slice (some ⟨B, 0, none⟩) dLen dCap) (hs : a.eval s = .slice (some ad) n sCap)
    (cs : List Value) (hl : cs.length = n * 9) (hn : n ≤ dLen) (hsrc : ∀ j v, cs[j]? = some v → w.cell? (ad.add j) = some v) (ht : w.there B 0 cs.length) (h1 : ∀ v ∈ cs, v.oneCell' = true)
    (h : wpList Tryd.prog ops Q rest (a.put o.dst (goInt n)) (w.setCells B 0 cs)) : wpList Tryd.prog ops Q (o :: rest) a w := by
  refine wpList_plain hgd fun K hK => ?_
  have hrun := run_copy9 w o.type B dLen dCap ad n sCap cs hl hn hsrc ht h1
  unfold Oper.wp
  simp [execOp, ho, resolve, invoke, builtin, hd, hs, hrun, Result.andThen]
  exact hK _ _ h

end Go.Proofs.YtlocaalipjjnpaaDoor

namespace Go.Proofs.YtlocaalipjjnpaaDoor
open Go.RowKit

def mark (s : ByteArray) : Array Value := #[.int .i64 0, .int .i64 0, .string s, .string ⟨#[]⟩, .string ⟨#[]⟩, .int .i64 0, .int .i64 0, .string ⟨#[]⟩, .int .i64 0]

theorem mark_one (s : ByteArray) : (mark s).all (·.oneCell') = true := by
  have h : ∀ v ∈ (mark s).toList, v.oneCell' = true := by
    intro v hv
    simp only [mark, List.mem_cons, List.not_mem_nil, or_false] at hv
    rcases hv with rfl | rfl | rfl | rfl | rfl | rfl | rfl | rfl | rfl <;> rfl
  exact all_oneCell_toArray h

theorem run_make9 (n : Nat) (hn : n ≤ 1353245080300) : ∃ Z : Array Value, Z.size = (n + 2) * 9 ∧ ∀ w : World, (Instr.makeSlice 22 (.int .i64 ((n : Int) + 2)) (.int .i64 ((n : Int) + 2))).run Tryd.prog w = .ok (.slice (some ⟨w.heap.size, 0, none⟩) (n + 2) (n + 2)) (w.alloc (.cells Z 39)) := by
  obtain ⟨i, hq, hz, hi, hb⟩ := info_parts info36
  refine ⟨_, size_madeCells (Value.agg #[.int .i64 0, .int .i64 0, .string ⟨#[]⟩, .string ⟨#[]⟩, .string ⟨#[]⟩, .int .i64 0, .int .i64 0, .string ⟨#[]⟩, .int .i64 0]).cells ((n + 2) * 9), fun w => ?_⟩
  have := run_make (P := Tryd.prog) w 22 39 i _ Tryd.underlying22 hq hz .i64 .i64 ((n : Int) + 2) ((n : Int) + 2) (by omega) (by omega) (by rw [hb]; omega) (by omega)
  rw [show ((n : Int) + 2).toNat = n + 2 by omega, hi] at this
  exact this

theorem there_new (w : World) (Z : Array Value) (t : TypeId) (B k : Nat) (hB : B = w.heap.size) (hk : k ≤ Z.size) : (w.alloc (.cells Z t)).there B 0 k := fun j hj => by
  subst hB
  have h := heap_alloc_new w (.cells Z t)
  refine ⟨?_, ?_⟩
  · simp only [World.cell?, h]
    simp [show j < Z.size by omega]
  · simp only [World.frozen?, h]
    simp
theorem there_set {w : World} {B k : Nat} (h : w.there B 0 k) (C o : Nat) (vs : List Value) : (w.setCells C o vs).there B 0 k := fun j hj =>
  ⟨World.isSome_setCells C vs o w _ (h j hj).1, by rw [World.frozen?_setCells]; exact (h j hj).2⟩
theorem there_sub {w : World} {B k : Nat} (h : w.there B 0 k) (o m : Nat) (hm : o + m ≤ k) : w.there B o m := fun j hj => by
  have := h (o + j) (by omega)
  rwa [Nat.zero_add] at this
theorem setCells_cell {w : World} {B o : Nat} (vs : List Value) {a : Addr} (h : a.block ≠ B) : (w.setCells B o vs).cell? a = w.cell? a :=
  World.cell?_setCells_out B vs o w a (fun hb _ => absurd hb h)
theorem setCells_size (w : World) (B : Nat) : ∀ (vs : List Value) (o : Nat), (w.setCells B o vs).heap.size = w.heap.size := by
  intro vs
  induction vs generalizing w with
  | nil => intro o; rfl
  | cons v r ih => intro o; rw [World.setCells, ih, size_set]
theorem below_setCells {w0 w : World} {N B : Nat} (hB : N ≤ B) : ∀ (vs : List Value) (o : Nat), Below N w0 w → Below N w0 (w.setCells B o vs) := by
  intro vs
  induction vs generalizing w with
  | nil => intro o h; exact h
  | cons v r ih => intro o h; rw [World.setCells]; exact ih _ (h.setCell (p := ⟨B, o, none⟩) hB v)

/-- A twin: a list of its own. -/
def Twn (w w' : World) (L : List Nd) (p' : Option Addr) : Prop := L ≠ [] → ∃ B, p' = some ⟨B, 0, none⟩ ∧ w.heap.size ≤ B ∧ Lay w' B 0 L ∧ w'.there B 0 (L.length * 9)

theorem nil_eq (p : Option Addr) (n cap : Nat) : ∀ w : World, (binOp BinOp.eql 22 (.slice p n cap) (.slice none 0 0)).run Tryd.prog w = .ok (.bool p.isNone) w := by
  intro w
  cases p with
  | none => kernel_rfl
  | some a => kernel_rfl

theorem Twn.reads {w w' : World} {L : List Nd} {p' : Option Addr} (h : Twn w w' L p') (hf : Fine L) : Reads w' p' L.length L :=
  ⟨hf, rfl, fun hn => by obtain ⟨B, e, _, hl, _⟩ := h hn; exact ⟨B, 0, e, hl⟩⟩

/-- A tree that was handed in. -/
structure Arg (w : World) (p : Option Addr) (n cap : Nat) (L : List Nd) : Prop where
  reads : Reads w p n L
  nil : p = none → n = 0 ∧ cap = 0
theorem Arg.next {w w' : World} {p : Option Addr} {n cap : Nat} {L : List Nd} (h : Arg w p n cap L) (hb : Below w.heap.size w w') : Arg w' p n cap L := ⟨h.reads.next hb, h.nil⟩

theorem flat_src {w : World} {g o : Nat} {L : List Nd} (h : Lay w g o L) : ∀ (j : Nat) (v : Value), (flat L)[j]? = some v → w.cell? ((⟨g, o, none⟩ : Addr).add j) = some v ∧ ((⟨g, o, none⟩ : Addr).add j).block < w.heap.size := fun j v hv => by
  have hj : j < L.length * 9 := by rw [← flat_len]; exact (List.getElem?_eq_some_iff.1 hv).1
  have e : j = j / 9 * 9 + j % 9 := by omega
  have hi : j / 9 < L.length := by omega
  have ha : (⟨g, o, none⟩ : Addr).add j = ⟨g, o + j, none⟩ := by by_cases hz : j = 0 <;> simp [Addr.add, hz]
  rw [ha]
  refine ⟨?_, h.lt⟩
  have := flat_at L (j / 9) (j % 9) hi (by omega)
  rw [← e, hv] at this
  have hc := h.c (j / 9) hi (j % 9) v this.symm
  rw [Nat.add_assoc, ← e] at hc
  exact hc

def oneNd : Nd := ⟨20, 0, ⟨#[]⟩, ⟨#[]⟩, ⟨#[]⟩, 0, 5, ⟨#[]⟩, 1⟩
theorem one_fine : Fine [oneNd] := ⟨by decide, fun i hi => by
  have : i = 0 := by simp at hi; omega
  subst this
  exact ⟨by decide, by decide, by decide, by decide⟩⟩

end Go.Proofs.YtlocaalipjjnpaaDoor

namespace Go.Proofs.YtlocaalipjjnpaaDoor
open Go.RowKit

theorem nd_modify (L : List Nd) (k i : Nat) (f : Nd → Nd) (hk : k < L.length) : nd (L.modify k f) i = if i = k then f (nd L i) else nd L i := by
  unfold nd
  rw [List.getD_eq_getElem?_getD, List.getElem?_modify]
  by_cases h : k = i
  · subst h
    rw [List.getD_eq_getElem?_getD, List.getElem?_eq_getElem hk]
    simp
  · rw [if_neg (Ne.symm h), List.getD_eq_getElem?_getD]
    simp [h]

/-- One field of one node is written. -/
theorem lay_put {w : World} {B : Nat} {L : List Nd} (h : Lay w B 0 L) (ht : w.there B 0 (L.length * 9)) (k j : Nat) (v : Value) (f : Nd → Nd) (hk : k < L.length) (hj : j < 9)
    (hf : ∀ (i : Nat) (u : Value), (ndV (f (nd L k)))[i]? = some u → (i = j → u = v) ∧ (i ≠ j → (ndV (nd L k))[i]? = some u)) :
    Lay (w.setCell ⟨B, k * 9 + j, none⟩ v) B 0 (L.modify k f) ∧ (w.setCell ⟨B, k * 9 + j, none⟩ v).there B 0 ((L.modify k f).length * 9) := by
  have hlen : (L.modify k f).length = L.length := by simp
  have hsome := (ht (k * 9 + j) (by omega)).1
  rw [Nat.zero_add] at hsome
  refine ⟨⟨by rw [size_set]; exact h.lt, fun i hi i' u hu => ?_⟩, fun i hi => ?_⟩
  · rw [hlen] at hi
    rw [nd_modify L k i f hk] at hu
    have hi' : i' < 9 := (Array.getElem?_eq_some_iff.1 hu).1
    rw [Nat.zero_add]
    by_cases e : i = k
    · subst e
      rw [if_pos rfl] at hu
      obtain ⟨h1, h2⟩ := hf i' u hu
      by_cases ej : i' = j
      · subst ej
        rw [h1 rfl]
        exact World.cell?_setCell_same' _ _ _ hsome
      · rw [World.cell?_setCell_other _ _ _ _ (fun e => ej (by have := congrArg Addr.off e; simp only at this; omega))]
        have := h.c i hi i' u (h2 ej)
        rw [Nat.zero_add] at this
        exact this
    · rw [if_neg e] at hu
      rw [World.cell?_setCell_other _ _ _ _ (fun e' => e (by have := congrArg Addr.off e'; simp only at this; omega))]
      have := h.c i hi i' u hu
      rw [Nat.zero_add] at this
      exact this
  · rw [hlen] at hi
    refine ⟨?_, by rw [World.frozen?_setCell]; exact (ht i hi).2⟩
    by_cases e : (0 + i) = k * 9 + j
    · rw [e, World.cell?_setCell_same' _ _ _ hsome]
      rfl
    · rw [World.cell?_setCell_other _ _ _ _ (fun e' => e (by have := congrArg Addr.off e'; simp only at this; omega))]
      exact (ht i hi).1

theorem fine_put {L : List Nd} (h : Fine L) (k : Nat) (f : Nd → Nd) (hk : k < L.length) (hf : ∀ x : Nd, x.name.size ≤ 140737488355328 ∧ x.label.size ≤ 140737488355328 ∧ x.typ.size ≤ 140737488355328 ∧ x.text.size ≤ 140737488355328 → (f x).name.size ≤ 140737488355328 ∧ (f x).label.size ≤ 140737488355328 ∧ (f x).typ.size ≤ 140737488355328 ∧ (f x).text.size ≤ 140737488355328) : Fine (L.modify k f) := by
  have hlen : (L.modify k f).length = L.length := by simp
  refine ⟨by rw [hlen]; exact h.len, fun i hi => ?_⟩
  rw [hlen] at hi
  rw [nd_modify L k i f hk]
  split
  · exact hf _ (h.txt i hi)
  · exact h.txt i hi

def fPos (a : Int) (x : Nd) : Nd := { x with pos := a }
def fKind (a : Int) (x : Nd) : Nd := { x with kind := a }
def fInt (a : Int) (x : Nd) : Nd := { x with int := a }
def fName (a : ByteArray) (x : Nd) : Nd := { x with name := a }

theorem put_at {x y : Nd} {j : Nat} {v : Value} (h : ∀ i : Nat, i < 9 → i ≠ j → (ndV y)[i]? = (ndV x)[i]?) (hv : (ndV y)[j]? = some v) : ∀ (i : Nat) (u : Value), (ndV y)[i]? = some u → (i = j → u = v) ∧ (i ≠ j → (ndV x)[i]? = some u) := fun i u hu =>
  ⟨fun e => by subst e; rw [hv] at hu; exact (Option.some.inj hu).symm, fun e => by rw [← h i (Array.getElem?_eq_some_iff.1 hu).1 e]; exact hu⟩
theorem nine {i : Nat} (h : i < 9) : i = 0 ∨ i = 1 ∨ i = 2 ∨ i = 3 ∨ i = 4 ∨ i = 5 ∨ i = 6 ∨ i = 7 ∨ i = 8 := by omega
theorem put_pos (x : Nd) (a : Int) : ∀ (i : Nat) (u : Value), (ndV (fPos a x))[i]? = some u → (i = 1 → u = .int .i64 a) ∧ (i ≠ 1 → (ndV x)[i]? = some u) :=
  put_at (fun i hi hj => by rcases nine hi with rfl | rfl | rfl | rfl | rfl | rfl | rfl | rfl | rfl <;> first | rfl | exact absurd rfl hj) rfl
theorem put_kind (x : Nd) (a : Int) : ∀ (i : Nat) (u : Value), (ndV (fKind a x))[i]? = some u → (i = 0 → u = .int .i64 a) ∧ (i ≠ 0 → (ndV x)[i]? = some u) :=
  put_at (fun i hi hj => by rcases nine hi with rfl | rfl | rfl | rfl | rfl | rfl | rfl | rfl | rfl <;> first | rfl | exact absurd rfl hj) rfl
theorem put_int (x : Nd) (a : Int) : ∀ (i : Nat) (u : Value), (ndV (fInt a x))[i]? = some u → (i = 6 → u = .int .i64 a) ∧ (i ≠ 6 → (ndV x)[i]? = some u) :=
  put_at (fun i hi hj => by rcases nine hi with rfl | rfl | rfl | rfl | rfl | rfl | rfl | rfl | rfl <;> first | rfl | exact absurd rfl hj) rfl
theorem put_name (x : Nd) (a : ByteArray) : ∀ (i : Nat) (u : Value), (ndV (fName a x))[i]? = some u → (i = 2 → u = .string a) ∧ (i ≠ 2 → (ndV x)[i]? = some u) :=
  put_at (fun i hi hj => by rcases nine hi with rfl | rfl | rfl | rfl | rfl | rfl | rfl | rfl | rfl <;> first | rfl | exact absurd rfl hj) rfl

/-! What Same says of the written lists. -/
theorem mv_fPos (L : List Nd) (k : Nat) (a : Int) : L.modify k (fPos a) = mv L k a := rfl

theorem alike_pos (x : Nd) (a : Int) : alikeB (fPos a x) x = true ∧ alikeB x (fPos a x) = true := by simp [alikeB, fPos]
theorem same_pos {L : List Nd} {k : Nat} {a : Int} (hk : k < L.length) (ha : 0 ≤ a) (h : treeS nameS typeS L = true) : sameS (L.modify k (fPos a)) L = true ∧ sameS L (L.modify k (fPos a)) = true := by
  have ht : treeS nameS typeS (L.modify k (fPos a)) = true := tree_mv nameS typeS L k a hk ha h
  have hlen : (L.modify k (fPos a)).length = L.length := by simp
  have h1 : sameL (L.modify k (fPos a)) L = true := same_yes hlen fun i _ => by
    rw [nd_modify L k i _ hk]
    split
    · exact (alike_pos _ a).1
    · simp [alikeB]
  have h2 : sameL L (L.modify k (fPos a)) = true := same_yes hlen.symm fun i _ => by
    rw [nd_modify L k i _ hk]
    split
    · exact (alike_pos _ a).2
    · simp [alikeB]
  unfold sameS
  rw [ht, h, h1, h2]
  exact ⟨rfl, rfl⟩

def eqB (x : Nd) (Kd It : Int) (Nm : ByteArray) : Bool := (Kd == x.kind) && (Nm.toList == x.name.toList) && (It == x.int)
theorem same_put {L : List Nd} {k : Nat} (Kd It : Int) (Nm : ByteArray) (hk : k < L.length) (h : treeS nameS typeS L = true) : sameS (((L.modify k (fKind Kd)).modify k (fInt It)).modify k (fName Nm)) L = eqB (nd L k) Kd It Nm := by
  have hk1 : k < (L.modify k (fKind Kd)).length := by simpa using hk
  have hk2 : k < ((L.modify k (fKind Kd)).modify k (fInt It)).length := by simpa using hk
  have hnd : ∀ i, nd (((L.modify k (fKind Kd)).modify k (fInt It)).modify k (fName Nm)) i = if i = k then fName Nm (fInt It (fKind Kd (nd L i))) else nd L i := fun i => by
    rw [nd_modify _ k i _ hk2, nd_modify _ k i _ hk1, nd_modify _ k i _ hk]
    split <;> rfl
  have hlen : (((L.modify k (fKind Kd)).modify k (fInt It)).modify k (fName Nm)).length = L.length := by simp
  have hal : alikeB (fName Nm (fInt It (fKind Kd (nd L k)))) (nd L k) = eqB (nd L k) Kd It Nm := by
    simp [alikeB, eqB, fName, fInt, fKind]
  cases hq : eqB (nd L k) Kd It Nm with
  | false =>
    unfold sameS
    rw [same_no (by rw [hlen]; exact hk) (by rw [hnd k, if_pos rfl, hal, hq])]
    simp
  | true =>
    have e : ((L.modify k (fKind Kd)).modify k (fInt It)).modify k (fName Nm) = L := by
      refine nd_ext hlen fun i _ => ?_
      rw [hnd i]
      split
      · rename_i e
        subst e
        unfold eqB at hq
        simp only [Bool.and_eq_true, beq_iff_eq] at hq
        obtain ⟨⟨q1, q2⟩, q3⟩ := hq
        have q2' : Nm = (nd L i).name := by
          rw [toL, toL] at q2
          exact ByteArray.ext (Array.ext' q2)
        unfold fName fInt fKind
        rw [q1, q2', q3]
      · rfl
    rw [e]
    unfold sameS
    rw [h, same_yes rfl fun _ _ => by simp [alikeB]]
    rfl

end Go.Proofs.YtlocaalipjjnpaaDoor
