import Derived.Laws.CopyOwn
import Derived.Laws.MakeOwn
import Derived.Deep.MidRow
import Derived.Test.YtekgnogjfggnmaaGreatDoorM17
namespace Go.Proofs.YtekgnogjfggnmaaGreatDoor
open Go.RowKit

/-- The cells of a list's nodes, one behind the other. -/
def flat (L : List Nd) : List Value := L.flatMap fun x => (ndV x).toList
theorem flat_len : ∀ L : List Nd, (flat L).length = L.length * 9
  | [] => rfl
  | x :: L => by
    have := flat_len L
    unfold flat at this ⊢
    rw [List.flatMap_cons, List.length_append, this, List.length_cons]
    show 9 + L.length * 9 = _
    omega
theorem flat_at : ∀ (L : List Nd) (i j : Nat), i < L.length → j < 9 → (flat L)[i * 9 + j]? = (ndV (nd L i))[j]?
  | [], i, j, h, _ => by simp at h
  | x :: L, 0, j, _, hj => by
    unfold flat
    rw [List.flatMap_cons, Nat.zero_mul, Nat.zero_add, List.getElem?_append_left (show j < 9 from hj)]
    simp [nd]
  | x :: L, i + 1, j, h, hj => by
    have := flat_at L i j (by simpa using h) hj
    unfold flat at this ⊢
    rw [List.flatMap_cons, List.getElem?_append_right (show 9 ≤ (i + 1) * 9 + j by omega)]
    rw [show (i + 1) * 9 + j - (ndV x).toList.length = i * 9 + j by show (i + 1) * 9 + j - 9 = _; omega, this]
    simp [nd]
theorem flat_one (L : List Nd) : ∀ v ∈ flat L, v.oneCell' = true := by
  intro v hv
  obtain ⟨x, _, hx⟩ := List.mem_flatMap.1 hv
  simp only [ndV, List.mem_cons, List.not_mem_nil, or_false] at hx
  rcases hx with rfl | rfl | rfl | rfl | rfl | rfl | rfl | rfl | rfl <;> rfl
theorem lay_of_range {w : World} {B : Nat} {L : List Nd} (hB : B < w.heap.size) (h : w.rangeAt B 0 (flat L)) : Lay w B 0 L :=
  ⟨hB, fun i hi j v hv => by
    have hj : j < 9 := (Array.getElem?_eq_some_iff.1 hv).1
    have := h (i * 9 + j) v (by rw [flat_at L i j hi hj]; exact hv)
    rw [Nat.zero_add] at this ⊢
    exact this⟩

theorem info36 : (Tryz.prog.info? 42).map (fun i => (i.zero, i.size, i.bytes)) = some (some (.agg #[.int .i64 0, .int .i64 0, .string ⟨#[]⟩, .string ⟨#[]⟩, .string ⟨#[]⟩, .int .i64 0, .int .i64 0, .string ⟨#[]⟩, .int .i64 0]), 9, 104) := by kernel_rfl
theorem size36 : (Tryz.prog.info? 42).map (·.size) = some 9 := by kernel_rfl

/-- A copy of nodes. -/
theorem run_copy9 (w : World) (ty : TypeId) (B dLen dCap : Nat) (a : Addr) (n sCap : Nat) (cs : List Value) (hl : cs.length = n * 9) (hd : n ≤ dLen)
    (hsrc : ∀ j v, cs[j]? = some v → w.cell? (a.add j) = some v) (ht : w.there B 0 cs.length) (h1 : ∀ v ∈ cs, v.oneCell' = true) :
    (Builtin.copy_ #[22, 22] ty #[.slice (some ⟨B, 0, none⟩) dLen dCap, .slice (some a) n sCap]).run Tryz.prog w = .ok (goInt n) (w.setCells B 0 cs) := by
  have hll := run_loadCells_list (P := Tryz.prog) w a cs hsrc
  have hst := run_storeCells_cells (P := Tryz.prog) B 0 cs 0 w (fun j hj => by simpa using (ht j hj).1) (fun j hj => by simpa using (ht j hj).2) h1
  obtain ⟨i, hq, _, hi, _⟩ := info_parts info36
  have hm : min n dLen = n := by omega
  rw [hl] at hll
  simp [Builtin.copy_, run_underlying Tryz.underlying22, Builtin.lenOf, Builtin.firstCells, sizeOf, typeInfo, hq, hi, hm, hll, hst]

theorem wpList_copy9 {w : World} {ops : Array Oper} {rest : List Oper} {o : Oper} {a : Act} {Q : Exit → Act → World → Prop} (hgd : o.guard = none) (d s : Operand)
    (ho : o.op = .call { callee := .builtin .copy, args := #[d, s], argTypes := #[22, 22] }) (B dLen dCap : Nat) (ad : Addr) (n sCap : Nat) (hd : a.eval d = .slice (some ⟨B, 0, none⟩) dLen dCap) (hs : a.eval s = .slice (some ad) n sCap)
    (cs : List Value) (hl : cs.length = n * 9) (hn : n ≤ dLen) (hsrc : ∀ j v, cs[j]? = some v → w.cell? (ad.add j) = some v) (ht : w.there B 0 cs.length) (h1 : ∀ v ∈ cs, v.oneCell' = true)
    (h : wpList Tryz.prog ops Q rest (a.put o.dst (goInt n)) (w.setCells B 0 cs)) : wpList Tryz.prog ops Q (o :: rest) a w := by
  refine wpList_plain hgd fun K hK => ?_
  have hrun := run_copy9 w o.type B dLen dCap ad n sCap cs hl hn hsrc ht h1
  unfold Oper.wp
  simp [execOp, ho, resolve, invoke, builtin, hd, hs, hrun, Result.andThen]
  exact hK _ _ h

end Go.Proofs.YtekgnogjfggnmaaGreatDoor

namespace Go.Proofs.YtekgnogjfggnmaaGreatDoor
open Go.RowKit

def mark (s : ByteArray) : Array Value := #[.int .i64 0, .int .i64 0, .string s, .string ⟨#[]⟩, .string ⟨#[]⟩, .int .i64 0, .int .i64 0, .string ⟨#[]⟩, .int .i64 0]

theorem mark_one (s : ByteArray) : (mark s).all (·.oneCell') = true := by
  have h : ∀ v ∈ (mark s).toList, v.oneCell' = true := by
    intro v hv
    simp only [mark, List.mem_cons, List.not_mem_nil, or_false] at hv
    rcases hv with rfl | rfl | rfl | rfl | rfl | rfl | rfl | rfl | rfl <;> rfl
  exact all_oneCell_toArray h

theorem run_make9 (n : Nat) (hn : n ≤ 1353245080300) : ∃ Z : Array Value, Z.size = (n + 2) * 9 ∧ ∀ w : World, (Instr.makeSlice 22 (.int .i64 ((n : Int) + 2)) (.int .i64 ((n : Int) + 2))).run Tryz.prog w = .ok (.slice (some ⟨w.heap.size, 0, none⟩) (n + 2) (n + 2)) (w.alloc (.cells Z 42)) := by
  obtain ⟨i, hq, hz, hi, hb⟩ := info_parts info36
  refine ⟨_, size_madeCells (Value.agg #[.int .i64 0, .int .i64 0, .string ⟨#[]⟩, .string ⟨#[]⟩, .string ⟨#[]⟩, .int .i64 0, .int .i64 0, .string ⟨#[]⟩, .int .i64 0]).cells ((n + 2) * 9), fun w => ?_⟩
  have := run_make (P := Tryz.prog) w 22 42 i _ Tryz.underlying22 hq hz .i64 .i64 ((n : Int) + 2) ((n : Int) + 2) (by omega) (by omega) (by rw [hb]; omega) (by omega)
  rw [show ((n : Int) + 2).toNat = n + 2 by omega, hi] at this
  exact this

theorem there_new (w : World) (Z : Array Value) (t : TypeId) (B k : Nat) (hB : B = w.heap.size) (hk : k ≤ Z.size) : (w.alloc (.cells Z t)).there B 0 k := fun j hj => by
  subst hB
  have h := heap_alloc_new w (.cells Z t)
  refine ⟨?_, ?_⟩
  · simp only [World.cell?, h]
    simp [show j < Z.size by omega]
  · simp only [World.frozen?, h]
    simp
theorem there_set {w : World} {B k : Nat} (h : w.there B 0 k) (C o : Nat) (vs : List Value) : (w.setCells C o vs).there B 0 k := fun j hj =>
  ⟨World.isSome_setCells C vs o w _ (h j hj).1, by rw [World.frozen?_setCells]; exact (h j hj).2⟩
theorem there_sub {w : World} {B k : Nat} (h : w.there B 0 k) (o m : Nat) (hm : o + m ≤ k) : w.there B o m := fun j hj => by
  have := h (o + j) (by omega)
  rwa [Nat.zero_add] at this
theorem setCells_cell {w : World} {B o : Nat} (vs : List Value) {a : Addr} (h : a.block ≠ B) : (w.setCells B o vs).cell? a = w.cell? a :=
  World.cell?_setCells_out B vs o w a (fun hb _ => absurd hb h)
theorem setCells_size (w : World) (B : Nat) : ∀ (vs : List Value) (o : Nat), (w.setCells B o vs).heap.size = w.heap.size := by
  intro vs
  induction vs generalizing w with
  | nil => intro o; rfl
  | cons v r ih => intro o; rw [World.setCells, ih, size_set]
theorem below_setCells {w0 w : World} {N B : Nat} (hB : N ≤ B) : ∀ (vs : List Value) (o : Nat), Below N w0 w → Below N w0 (w.setCells B o vs) := by
  intro vs
  induction vs generalizing w with
  | nil => intro o h; exact h
  | cons v r ih => intro o h; rw [World.setCells]; exact ih _ (h.setCell (p := ⟨B, o, none⟩) hB v)

/-- A twin: a list of its own. -/
def Twn (w w' : World) (L : List Nd) (p' : Option Addr) : Prop := L ≠ [] → ∃ B, p' = some ⟨B, 0, none⟩ ∧ w.heap.size ≤ B ∧ Lay w' B 0 L ∧ w'.there B 0 (L.length * 9)

theorem nil_eq (p : Option Addr) (n cap : Nat) : ∀ w : World, (binOp BinOp.eql 22 (.slice p n cap) (.slice none 0 0)).run Tryz.prog w = .ok (.bool p.isNone) w := by
  intro w
  cases p with
  | none => kernel_rfl
  | some a => kernel_rfl

set_option maxRecDepth 100000 in
set_option maxHeartbeats 400000 in
theorem twin_nil (w : World) : Calls Tryz.prog 7 #[.agg #[.slice none 0 0]] w fun e w' => e = .returned (.agg #[.slice none 0 0]) ∧ Below w.heap.size w w' := by
  have he : ∀ w : World, (binOp BinOp.eql 22 (.slice none 0 0) (.slice none 0 0)).run Tryz.prog w = .ok (.bool true) w := nil_eq none 0 0
  go_enter Tryz.func7, Tryz.ntmps7
  go_wp2
  exact bodyPost_ret (v := .agg #[.slice none 0 0]) (by simp [results, Tryz.results7, go_sem]) rfl ⟨rfl, ((Below.refl _ w).alloc (Nat.le_refl _) _).alloc (by simp) _⟩

set_option maxRecDepth 100000 in
set_option maxHeartbeats 1000000 in
theorem twin_some (w : World) (a : Addr) (cap : Nat) (L : List Nd) (hL : L.length ≤ 1353245080300) (hs : ∀ j v, (flat L)[j]? = some v → w.cell? (a.add j) = some v ∧ (a.add j).block < w.heap.size) :
    Calls Tryz.prog 7 #[.agg #[.slice (some a) L.length cap]] w fun e w' => (∃ p' cap', e = .returned (.agg #[.slice p' L.length cap']) ∧ Twn w w' L p') ∧ Below w.heap.size w w' := by
  obtain ⟨Z, hZ, hmk⟩ := run_make9 L.length hL
  obtain ⟨w2, hw2⟩ : ∃ w2, (w.alloc (.cells #[.slice (some a) L.length cap] 24)).alloc (.cells #[.slice none 0 0] 24) = w2 := ⟨_, rfl⟩
  have z2 : w2.heap.size = w.heap.size + 2 := by rw [← hw2]; simp
  have B2 : Below w.heap.size w w2 := by rw [← hw2]; exact ((Below.refl _ w).alloc (Nat.le_refl _) _).alloc (by simp) _
  have c0 : w2.cell? ⟨w.heap.size, 0, none⟩ = some (.slice (some a) L.length cap) := by rw [← hw2]; exact cell_old _ (cell_new _ _ _ _ _ rfl)
  have c1 : w2.cell? ⟨w.heap.size + 1, 0, none⟩ = some (.slice none 0 0) ∧ w2.frozen? ⟨w.heap.size + 1, 0, none⟩ = false := by rw [← hw2]; have := new_cell (w.alloc (.cells #[.slice (some a) L.length cap] 24)) (.slice none 0 0) 24; rwa [World.size_alloc] at this
  obtain ⟨w3, hw3⟩ : ∃ w3, w2.alloc (.cells Z 42) = w3 := ⟨_, rfl⟩
  have z3 : w3.heap.size = w.heap.size + 3 := by rw [← hw3]; simp [z2]
  have B3 : Below w2.heap.size w2 w3 := by rw [← hw3]; exact (Below.refl _ w2).alloc (Nat.le_refl _) _
  have t3 : w3.there (w.heap.size + 2) 0 ((L.length + 2) * 9) := by rw [← hw3]; exact there_new w2 Z 42 _ _ z2.symm (by omega)
  have d0 := (B3.cell (p := ⟨w.heap.size, 0, none⟩) (by show w.heap.size < _; omega)).trans c0
  have d1 := (B3.cell (p := ⟨w.heap.size + 1, 0, none⟩) (by show w.heap.size + 1 < _; omega)).trans c1.1
  have f1 := (B3.frozen (p := ⟨w.heap.size + 1, 0, none⟩) (by show w.heap.size + 1 < _; omega)).trans c1.2
  have s3 : ∀ j v, (flat L)[j]? = some v → w3.cell? (a.add j) = some v := fun j v hv => by
    obtain ⟨h1, h2⟩ := hs j v hv
    exact (B3.cell (by omega)).trans ((B2.cell h2).trans h1)
  have hfl := flat_len L
  obtain ⟨w4, hw4⟩ : ∃ w4, w3.setCells (w.heap.size + 2) 0 (flat L) = w4 := ⟨_, rfl⟩
  obtain ⟨w5, hw5⟩ : ∃ w5, w4.setCells (w.heap.size + 2) (L.length * 9) (mark ⟨#[35]⟩).toList = w5 := ⟨_, rfl⟩
  obtain ⟨w6, hw6⟩ : ∃ w6, w5.setCells (w.heap.size + 2) ((L.length + 1) * 9) (mark ⟨#[35, 35]⟩).toList = w6 := ⟨_, rfl⟩
  have t4 : w4.there (w.heap.size + 2) 0 ((L.length + 2) * 9) := by rw [← hw4]; exact there_set t3 _ _ _
  have t5 : w5.there (w.heap.size + 2) 0 ((L.length + 2) * 9) := by rw [← hw5]; exact there_set t4 _ _ _
  have t6 : w6.there (w.heap.size + 2) 0 ((L.length + 2) * 9) := by rw [← hw6]; exact there_set t5 _ _ _
  have r4 : w4.rangeAt (w.heap.size + 2) 0 (flat L) := by rw [← hw4]; exact World.rangeAt_setCells_same w3 _ _ _ (there_sub t3 _ _ (by omega))
  have r5 : w5.rangeAt (w.heap.size + 2) 0 (flat L) := by rw [← hw5]; exact World.rangeAt_setCells_apart r4 _ _ _ (.inr (.inl (by omega)))
  have r6 : w6.rangeAt (w.heap.size + 2) 0 (flat L) := by rw [← hw6]; exact World.rangeAt_setCells_apart r5 _ _ _ (.inr (.inl (by omega)))
  have e4 : ∀ p : Addr, p.block ≠ w.heap.size + 2 → w4.cell? p = w3.cell? p := fun p hp => by rw [← hw4]; exact setCells_cell _ hp
  have e5 : ∀ p : Addr, p.block ≠ w.heap.size + 2 → w5.cell? p = w4.cell? p := fun p hp => by rw [← hw5]; exact setCells_cell _ hp
  have e6 : ∀ p : Addr, p.block ≠ w.heap.size + 2 → w6.cell? p = w5.cell? p := fun p hp => by rw [← hw6]; exact setCells_cell _ hp
  have z6 : w6.heap.size = w.heap.size + 3 := by rw [← hw6, setCells_size, ← hw5, setCells_size, ← hw4, setCells_size]; exact z3
  have B6 : Below w.heap.size w w6 := by
    rw [← hw6]; refine below_setCells (by omega) _ _ ?_
    rw [← hw5]; refine below_setCells (by omega) _ _ ?_
    rw [← hw4]; refine below_setCells (by omega) _ _ ?_
    exact B2.trans (B3.mono (by omega))
  have a0 := (e4 ⟨w.heap.size, 0, none⟩ (by show w.heap.size ≠ _; omega)).trans d0
  have b0 := (e5 ⟨w.heap.size, 0, none⟩ (by show w.heap.size ≠ _; omega)).trans a0
  have g0 := (e6 ⟨w.heap.size, 0, none⟩ (by show w.heap.size ≠ _; omega)).trans b0
  have g1 := (e6 ⟨w.heap.size + 1, 0, none⟩ (by show w.heap.size + 1 ≠ _; omega)).trans ((e5 ⟨w.heap.size + 1, 0, none⟩ (by show w.heap.size + 1 ≠ _; omega)).trans ((e4 ⟨w.heap.size + 1, 0, none⟩ (by show w.heap.size + 1 ≠ _; omega)).trans d1))
  have g2 : w6.frozen? ⟨w.heap.size + 1, 0, none⟩ = false := by rw [← hw6, World.frozen?_setCells, ← hw5, World.frozen?_setCells, ← hw4, World.frozen?_setCells]; exact f1
  have T4 : Hid (w4.there (w.heap.size + 2) (L.length * 9) 9) := there_sub t4 _ _ (by omega)
  have T5 : Hid (w5.there (w.heap.size + 2) ((L.length + 1) * 9) 9) := there_sub t5 _ _ (by omega)
  have T3 : Hid (w3.there (w.heap.size + 2) 0 (flat L).length) := there_sub t3 _ _ (by omega)
  have S3 : Hid (∀ j v, (flat L)[j]? = some v → w3.cell? (a.add j) = some v) := s3
  have HW4 : Hid (w3.setCells (w.heap.size + 2) 0 (flat L) = w4) := hw4
  have HW5 : Hid (w4.setCells (w.heap.size + 2) (L.length * 9) (mark ⟨#[35]⟩).toList = w5) := hw5
  have HW6 : Hid (w5.setCells (w.heap.size + 2) ((L.length + 1) * 9) (mark ⟨#[35, 35]⟩).toList = w6) := hw6
  have HFIN : Hid (Twn w (w6.setCell ⟨w.heap.size + 1, 0, none⟩ (.slice (some ⟨w.heap.size + 2, 0, none⟩) L.length (L.length + 2))) L (some ⟨w.heap.size + 2, 0, none⟩)) := fun _ =>
    ⟨w.heap.size + 2, rfl, by omega, (lay_of_range (by omega) r6).set _ (by omega), fun j hj => ⟨by rw [cell_set _ (by show w.heap.size + 2 ≠ _; omega)]; exact (t6 j (by omega)).1, by rw [World.frozen?_setCell]; exact (t6 j (by omega)).2⟩⟩
  have HB6 : Hid (Below w.heap.size w w6) := B6
  have n0 : (0 : Int) ≤ (L.length : Int) := by omega
  have n1 : (L.length : Int) < (L.length : Int) + 2 := by omega
  have he : ∀ w : World, (binOp BinOp.eql 22 (.slice (some a) L.length cap) (.slice none 0 0)).run Tryz.prog w = .ok (.bool false) w := nil_eq (some a) L.length cap
  clear hw4 hw5 hw6 t3 t4 t5 t6 r4 r5 r6 e4 e5 e6 s3 hs B6 B2 B3 hZ
  have hcp : (Builtin.copy_ #[22, 22] 3 #[.slice (some ⟨w.heap.size + 2, 0, none⟩) (L.length + 2) (L.length + 2), .slice (some a) L.length cap]).run Tryz.prog w3 = .ok (.int .i64 (L.length : Int)) w4 := by
    rw [← HW4.out]
    exact run_copy9 w3 3 (w.heap.size + 2) _ _ a L.length cap (flat L) hfl (by omega) S3.out T3.out (flat_one L)
  have HM1 : Hid ((mark ⟨#[35]⟩).all (·.oneCell') = true) := mark_one _
  have HM2 : Hid ((mark ⟨#[35, 35]⟩).all (·.oneCell') = true) := mark_one _
  clear HW4 T3 S3 hfl
  go_enter Tryz.func7, Tryz.ntmps7
  go_wp2_with (first
    | (refine wpList_store_mid (by rfl) 42 (.tmp 22) (.tmp 21) (by rfl) (w.heap.size + 2) (L.length * 9) (mark ⟨#[35]⟩) (by rfl) (by rfl) T4.out size36 HM1.out ?_; rw [HW5.out])
    | (refine wpList_store_mid (by rfl) 42 (.tmp 29) (.tmp 28) (by rfl) (w.heap.size + 2) ((L.length + 1) * 9) (mark ⟨#[35, 35]⟩) (by rfl) (by rfl) T5.out size36 HM2.out ?_; rw [HW6.out])
    | go_in)
  have hq : (w6.setCell ⟨w.heap.size + 1, 0, none⟩ (.slice (some ⟨w.heap.size + 2, 0, none⟩) L.length (L.length + 2))).cell? ⟨w.heap.size + 1, 0, none⟩ = some (.slice (some ⟨w.heap.size + 2, 0, none⟩) L.length (L.length + 2)) := World.cell?_setCell_same' _ _ _ (by rw [g1]; rfl)
  exact bodyPost_ret (v := .agg #[.slice (some ⟨w.heap.size + 2, 0, none⟩) L.length (L.length + 2)]) (by simp [results, Tryz.results7, go_sem, hq]) rfl ⟨⟨_, _, rfl, HFIN.out⟩, HB6.out.setCell (p := ⟨w.heap.size + 1, 0, none⟩) (by show w.heap.size ≤ w.heap.size + 1; omega) _⟩

theorem Twn.reads {w w' : World} {L : List Nd} {p' : Option Addr} (h : Twn w w' L p') (hf : Fine L) : Reads w' p' L.length L :=
  ⟨hf, rfl, fun hn => by obtain ⟨B, e, _, hl, _⟩ := h hn; exact ⟨B, 0, e, hl⟩⟩

/-- A tree that was handed in. -/
structure Arg (w : World) (p : Option Addr) (n cap : Nat) (L : List Nd) : Prop where
  reads : Reads w p n L
  nil : p = none → n = 0 ∧ cap = 0
theorem Arg.next {w w' : World} {p : Option Addr} {n cap : Nat} {L : List Nd} (h : Arg w p n cap L) (hb : Below w.heap.size w w') : Arg w' p n cap L := ⟨h.reads.next hb, h.nil⟩

theorem flat_src {w : World} {g o : Nat} {L : List Nd} (h : Lay w g o L) : ∀ (j : Nat) (v : Value), (flat L)[j]? = some v → w.cell? ((⟨g, o, none⟩ : Addr).add j) = some v ∧ ((⟨g, o, none⟩ : Addr).add j).block < w.heap.size := fun j v hv => by
  have hj : j < L.length * 9 := by rw [← flat_len]; exact (List.getElem?_eq_some_iff.1 hv).1
  have e : j = j / 9 * 9 + j % 9 := by omega
  have hi : j / 9 < L.length := by omega
  have ha : (⟨g, o, none⟩ : Addr).add j = ⟨g, o + j, none⟩ := by by_cases hz : j = 0 <;> simp [Addr.add, hz]
  rw [ha]
  refine ⟨?_, h.lt⟩
  have := flat_at L (j / 9) (j % 9) hi (by omega)
  rw [← e, hv] at this
  have hc := h.c (j / 9) hi (j % 9) v this.symm
  rw [Nat.add_assoc, ← e] at hc
  exact hc

theorem twin_any (w : World) (p : Option Addr) (n cap : Nat) (L : List Nd) (h : Arg w p n cap L) :
    Calls Tryz.prog 7 #[.agg #[.slice p n cap]] w fun e w' => (∃ p' cap', e = .returned (.agg #[.slice p' n cap']) ∧ Hid (Twn w w' L p')) ∧ Below w.heap.size w w' := by
  obtain ⟨⟨hf, rfl, hr⟩, hn⟩ := h
  cases p with
  | none =>
    obtain ⟨h0, rfl⟩ := hn rfl
    have hL : L = [] := List.length_eq_zero_iff.1 h0
    subst hL
    exact (twin_nil w).mono fun e w' h => ⟨⟨none, 0, h.1, fun hne => absurd rfl hne⟩, h.2⟩
  | some a =>
    refine twin_some w a cap L hf.len ?_
    by_cases hne : L = []
    · subst hne
      intro j v hv
      simp [flat] at hv
    · obtain ⟨g, o, e, hl⟩ := hr hne
      cases e
      exact flat_src hl

def oneNd : Nd := ⟨20, 0, ⟨#[]⟩, ⟨#[]⟩, ⟨#[]⟩, 0, 5, ⟨#[]⟩, 1⟩
theorem one_fine : Fine [oneNd] := ⟨by decide, fun i hi => by
  have : i = 0 := by simp at hi; omega
  subst this
  exact ⟨by decide, by decide, by decide, by decide⟩⟩

set_option maxRecDepth 100000 in
set_option maxHeartbeats 400000 in
theorem one_any (w : World) : Calls Tryz.prog 11 #[] w fun e w' => (∃ p' cap', e = .returned (.agg #[.slice p' 1 cap']) ∧ Hid (Reads w' p' 1 [oneNd])) ∧ Below w.heap.size w w' := by
  go_enter Tryz.func11, Tryz.ntmps11
  go_wp2
  refine bodyPost_ret (v := .agg #[.slice (some ⟨w.heap.size + 1, 0, none⟩) 1 1]) (by simp [results, Tryz.results11, go_sem]) rfl ⟨⟨_, _, rfl, one_fine, rfl, fun _ => ⟨w.heap.size + 1, 0, rfl, ?_, ?_⟩⟩, ((Below.refl _ w).alloc (Nat.le_refl _) _).alloc (by simp) _⟩
  · simp
  · intro i hi j v hv
    have : i = 0 := by simp at hi; omega
    subst this
    have := cell_new (w.alloc (.cells #[.slice (some ⟨w.heap.size + 1, 0, none⟩) 1 1] 24)) (ndV oneNd) 42 j v hv
    rw [World.size_alloc] at this
    rw [show 0 + 0 * 9 + j = j by omega]
    exact this

end Go.Proofs.YtekgnogjfggnmaaGreatDoor

namespace Go.Proofs.YtekgnogjfggnmaaGreatDoor
open Go.RowKit

theorem nd_modify (L : List Nd) (k i : Nat) (f : Nd → Nd) (hk : k < L.length) : nd (L.modify k f) i = if i = k then f (nd L i) else nd L i := by
  unfold nd
  rw [List.getD_eq_getElem?_getD, List.getElem?_modify]
  by_cases h : k = i
  · subst h
    rw [List.getD_eq_getElem?_getD, List.getElem?_eq_getElem hk]
    simp
  · rw [if_neg (Ne.symm h), List.getD_eq_getElem?_getD]
    simp [h]

/-- One field of one node is written. -/
theorem lay_put {w : World} {B : Nat} {L : List Nd} (h : Lay w B 0 L) (ht : w.there B 0 (L.length * 9)) (k j : Nat) (v : Value) (f : Nd → Nd) (hk : k < L.length) (hj : j < 9)
    (hf : ∀ (i : Nat) (u : Value), (ndV (f (nd L k)))[i]? = some u → (i = j → u = v) ∧ (i ≠ j → (ndV (nd L k))[i]? = some u)) :
    Lay (w.setCell ⟨B, k * 9 + j, none⟩ v) B 0 (L.modify k f) ∧ (w.setCell ⟨B, k * 9 + j, none⟩ v).there B 0 ((L.modify k f).length * 9) := by
  have hlen : (L.modify k f).length = L.length := by simp
  have hsome := (ht (k * 9 + j) (by omega)).1
  rw [Nat.zero_add] at hsome
  refine ⟨⟨by rw [size_set]; exact h.lt, fun i hi i' u hu => ?_⟩, fun i hi => ?_⟩
  · rw [hlen] at hi
    rw [nd_modify L k i f hk] at hu
    have hi' : i' < 9 := (Array.getElem?_eq_some_iff.1 hu).1
    rw [Nat.zero_add]
    by_cases e : i = k
    · subst e
      rw [if_pos rfl] at hu
      obtain ⟨h1, h2⟩ := hf i' u hu
      by_cases ej : i' = j
      · subst ej
        rw [h1 rfl]
        exact World.cell?_setCell_same' _ _ _ hsome
      · rw [World.cell?_setCell_other _ _ _ _ (fun e => ej (by have := congrArg Addr.off e; simp only at this; omega))]
        have := h.c i hi i' u (h2 ej)
        rw [Nat.zero_add] at this
        exact this
    · rw [if_neg e] at hu
      rw [World.cell?_setCell_other _ _ _ _ (fun e' => e (by have := congrArg Addr.off e'; simp only at this; omega))]
      have := h.c i hi i' u hu
      rw [Nat.zero_add] at this
      exact this
  · rw [hlen] at hi
    refine ⟨?_, by rw [World.frozen?_setCell]; exact (ht i hi).2⟩
    by_cases e : (0 + i) = k * 9 + j
    · rw [e, World.cell?_setCell_same' _ _ _ hsome]
      rfl
    · rw [World.cell?_setCell_other _ _ _ _ (fun e' => e (by have := congrArg Addr.off e'; simp only at this; omega))]
      exact (ht i hi).1

theorem fine_put {L : List Nd} (h : Fine L) (k : Nat) (f : Nd → Nd) (hk : k < L.length) (hf : ∀ x : Nd, x.name.size ≤ 140737488355328 ∧ x.label.size ≤ 140737488355328 ∧ x.typ.size ≤ 140737488355328 ∧ x.text.size ≤ 140737488355328 → (f x).name.size ≤ 140737488355328 ∧ (f x).label.size ≤ 140737488355328 ∧ (f x).typ.size ≤ 140737488355328 ∧ (f x).text.size ≤ 140737488355328) : Fine (L.modify k f) := by
  have hlen : (L.modify k f).length = L.length := by simp
  refine ⟨by rw [hlen]; exact h.len, fun i hi => ?_⟩
  rw [hlen] at hi
  rw [nd_modify L k i f hk]
  split
  · exact hf _ (h.txt i hi)
  · exact h.txt i hi

def fPos (a : Int) (x : Nd) : Nd := { x with pos := a }
def fKind (a : Int) (x : Nd) : Nd := { x with kind := a }
def fInt (a : Int) (x : Nd) : Nd := { x with int := a }
def fName (a : ByteArray) (x : Nd) : Nd := { x with name := a }

theorem put_at {x y : Nd} {j : Nat} {v : Value} (h : ∀ i : Nat, i < 9 → i ≠ j → (ndV y)[i]? = (ndV x)[i]?) (hv : (ndV y)[j]? = some v) : ∀ (i : Nat) (u : Value), (ndV y)[i]? = some u → (i = j → u = v) ∧ (i ≠ j → (ndV x)[i]? = some u) := fun i u hu =>
  ⟨fun e => by subst e; rw [hv] at hu; exact (Option.some.inj hu).symm, fun e => by rw [← h i (Array.getElem?_eq_some_iff.1 hu).1 e]; exact hu⟩
theorem nine {i : Nat} (h : i < 9) : i = 0 ∨ i = 1 ∨ i = 2 ∨ i = 3 ∨ i = 4 ∨ i = 5 ∨ i = 6 ∨ i = 7 ∨ i = 8 := by omega
theorem put_pos (x : Nd) (a : Int) : ∀ (i : Nat) (u : Value), (ndV (fPos a x))[i]? = some u → (i = 1 → u = .int .i64 a) ∧ (i ≠ 1 → (ndV x)[i]? = some u) :=
  put_at (fun i hi hj => by rcases nine hi with rfl | rfl | rfl | rfl | rfl | rfl | rfl | rfl | rfl <;> first | rfl | exact absurd rfl hj) rfl
theorem put_kind (x : Nd) (a : Int) : ∀ (i : Nat) (u : Value), (ndV (fKind a x))[i]? = some u → (i = 0 → u = .int .i64 a) ∧ (i ≠ 0 → (ndV x)[i]? = some u) :=
  put_at (fun i hi hj => by rcases nine hi with rfl | rfl | rfl | rfl | rfl | rfl | rfl | rfl | rfl <;> first | rfl | exact absurd rfl hj) rfl
theorem put_int (x : Nd) (a : Int) : ∀ (i : Nat) (u : Value), (ndV (fInt a x))[i]? = some u → (i = 6 → u = .int .i64 a) ∧ (i ≠ 6 → (ndV x)[i]? = some u) :=
  put_at (fun i hi hj => by rcases nine hi with rfl | rfl | rfl | rfl | rfl | rfl | rfl | rfl | rfl <;> first | rfl | exact absurd rfl hj) rfl
theorem put_name (x : Nd) (a : ByteArray) : ∀ (i : Nat) (u : Value), (ndV (fName a x))[i]? = some u → (i = 2 → u = .string a) ∧ (i ≠ 2 → (ndV x)[i]? = some u) :=
  put_at (fun i hi hj => by rcases nine hi with rfl | rfl | rfl | rfl | rfl | rfl | rfl | rfl | rfl <;> first | rfl | exact absurd rfl hj) rfl

/-! What Same says of the written lists. -/
theorem mv_fPos (L : List Nd) (k : Nat) (a : Int) : L.modify k (fPos a) = mv L k a := rfl

theorem alike_pos (x : Nd) (a : Int) : alikeB (fPos a x) x = true ∧ alikeB x (fPos a x) = true := by simp [alikeB, fPos]
theorem same_pos {L : List Nd} {k : Nat} {a : Int} (hk : k < L.length) (ha : 0 ≤ a) (h : treeS nameS typeS L = true) : sameS (L.modify k (fPos a)) L = true ∧ sameS L (L.modify k (fPos a)) = true := by
  have ht : treeS nameS typeS (L.modify k (fPos a)) = true := tree_mv nameS typeS L k a hk ha h
  have hlen : (L.modify k (fPos a)).length = L.length := by simp
  have h1 : sameL (L.modify k (fPos a)) L = true := same_yes hlen fun i _ => by
    rw [nd_modify L k i _ hk]
    split
    · exact (alike_pos _ a).1
    · simp [alikeB]
  have h2 : sameL L (L.modify k (fPos a)) = true := same_yes hlen.symm fun i _ => by
    rw [nd_modify L k i _ hk]
    split
    · exact (alike_pos _ a).2
    · simp [alikeB]
  unfold sameS
  rw [ht, h, h1, h2]
  exact ⟨rfl, rfl⟩

def eqB (x : Nd) (Kd It : Int) (Nm : ByteArray) : Bool := (Kd == x.kind) && (Nm.toList == x.name.toList) && (It == x.int)
theorem same_put {L : List Nd} {k : Nat} (Kd It : Int) (Nm : ByteArray) (hk : k < L.length) (h : treeS nameS typeS L = true) : sameS (((L.modify k (fKind Kd)).modify k (fInt It)).modify k (fName Nm)) L = eqB (nd L k) Kd It Nm := by
  have hk1 : k < (L.modify k (fKind Kd)).length := by simpa using hk
  have hk2 : k < ((L.modify k (fKind Kd)).modify k (fInt It)).length := by simpa using hk
  have hnd : ∀ i, nd (((L.modify k (fKind Kd)).modify k (fInt It)).modify k (fName Nm)) i = if i = k then fName Nm (fInt It (fKind Kd (nd L i))) else nd L i := fun i => by
    rw [nd_modify _ k i _ hk2, nd_modify _ k i _ hk1, nd_modify _ k i _ hk]
    split <;> rfl
  have hlen : (((L.modify k (fKind Kd)).modify k (fInt It)).modify k (fName Nm)).length = L.length := by simp
  have hal : alikeB (fName Nm (fInt It (fKind Kd (nd L k)))) (nd L k) = eqB (nd L k) Kd It Nm := by
    simp [alikeB, eqB, fName, fInt, fKind]
  cases hq : eqB (nd L k) Kd It Nm with
  | false =>
    unfold sameS
    rw [same_no (by rw [hlen]; exact hk) (by rw [hnd k, if_pos rfl, hal, hq])]
    simp
  | true =>
    have e : ((L.modify k (fKind Kd)).modify k (fInt It)).modify k (fName Nm) = L := by
      refine nd_ext hlen fun i _ => ?_
      rw [hnd i]
      split
      · rename_i e
        subst e
        unfold eqB at hq
        simp only [Bool.and_eq_true, beq_iff_eq] at hq
        obtain ⟨⟨q1, q2⟩, q3⟩ := hq
        have q2' : Nm = (nd L i).name := by
          rw [toL, toL] at q2
          exact ByteArray.ext (Array.ext' q2)
        unfold fName fInt fKind
        rw [q1, q2', q3]
      · rfl
    rw [e]
    unfold sameS
    rw [h, same_yes rfl fun _ _ => by simp [alikeB]]
    rfl

end Go.Proofs.YtekgnogjfggnmaaGreatDoor

namespace Go.Proofs.YtekgnogjfggnmaaGreatDoor
open Go.RowKit

set_option maxRecDepth 100000 in
set_option maxHeartbeats 1000000 in
theorem twinC_some (w : World) (a : Addr) (cap : Nat) (L : List Nd) (hL : L.length ≤ 1353245080300) (hs : ∀ j v, (flat L)[j]? = some v → w.cell? (a.add j) = some v ∧ (a.add j).block < w.heap.size) :
    Calls Tryz.prog 7 #[.agg #[.slice (some a) L.length cap]] w fun e w' => (∃ p' cap', e = .returned (.agg #[.slice p' L.length cap']) ∧ L.length ≤ cap' ∧ Twn w w' L p') ∧ Below w.heap.size w w' := by
  obtain ⟨Z, hZ, hmk⟩ := run_make9 L.length hL
  obtain ⟨w2, hw2⟩ : ∃ w2, (w.alloc (.cells #[.slice (some a) L.length cap] 24)).alloc (.cells #[.slice none 0 0] 24) = w2 := ⟨_, rfl⟩
  have z2 : w2.heap.size = w.heap.size + 2 := by rw [← hw2]; simp
  have B2 : Below w.heap.size w w2 := by rw [← hw2]; exact ((Below.refl _ w).alloc (Nat.le_refl _) _).alloc (by simp) _
  have c0 : w2.cell? ⟨w.heap.size, 0, none⟩ = some (.slice (some a) L.length cap) := by rw [← hw2]; exact cell_old _ (cell_new _ _ _ _ _ rfl)
  have c1 : w2.cell? ⟨w.heap.size + 1, 0, none⟩ = some (.slice none 0 0) ∧ w2.frozen? ⟨w.heap.size + 1, 0, none⟩ = false := by rw [← hw2]; have := new_cell (w.alloc (.cells #[.slice (some a) L.length cap] 24)) (.slice none 0 0) 24; rwa [World.size_alloc] at this
  obtain ⟨w3, hw3⟩ : ∃ w3, w2.alloc (.cells Z 42) = w3 := ⟨_, rfl⟩
  have z3 : w3.heap.size = w.heap.size + 3 := by rw [← hw3]; simp [z2]
  have B3 : Below w2.heap.size w2 w3 := by rw [← hw3]; exact (Below.refl _ w2).alloc (Nat.le_refl _) _
  have t3 : w3.there (w.heap.size + 2) 0 ((L.length + 2) * 9) := by rw [← hw3]; exact there_new w2 Z 42 _ _ z2.symm (by omega)
  have d0 := (B3.cell (p := ⟨w.heap.size, 0, none⟩) (by show w.heap.size < _; omega)).trans c0
  have d1 := (B3.cell (p := ⟨w.heap.size + 1, 0, none⟩) (by show w.heap.size + 1 < _; omega)).trans c1.1
  have f1 := (B3.frozen (p := ⟨w.heap.size + 1, 0, none⟩) (by show w.heap.size + 1 < _; omega)).trans c1.2
  have s3 : ∀ j v, (flat L)[j]? = some v → w3.cell? (a.add j) = some v := fun j v hv => by
    obtain ⟨h1, h2⟩ := hs j v hv
    exact (B3.cell (by omega)).trans ((B2.cell h2).trans h1)
  have hfl := flat_len L
  obtain ⟨w4, hw4⟩ : ∃ w4, w3.setCells (w.heap.size + 2) 0 (flat L) = w4 := ⟨_, rfl⟩
  obtain ⟨w5, hw5⟩ : ∃ w5, w4.setCells (w.heap.size + 2) (L.length * 9) (mark ⟨#[35]⟩).toList = w5 := ⟨_, rfl⟩
  obtain ⟨w6, hw6⟩ : ∃ w6, w5.setCells (w.heap.size + 2) ((L.length + 1) * 9) (mark ⟨#[35, 35]⟩).toList = w6 := ⟨_, rfl⟩
  have t4 : w4.there (w.heap.size + 2) 0 ((L.length + 2) * 9) := by rw [← hw4]; exact there_set t3 _ _ _
  have t5 : w5.there (w.heap.size + 2) 0 ((L.length + 2) * 9) := by rw [← hw5]; exact there_set t4 _ _ _
  have t6 : w6.there (w.heap.size + 2) 0 ((L.length + 2) * 9) := by rw [← hw6]; exact there_set t5 _ _ _
  have r4 : w4.rangeAt (w.heap.size + 2) 0 (flat L) := by rw [← hw4]; exact World.rangeAt_setCells_same w3 _ _ _ (there_sub t3 _ _ (by omega))
  have r5 : w5.rangeAt (w.heap.size + 2) 0 (flat L) := by rw [← hw5]; exact World.rangeAt_setCells_apart r4 _ _ _ (.inr (.inl (by omega)))
  have r6 : w6.rangeAt (w.heap.size + 2) 0 (flat L) := by rw [← hw6]; exact World.rangeAt_setCells_apart r5 _ _ _ (.inr (.inl (by omega)))
  have e4 : ∀ p : Addr, p.block ≠ w.heap.size + 2 → w4.cell? p = w3.cell? p := fun p hp => by rw [← hw4]; exact setCells_cell _ hp
  have e5 : ∀ p : Addr, p.block ≠ w.heap.size + 2 → w5.cell? p = w4.cell? p := fun p hp => by rw [← hw5]; exact setCells_cell _ hp
  have e6 : ∀ p : Addr, p.block ≠ w.heap.size + 2 → w6.cell? p = w5.cell? p := fun p hp => by rw [← hw6]; exact setCells_cell _ hp
  have z6 : w6.heap.size = w.heap.size + 3 := by rw [← hw6, setCells_size, ← hw5, setCells_size, ← hw4, setCells_size]; exact z3
  have B6 : Below w.heap.size w w6 := by
    rw [← hw6]; refine below_setCells (by omega) _ _ ?_
    rw [← hw5]; refine below_setCells (by omega) _ _ ?_
    rw [← hw4]; refine below_setCells (by omega) _ _ ?_
    exact B2.trans (B3.mono (by omega))
  have a0 := (e4 ⟨w.heap.size, 0, none⟩ (by show w.heap.size ≠ _; omega)).trans d0
  have b0 := (e5 ⟨w.heap.size, 0, none⟩ (by show w.heap.size ≠ _; omega)).trans a0
  have g0 := (e6 ⟨w.heap.size, 0, none⟩ (by show w.heap.size ≠ _; omega)).trans b0
  have g1 := (e6 ⟨w.heap.size + 1, 0, none⟩ (by show w.heap.size + 1 ≠ _; omega)).trans ((e5 ⟨w.heap.size + 1, 0, none⟩ (by show w.heap.size + 1 ≠ _; omega)).trans ((e4 ⟨w.heap.size + 1, 0, none⟩ (by show w.heap.size + 1 ≠ _; omega)).trans d1))
  have g2 : w6.frozen? ⟨w.heap.size + 1, 0, none⟩ = false := by rw [← hw6, World.frozen?_setCells, ← hw5, World.frozen?_setCells, ← hw4, World.frozen?_setCells]; exact f1
  have T4 : Hid (w4.there (w.heap.size + 2) (L.length * 9) 9) := there_sub t4 _ _ (by omega)
  have T5 : Hid (w5.there (w.heap.size + 2) ((L.length + 1) * 9) 9) := there_sub t5 _ _ (by omega)
  have T3 : Hid (w3.there (w.heap.size + 2) 0 (flat L).length) := there_sub t3 _ _ (by omega)
  have S3 : Hid (∀ j v, (flat L)[j]? = some v → w3.cell? (a.add j) = some v) := s3
  have HW4 : Hid (w3.setCells (w.heap.size + 2) 0 (flat L) = w4) := hw4
  have HW5 : Hid (w4.setCells (w.heap.size + 2) (L.length * 9) (mark ⟨#[35]⟩).toList = w5) := hw5
  have HW6 : Hid (w5.setCells (w.heap.size + 2) ((L.length + 1) * 9) (mark ⟨#[35, 35]⟩).toList = w6) := hw6
  have HFIN : Hid (Twn w (w6.setCell ⟨w.heap.size + 1, 0, none⟩ (.slice (some ⟨w.heap.size + 2, 0, none⟩) L.length (L.length + 2))) L (some ⟨w.heap.size + 2, 0, none⟩)) := fun _ =>
    ⟨w.heap.size + 2, rfl, by omega, (lay_of_range (by omega) r6).set _ (by omega), fun j hj => ⟨by rw [cell_set _ (by show w.heap.size + 2 ≠ _; omega)]; exact (t6 j (by omega)).1, by rw [World.frozen?_setCell]; exact (t6 j (by omega)).2⟩⟩
  have HB6 : Hid (Below w.heap.size w w6) := B6
  have n0 : (0 : Int) ≤ (L.length : Int) := by omega
  have n1 : (L.length : Int) < (L.length : Int) + 2 := by omega
  have he : ∀ w : World, (binOp BinOp.eql 22 (.slice (some a) L.length cap) (.slice none 0 0)).run Tryz.prog w = .ok (.bool false) w := nil_eq (some a) L.length cap
  clear hw4 hw5 hw6 t3 t4 t5 t6 r4 r5 r6 e4 e5 e6 s3 hs B6 B2 B3 hZ
  have hcp : (Builtin.copy_ #[22, 22] 3 #[.slice (some ⟨w.heap.size + 2, 0, none⟩) (L.length + 2) (L.length + 2), .slice (some a) L.length cap]).run Tryz.prog w3 = .ok (.int .i64 (L.length : Int)) w4 := by
    rw [← HW4.out]
    exact run_copy9 w3 3 (w.heap.size + 2) _ _ a L.length cap (flat L) hfl (by omega) S3.out T3.out (flat_one L)
  have HM1 : Hid ((mark ⟨#[35]⟩).all (·.oneCell') = true) := mark_one _
  have HM2 : Hid ((mark ⟨#[35, 35]⟩).all (·.oneCell') = true) := mark_one _
  clear HW4 T3 S3 hfl
  go_enter Tryz.func7, Tryz.ntmps7
  go_wp2_with (first
    | (refine wpList_store_mid (by rfl) 42 (.tmp 22) (.tmp 21) (by rfl) (w.heap.size + 2) (L.length * 9) (mark ⟨#[35]⟩) (by rfl) (by rfl) T4.out size36 HM1.out ?_; rw [HW5.out])
    | (refine wpList_store_mid (by rfl) 42 (.tmp 29) (.tmp 28) (by rfl) (w.heap.size + 2) ((L.length + 1) * 9) (mark ⟨#[35, 35]⟩) (by rfl) (by rfl) T5.out size36 HM2.out ?_; rw [HW6.out])
    | go_in)
  have hq : (w6.setCell ⟨w.heap.size + 1, 0, none⟩ (.slice (some ⟨w.heap.size + 2, 0, none⟩) L.length (L.length + 2))).cell? ⟨w.heap.size + 1, 0, none⟩ = some (.slice (some ⟨w.heap.size + 2, 0, none⟩) L.length (L.length + 2)) := World.cell?_setCell_same' _ _ _ (by rw [g1]; rfl)
  exact bodyPost_ret (v := .agg #[.slice (some ⟨w.heap.size + 2, 0, none⟩) L.length (L.length + 2)]) (by simp [results, Tryz.results7, go_sem, hq]) rfl ⟨⟨_, _, rfl, Nat.le_add_right _ _, HFIN.out⟩, HB6.out.setCell (p := ⟨w.heap.size + 1, 0, none⟩) (by show w.heap.size ≤ w.heap.size + 1; omega) _⟩


/-- A twin, and that its room is no less than its length. -/
theorem twinC_any (w : World) (p : Option Addr) (n cap : Nat) (L : List Nd) (h : Arg w p n cap L) :
    Calls Tryz.prog 7 #[.agg #[.slice p n cap]] w fun e w' => (∃ p' cap', e = .returned (.agg #[.slice p' n cap']) ∧ n ≤ cap' ∧ Hid (Reads w' p' n L)) ∧ Below w.heap.size w w' := by
  obtain ⟨⟨hf, rfl, hr⟩, hn⟩ := h
  cases p with
  | none =>
    obtain ⟨h0, rfl⟩ := hn rfl
    have hL : L = [] := List.length_eq_zero_iff.1 h0
    subst hL
    exact (twin_nil w).mono fun e w' h => ⟨⟨none, 0, h.1, Nat.le_refl _, hf, rfl, fun hne => absurd rfl hne⟩, h.2⟩
  | some a =>
    refine (twinC_some w a cap L hf.len ?_).mono fun e w' h => ?_
    · by_cases hne : L = []
      · subst hne
        intro j v hv
        simp [flat] at hv
      · obtain ⟨g, o, e, hl⟩ := hr hne
        cases e
        exact flat_src hl
    · obtain ⟨⟨p', cap', e1, e2, e3⟩, hb⟩ := h
      exact ⟨⟨p', cap', e1, e2, e3.reads hf⟩, hb⟩

end Go.Proofs.YtekgnogjfggnmaaGreatDoor
