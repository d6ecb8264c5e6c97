import Derived.Test.YtekgnogjfggnmaaDoorX39
import Derived.Test.YtekgnogjfggnmaaDoorX34
import Derived.Test.YtekgnogjfggnmaaDoorX28
import Derived.Test.YtekgnogjfggnmaaDoorX20
import Derived.Test.YtekgnogjfggnmaaDoorX32
import Derived.Test.YtekgnogjfggnmaaDoorX29
import Derived.Test.YtekgnogjfggnmaaDoorX27
namespace Go.Proofs.YtekgnogjfggnmaaDoor
open Go.RowKit Go.Shelf

/-- The tables that the program and the reference read. -/
structure Tbs (W : World) : Prop where
  kw : KwAt W
  rk : RKw W
  dt : DTab W
theorem Tbs.on {W W' : World} {B : Nat} (h : Tbs W) (hb : Below B W W') (hB : 7 ≤ B) : Tbs W' :=
  ⟨⟨fun j v hv => (hb.cell (p := ⟨3, 0 + j, none⟩) (by show 3 < B; omega)).trans (h.kw.1 j v hv), Nat.le_trans h.kw.2 hb.size⟩, fun j hj => (hb.cell (p := ⟨2, j, none⟩) (by show 2 < B; omega)).trans (h.rk j hj), h.dt.on hb hB⟩

theorem kidsA_len {L : List Nd} {N : Int} : (kidsA L N).length ≤ L.length := by
  unfold kidsA
  cases hh : hasS L N with
  | false => simp
  | true =>
    obtain ⟨k, rfl, hk, ht⟩ := has_tree hh
    rw [if_pos rfl, Int.toNat_natCast]
    exact kids_len (tr_of ht) hk
theorem spineR_len {L : List Nd} {N : Int} : (spineR L N).length ≤ L.length := by
  unfold spineR
  cases hh : hasS L N with
  | false => simp
  | true =>
    obtain ⟨k, rfl, hk, ht⟩ := has_tree hh
    rw [if_pos rfl, Int.toNat_natCast]
    exact Nat.le_trans (onW_len L k (k + 1)) (by omega)
theorem subA_len {L : List Nd} {N : Int} : (subA L N).length ≤ L.length := by
  unfold subA
  cases hh : hasS L N with
  | false => simp
  | true =>
    obtain ⟨k, rfl, hk, ht⟩ := has_tree hh
    obtain ⟨g1, g2⟩ := (tr_of ht).good k hk
    rw [if_pos rfl, Int.toNat_natCast, len_sub L k _ (by omega)]
    omega
theorem subA_fine {L : List Nd} {N : Int} (hf : Fine L) : Fine (subA L N) := by
  unfold subA
  cases hh : hasS L N with
  | false => exact fine_nil
  | true =>
    obtain ⟨k, rfl, hk, ht⟩ := has_tree hh
    obtain ⟨g1, g2⟩ := (tr_of ht).good k hk
    rw [if_pos rfl, Int.toNat_natCast]
    exact fine_sub hf k _ (by omega)

/-- A copy whose run is known, for the walk. -/
theorem wpList_cpy {w w' : World} {ops : Array Oper} {rest : List Oper} {o : Oper} {a : Act} {Q : Exit → Act → World → Prop} {v' : Value} (hgd : o.guard = none) (s x : Operand)
    (ho : o.op = .call { callee := .builtin .copy, args := #[s, x], argTypes := #[22, 22] }) (hr : (Builtin.copy_ #[22, 22] o.type #[a.eval s, a.eval x]).run Tryd.prog w = .ok v' w')
    (h : wpList Tryd.prog ops Q rest (a.put o.dst v') w') : wpList Tryd.prog ops Q (o :: rest) a w := by
  refine wpList_plain hgd fun K hK => ?_
  unfold Oper.wp execOp
  simp only [ho, resolve, invoke, builtin, Sem.run_bind, Sem.run_pure, Result.andThen_ok, List.map_toArray, List.map_cons, List.map_nil, hr]
  exact hK _ _ h

/-- The first nodes of a list are written over. -/
theorem lay_over {w : World} {B : Nat} {L T : List Nd} (hl : Lay w B 0 L) (ht : w.there B 0 (L.length * 9)) (hT : T.length ≤ L.length) : Lay (w.setCells B 0 (flat T)) B 0 (T ++ L.drop T.length) := by
  refine ⟨Nat.lt_of_lt_of_le hl.lt (ApN.below_cells w B 0 (flat T) (base := 0) (Nat.zero_le _)).size, fun i hi j v hv => ?_⟩
  have hj : j < 9 := (Array.getElem?_eq_some_iff.1 hv).1
  have hi' : i < L.length := by rw [List.length_append, List.length_drop] at hi; omega
  by_cases h : i < T.length
  · have e : nd (T ++ L.drop T.length) i = nd T i := by simp [nd, List.getD_eq_getElem?_getD, List.getElem?_append_left h]
    rw [e] at hv
    have hlt : i * 9 + j < (flat T).length := by rw [flat_len]; omega
    have := World.cell?_setCells_in B (flat T) 0 w (fun k hk => (ht k (by rw [flat_len] at hk; omega)).1) (i * 9 + j) hlt
    rw [show 0 + i * 9 + j = 0 + (i * 9 + j) by omega, this, ← hv, ← flat_at T i j h hj, List.getElem?_eq_getElem hlt]
  · have e : nd (T ++ L.drop T.length) i = nd L i := by
      have e2 : T.length + (i - T.length) = i := by omega
      simp [nd, List.getD_eq_getElem?_getD, List.getElem?_append_right (Nat.le_of_not_lt h), List.getElem?_drop, e2]
    rw [e] at hv
    rw [World.cell?_setCells_out B (flat T) 0 w _ (fun _ _ => by simp only [flat_len]; right; show 0 + T.length * 9 ≤ 0 + i * 9 + j; omega)]
    exact hl.c i hi' j v hv

/-- What a list is when the other one has been copied over it. -/
def mix (L L2 : List Nd) : List Nd := L2.take L.length ++ L.drop (L2.take L.length).length
theorem mix_len (L L2 : List Nd) : (mix L L2).length = L.length := by
  unfold mix
  rw [List.length_append, List.length_drop, List.length_take]
  omega
theorem mix_nd (L L2 : List Nd) (i : Nat) (hi : i < L.length) : (i < L2.length ∧ nd (mix L L2) i = nd L2 i) ∨ nd (mix L L2) i = nd L i := by
  by_cases h : i < (L2.take L.length).length
  · left
    have h2 := h
    rw [List.length_take] at h2
    refine ⟨by omega, ?_⟩
    simp only [nd, mix, List.getD_eq_getElem?_getD, List.getElem?_append_left h]
    rw [List.getElem?_take_of_lt hi]
  · right
    have e2 : (L2.take L.length).length + (i - (L2.take L.length).length) = i := by omega
    simp only [nd, mix, List.getD_eq_getElem?_getD, List.getElem?_append_right (Nat.le_of_not_lt h), List.getElem?_drop, e2]
theorem mix_fine {L L2 : List Nd} (h : Fine L) (h2 : Fine L2) : Fine (mix L L2) := by
  refine ⟨by rw [mix_len]; exact h.len, fun i hi => ?_⟩
  rw [mix_len] at hi
  rcases mix_nd L L2 i hi with ⟨h3, e⟩ | e
  · rw [e]; exact h2.txt i h3
  · rw [e]; exact h.txt i hi
theorem mix_rng {L L2 : List Nd} (h : Rng L) (h2 : Rng L2) : Rng (mix L L2) := fun i hi => by
  rw [mix_len] at hi
  rcases mix_nd L L2 i hi with ⟨h3, e⟩ | e
  · rw [e]; exact h2 i h3
  · rw [e]; exact h i hi
theorem mix_rngP {L L2 : List Nd} (h : RngP L) (h2 : RngP L2) : RngP (mix L L2) := fun i hi => by
  rw [mix_len] at hi
  rcases mix_nd L L2 i hi with ⟨h3, e⟩ | e
  · rw [e]; exact h2 i h3
  · rw [e]; exact h i hi

theorem flat_take_src {w : World} {p : Option Addr} {n : Nat} {L2 : List Nd} (h : Reads w p n L2) (k : Nat) (a : Addr) (hp : p = some a) : ∀ (j : Nat) (v : Value), (flat (L2.take k))[j]? = some v → w.cell? (a.add j) = some v := by
  intro j v hv
  have hne : L2 ≠ [] := fun e => by rw [e] at hv; simp [flat] at hv
  obtain ⟨g, o, e, hl⟩ := h.2.2 hne
  rw [hp] at e
  cases e
  refine (flat_src hl j v ?_).1
  have e2 : flat L2 = flat (L2.take k) ++ flat (L2.drop k) := by rw [← ApN.flat_app, List.take_append_drop]
  rw [e2, List.getElem?_append_left (List.getElem?_eq_some_iff.1 hv).1]
  exact hv

theorem run_copyL (w : World) (ty : TypeId) (B n ca : Nat) (L : List Nd) (ht : w.there B 0 (L.length * 9)) (hn : L.length = n) (q2 : Option Addr) (n2 c2 : Nat) (L2 : List Nd) (h2 : Reads w q2 n2 L2) :
    (Builtin.copy_ #[22, 22] ty #[.slice (some ⟨B, 0, none⟩) n ca, .slice q2 n2 c2]).run Tryd.prog w = .ok (goInt ((Nat.min n2 n : Nat) : Int)) (w.setCells B 0 (flat (L2.take L.length))) := by
  obtain ⟨i, hq, _, hi, _⟩ := info_parts info36
  have hlen := h2.2.1
  subst hn
  cases q2 with
  | none =>
    have hL2 : L2 = [] := by
      by_cases hne : L2 = []
      · exact hne
      · obtain ⟨g, o, e, _⟩ := h2.2.2 hne
        cases e
    subst hL2
    simp only [List.length_nil] at hlen
    subst hlen
    simp [Builtin.copy_, run_underlying Tryd.underlying22, Builtin.lenOf, Builtin.firstCells, sizeOf, typeInfo, hq, storeCells, flat, World.setCells]
  | some a =>
    have hsrc := flat_take_src h2 L.length a rfl
    have hfl : (flat (L2.take L.length)).length = min n2 L.length * 9 := by rw [flat_len, List.length_take, hlen, Nat.min_comm]
    have hll := run_loadCells_list (P := Tryd.prog) w a (flat (L2.take L.length)) hsrc
    have hst := run_storeCells_cells (P := Tryd.prog) B 0 (flat (L2.take L.length)) 0 w (fun j hj => by simpa using (ht j (by rw [hfl] at hj; omega)).1) (fun j hj => by simpa using (ht j (by rw [hfl] at hj; omega)).2) (flat_one _)
    rw [hfl] at hll
    simp [Builtin.copy_, run_underlying Tryd.underlying22, Builtin.lenOf, Builtin.firstCells, sizeOf, typeInfo, hq, hi, hll, hst]
theorem run_copyZ (w : World) (ty : TypeId) (q2 : Option Addr) (n2 c2 : Nat) :
    (Builtin.copy_ #[22, 22] ty #[.slice none 0 0, .slice q2 n2 c2]).run Tryd.prog w = .ok (goInt 0) w := by
  obtain ⟨i, hq, _, hi, _⟩ := info_parts info36
  cases q2 with
  | none => simp [Builtin.copy_, run_underlying Tryd.underlying22, Builtin.lenOf, Builtin.firstCells, sizeOf, typeInfo, hq]
  | some a =>
    have hll := run_loadCells_list (P := Tryd.prog) w a [] (fun j v hv => by simp at hv)
    simp only [List.length_nil] at hll
    simp [Builtin.copy_, run_underlying Tryd.underlying22, Builtin.lenOf, Builtin.firstCells, sizeOf, typeInfo, hq, hll]
end Go.Proofs.YtekgnogjfggnmaaDoor

namespace Go.Proofs.YtekgnogjfggnmaaDoor
open Go.RowKit Go.Shelf

set_option maxRecDepth 100000 in
theorem fld24 (p : Option Addr) (n c : Nat) : ∀ w : World, (Instr.field 24 (.agg #[.slice p n c]) 0).run Tryd.prog w = .ok (.slice p n c) w := fun w => by kernel_rfl

set_option maxRecDepth 100000 in
set_option maxHeartbeats 8000000 in
/-- anew, whatever the list is that was written over: St says how it lies. -/
theorem anew_core (W : World) (b0 : Nat) (pa : Option Addr) (n ca : Nat) (q1 : Option Addr) (n1 c1 : Nat) (q2 : Option Addr) (n2 c2 : Nat) (N : Int) (Tx : ByteArray) (C : List Nd) (St : World → Prop)
    (hb0 : b0 ≤ W.heap.size) (h7 : 7 ≤ b0) (hT : Tbs W) (hC1 : Rng C) (hC2 : RngP C) (hnca : n ≤ ca) (hpn : pa = none → n = 0 ∧ ca = 0)
    (hcp : ∀ w1, Below W.heap.size W w1 → ∃ r w2, (∀ ty, (Builtin.copy_ #[22, 22] ty #[.slice pa n ca, .slice q2 n2 c2]).run Tryd.prog w1 = .ok r w2) ∧ St w2 ∧ Below b0 w1 w2 ∧ (∀ k, pa ≠ some ⟨k, 0, none⟩ → w2.heap[k]? = w1.heap[k]?)) (hpw : ∀ k, W.heap.size ≤ k → pa ≠ some ⟨k, 0, none⟩)
    (hst : ∀ w w', St w → Below w.heap.size w w' → St w') (hrd : ∀ w, St w → Reads w pa n C)
    (hun : ∀ w3 p' cq, St w3 → (C ≠ [] → ∃ Q, p' = some ⟨Q, 0, none⟩ ∧ W.heap.size ≤ Q ∧ Lay w3 Q 0 C) → Tbs w3 → Calls Tryd.prog 47 #[.agg #[.slice pa n ca], .agg #[.slice p' n cq]] w3 fun e w' => e = .returned (.bool true) ∧ Below b0 w3 w' ∧ ∀ k, k < w3.heap.size → pa ≠ some ⟨k, 0, none⟩ → w'.heap[k]? = w3.heap[k]?) :
    Calls Tryd.prog 29 #[.agg #[.slice pa n ca], .agg #[.slice q1 n1 c1, .slice q2 n2 c2, .int .i64 N, .string Tx]] W fun e w' => e = .returned (.bool true) ∧ Below b0 W w' ∧ ∀ k, k < W.heap.size → pa ≠ some ⟨k, 0, none⟩ → w'.heap[k]? = W.heap[k]? := by
  obtain ⟨w1, hw1⟩ : ∃ w1, (W.alloc (.cells #[.slice pa n ca] 24)).alloc (.cells #[.slice q1 n1 c1, .slice q2 n2 c2, .int .i64 N, .string Tx] 39) = w1 := ⟨_, rfl⟩
  have B1 : Below W.heap.size W w1 := by rw [← hw1]; exact ((Below.refl _ W).alloc (Nat.le_refl _) _).alloc (by simp) _
  have z1 : w1.heap.size = W.heap.size + 2 := by rw [← hw1]; simp
  have a1 : w1.cell? ⟨W.heap.size, 0, none⟩ = some (.slice pa n ca) := by rw [← hw1]; exact cell_old _ (cell_new _ _ _ _ _ rfl)
  have hx : ∀ (j : Nat) (v : Value), (#[.slice q1 n1 c1, .slice q2 n2 c2, .int .i64 N, .string Tx] : Array Value)[j]? = some v → w1.cell? ⟨W.heap.size + 1, j, none⟩ = some v := fun j v hv => by
    rw [← hw1]; have := cell_new (W.alloc (.cells #[.slice pa n ca] 24)) #[.slice q1 n1 c1, .slice q2 n2 c2, .int .i64 N, .string Tx] 39 j _ hv; rwa [World.size_alloc] at this
  have a2 := hx 1 (.slice q2 n2 c2) rfl
  have a3 := hx 2 (.int .i64 N) rfl
  obtain ⟨r, w2, hrun, hS2, hb2, hsame⟩ := hcp w1 B1
  have e1 : w2.cell? ⟨W.heap.size, 0, none⟩ = some (.slice pa n ca) := (World.cell?_of_block (a := ⟨W.heap.size, 0, none⟩) (hsame _ (hpw _ (Nat.le_refl _)))).trans a1
  have e3 : w2.cell? ⟨W.heap.size + 1, 2, none⟩ = some (.int .i64 N) := (World.cell?_of_block (a := ⟨W.heap.size + 1, 2, none⟩) (hsame _ (hpw _ (by show W.heap.size ≤ W.heap.size + 1; omega)))).trans a3
  have z2 := hb2.size
  have BW2 : Hid (Below b0 W w2) := (B1.mono hb0).trans hb2
  have HR : Hid (∀ ty, (Builtin.copy_ #[22, 22] ty #[.slice pa n ca, .slice q2 n2 c2]).run Tryd.prog w1 = .ok r w2) := hrun
  obtain ⟨p', cq, w3, hrun3, htw, hb3⟩ := run_dup w2 pa n ca C (hrd w2 hS2) hpn
  have HR3 : Hid ((Builtin.append_ #[22, 22] 22 #[.slice none 0 0, .slice pa n ca]).run Tryd.prog w2 = .ok (.slice p' n cq) w3) := hrun3
  obtain ⟨w4, hw4⟩ : ∃ w4, w3.alloc (.cells #[.slice p' n cq] 24) = w4 := ⟨_, rfl⟩
  have B34 : Below w3.heap.size w3 w4 := by rw [← hw4]; exact (Below.refl _ w3).alloc (Nat.le_refl _) _
  have B24 : Below w2.heap.size w2 w4 := hb3.trans (B34.mono hb3.size)
  have z3 := hb3.size
  have z4 : w4.heap.size = w3.heap.size + 1 := by rw [← hw4]; simp
  have f1 : w4.cell? ⟨W.heap.size, 0, none⟩ = some (.slice pa n ca) := (B24.cell (p := ⟨W.heap.size, 0, none⟩) (by show W.heap.size < _; omega)).trans e1
  have f3 : w4.cell? ⟨W.heap.size + 1, 2, none⟩ = some (.int .i64 N) := (B24.cell (p := ⟨W.heap.size + 1, 2, none⟩) (by show W.heap.size + 1 < _; omega)).trans e3
  have f2 : w4.cell? ⟨w3.heap.size, 0, none⟩ = some (.slice p' n cq) := by rw [← hw4]; exact cell_new _ _ _ _ _ rfl
  have hS4 : St w4 := hst _ _ hS2 B24
  have hTW4 : Tbs w4 := (hT.on BW2.out h7).on (B24.mono (by omega)) h7
  have hRQ : Reads w4 p' n C := by
    have h := hrd w4 hS4
    refine ⟨h.1, h.2.1, fun hne => ?_⟩
    obtain ⟨Q, rfl, _, hl, _⟩ := htw hne
    exact ⟨Q, 0, rfl, hl.next B34⟩
  have HCL : C.length ≤ 1353245080300 := (hrd w4 hS4).1.len
  -- what holds from here on
  have SV : Hid (∀ w' : World, Below w4.heap.size w4 w' → w'.cell? ⟨W.heap.size, 0, none⟩ = some (.slice pa n ca) ∧ w'.cell? ⟨W.heap.size + 1, 2, none⟩ = some (.int .i64 N) ∧ w'.cell? ⟨w3.heap.size, 0, none⟩ = some (.slice p' n cq) ∧ Below w4.heap.size w4 w') := fun w' hb =>
    ⟨(hb.cell (p := ⟨W.heap.size, 0, none⟩) (by show W.heap.size < _; omega)).trans f1, (hb.cell (p := ⟨W.heap.size + 1, 2, none⟩) (by show W.heap.size + 1 < _; omega)).trans f3, (hb.cell (p := ⟨w3.heap.size, 0, none⟩) (by show w3.heap.size < _; omega)).trans f2, hb⟩
  have HA : Hid (∀ w' : World, Below w4.heap.size w4 w' → Reads w' pa n C ∧ Reads w' p' n C ∧ Tbs w' ∧ 7 ≤ w'.heap.size) := fun w' hb =>
    ⟨hrd w' (hst _ _ hS4 hb), hRQ.next hb, hTW4.on hb (by omega), by have := hb.size; omega⟩
  have HUN : Hid (∀ w' : World, Below w4.heap.size w4 w' → Calls Tryd.prog 47 #[.agg #[.slice pa n ca], .agg #[.slice p' n cq]] w' fun e w'' => e = .returned (.bool true) ∧ Below b0 w' w'' ∧ ∀ k, k < w'.heap.size → pa ≠ some ⟨k, 0, none⟩ → w''.heap[k]? = w'.heap[k]?) := fun w' hb =>
    hun w' p' cq (hst _ _ hS4 hb) (fun hne => by
      obtain ⟨Q, rfl, hQ, hl, _⟩ := htw hne
      exact ⟨Q, rfl, by omega, (hl.next B34).next hb⟩) (hTW4.on hb (by omega))
  obtain ⟨db, hdb⟩ : ∃ db : ByteArray, (⟨(dumpS C).1.toArray⟩ : ByteArray) = db := ⟨_, rfl⟩
  obtain ⟨de, hde⟩ : ∃ de : Int, (dumpS C).2 = de := ⟨_, rfl⟩
  have H45 : Hid (∀ w' : World, Below w4.heap.size w4 w' → Calls Tryd.prog 45 #[.agg #[.slice pa n ca]] w' fun e w'' => e = .returned (.tuple #[.string db, .int .i64 de]) ∧ Below w'.heap.size w' w'') := fun w' hb => by
    obtain ⟨x1, x2, x3, x4⟩ := HA.out w' hb
    rw [← hdb, ← hde]; exact dump_any w' pa n ca C x1 x3.kw x3.dt hC1 hC2 x4
  have H46 : Hid (∀ w' : World, Below w4.heap.size w4 w' → Calls Tryd.prog 46 #[.agg #[.slice p' n cq]] w' fun e w'' => e = .returned (.tuple #[.string db, .int .i64 de]) ∧ Below w'.heap.size w' w'') := fun w' hb => by
    obtain ⟨x1, x2, x3, x4⟩ := HA.out w' hb
    rw [← hdb, ← hde]; exact rdump_any w' p' n cq C x2 x3.rk x3.dt hC1 hC2 x4
  obtain ⟨tv, htv⟩ : ∃ tv : Int, (if treeS nameS typeS C then (0 : Int) else 30) = tv := ⟨_, rfl⟩
  have H7 : Hid (∀ w' : World, Below w4.heap.size w4 w' → Calls Tryd.prog 7 #[.agg #[.slice pa n ca]] w' fun e w'' => e = .returned (.int .i64 tv) ∧ Below w'.heap.size w' w'') := fun w' hb => by
    rw [← htv]; exact valid_any w' pa n ca C (HA.out w' hb).1 (HA.out w' hb).2.2.1.kw
  have H17 : Hid (∀ w' : World, Below w4.heap.size w4 w' → Calls Tryd.prog 17 #[.agg #[.slice p' n cq]] w' fun e w'' => e = .returned (.int .i64 tv) ∧ Below w'.heap.size w' w'') := fun w' hb => by
    rw [← htv]; exact rvalidT_any w' p' n cq C (HA.out w' hb).2.1 (HA.out w' hb).2.2.1.rk hC1
  obtain ⟨lv, hlv⟩ : ∃ lv : Int, lastS C N = lv := ⟨_, rfl⟩
  have H11 : Hid (∀ w' : World, Below w4.heap.size w4 w' → Calls Tryd.prog 11 #[.agg #[.slice pa n ca], .int .i64 N] w' fun e w'' => e = .returned (.int .i64 lv) ∧ Below w'.heap.size w' w'') := fun w' hb => by
    rw [← hlv]; exact last_any w' pa n ca C N (HA.out w' hb).1 (HA.out w' hb).2.2.1.kw
  have H19 : Hid (∀ w' : World, Below w4.heap.size w4 w' → Calls Tryd.prog 19 #[.agg #[.slice p' n cq], .int .i64 N] w' fun e w'' => e = .returned (.int .i64 lv) ∧ Below w'.heap.size w' w'') := fun w' hb => by
    rw [← hlv]; exact rlast_any w' p' n cq C N (HA.out w' hb).2.1 (HA.out w' hb).2.2.1.rk hC1
  obtain ⟨pv, hpv⟩ : ∃ pv : Int, parS C N = pv := ⟨_, rfl⟩
  have H12 : Hid (∀ w' : World, Below w4.heap.size w4 w' → Calls Tryd.prog 12 #[.agg #[.slice pa n ca], .int .i64 N] w' fun e w'' => e = .returned (.int .i64 pv) ∧ Below w'.heap.size w' w'') := fun w' hb => by
    rw [← hpv]; exact parent_any w' pa n ca C N (HA.out w' hb).1 (HA.out w' hb).2.2.1.kw
  have H20 : Hid (∀ w' : World, Below w4.heap.size w4 w' → Calls Tryd.prog 20 #[.agg #[.slice p' n cq], .int .i64 N] w' fun e w'' => e = .returned (.int .i64 pv) ∧ Below w'.heap.size w' w'') := fun w' hb => by
    rw [← hpv]; exact rparent_any w' p' n cq C N (HA.out w' hb).2.1 (HA.out w' hb).2.2.1.rk hC1
  obtain ⟨KI, hKI⟩ : ∃ KI, kidsA C N = KI := ⟨_, rfl⟩
  have hKl : KI.length ≤ 1353245080300 := by rw [← hKI]; exact Nat.le_trans kidsA_len HCL
  have H13 : Hid (∀ w' : World, Below w4.heap.size w4 w' → Calls Tryd.prog 13 #[.agg #[.slice pa n ca], .int .i64 N] w' fun e w'' => (∃ p c, e = .returned (.slice p KI.length c) ∧ Hid (IRow w'' p c KI)) ∧ Below w'.heap.size w' w'') := fun w' hb => by
    refine (kidsZ_any w' pa n ca C N (HA.out w' hb).1 (HA.out w' hb).2.2.1.kw).mono ?_
    rw [hKI]
    rintro e w'' ⟨⟨v, rfl, ho, _⟩, hb''⟩
    obtain ⟨p, c, rfl, hr⟩ := IRow.of_own ho.out
    exact ⟨⟨p, c, rfl, hr⟩, hb''⟩
  have H22 : Hid (∀ w' : World, Below w4.heap.size w4 w' → Calls Tryd.prog 22 #[.agg #[.slice p' n cq], .int .i64 N] w' fun e w'' => (∃ p c, e = .returned (.slice p KI.length c) ∧ Hid (IRow w'' p c KI)) ∧ Below w'.heap.size w' w'') := fun w' hb => by
    refine (rKids_any w' p' n cq C N (HA.out w' hb).2.1 (HA.out w' hb).2.2.1.rk hC1).mono ?_
    rw [hKI]
    rintro e w'' ⟨⟨v, rfl, ho⟩, hb''⟩
    obtain ⟨p, c, rfl, hr⟩ := IRow.of_own ho.out
    exact ⟨⟨p, c, rfl, hr⟩, hb''⟩
  obtain ⟨SI, hSI⟩ : ∃ SI, spineR C N = SI := ⟨_, rfl⟩
  have hSl : SI.length ≤ 1353245080300 := by rw [← hSI]; exact Nat.le_trans spineR_len HCL
  have H14 : Hid (∀ w' : World, Below w4.heap.size w4 w' → Calls Tryd.prog 14 #[.agg #[.slice pa n ca], .int .i64 N] w' fun e w'' => (∃ p c, e = .returned (.slice p SI.length c) ∧ Hid (IRow w'' p c SI)) ∧ Below w'.heap.size w' w'') := fun w' hb => by
    refine (spineZ_any w' pa n ca C N (HA.out w' hb).1 (HA.out w' hb).2.2.1.kw).mono ?_
    rintro e w'' ⟨⟨v, l, rfl, ho, hok, _⟩, hb''⟩
    have el : l = SI := (spine_eq hok.out).trans hSI
    subst el
    obtain ⟨p, c, rfl, hr⟩ := IRow.of_own ho.out
    exact ⟨⟨p, c, rfl, hr⟩, hb''⟩
  have H23 : Hid (∀ w' : World, Below w4.heap.size w4 w' → Calls Tryd.prog 23 #[.agg #[.slice p' n cq], .int .i64 N] w' fun e w'' => (∃ p c, e = .returned (.slice p SI.length c) ∧ Hid (IRow w'' p c SI)) ∧ Below w'.heap.size w' w'') := fun w' hb => by
    refine (rspine_any w' p' n cq C N (HA.out w' hb).2.1 (HA.out w' hb).2.2.1.rk hC1).mono ?_
    rw [hSI]
    rintro e w'' ⟨⟨v, rfl, ho⟩, hb''⟩
    obtain ⟨p, c, rfl, hr⟩ := IRow.of_own ho.out
    exact ⟨⟨p, c, rfl, hr⟩, hb''⟩
  obtain ⟨SU, hSU⟩ : ∃ SU, subA C N = SU := ⟨_, rfl⟩
  have hSF : Fine SU := by rw [← hSU]; exact subA_fine (hrd w4 hS4).1
  have HSF : Hid (Fine SU) := hSF
  have H16 : Hid (∀ w' : World, Below w4.heap.size w4 w' → Calls Tryd.prog 16 #[.agg #[.slice pa n ca], .int .i64 N] w' fun e w'' => (∃ p c, e = .returned (.agg #[.slice p SU.length c]) ∧ Hid (Reads w'' p SU.length SU)) ∧ Below w'.heap.size w' w'') := fun w' hb => by
    refine (sub_any w' pa n ca C N (HA.out w' hb).1 hnca (HA.out w' hb).2.2.1.kw).mono ?_
    rw [hSU]
    rintro e w'' ⟨⟨p, c, rfl, htn⟩, hb''⟩
    exact ⟨⟨p, c, rfl, htn.out.reads HSF.out⟩, hb''⟩
  have H25 : Hid (∀ w' : World, Below w4.heap.size w4 w' → Calls Tryd.prog 25 #[.agg #[.slice p' n cq], .int .i64 N] w' fun e w'' => (∃ p c, e = .returned (.agg #[.slice p SU.length c]) ∧ Hid (Reads w'' p SU.length SU)) ∧ Below w'.heap.size w' w'') := fun w' hb => by
    refine (rsub_any w' p' n cq C N (HA.out w' hb).2.1 (HA.out w' hb).2.2.1.rk hC1).mono ?_
    rw [hSU]
    rintro e w'' ⟨⟨p, c, rfl, htn⟩, hb''⟩
    exact ⟨⟨p, c, rfl, htn.out.reads HSF.out⟩, hb''⟩
  have HK4 : Hid (∀ k, k < W.heap.size → pa ≠ some ⟨k, 0, none⟩ → w4.heap[k]? = W.heap[k]?) := fun k hk hn => by
    rw [B24.block k (by omega), hsame k hn, B1.block k hk]
  have HPW : Hid (∀ k, W.heap.size ≤ k → pa ≠ some ⟨k, 0, none⟩) := hpw
  have HB4 : Hid (Below b0 W w4) := BW2.out.trans (B24.mono (by omega))
  have z24 : b0 ≤ w4.heap.size := by omega
  clear hdb hde htv hlv hpv hKI hSI hSU hSF hRQ hTW4 hS4 hS2 hsame hrun hrun3 htw hb3 B34 B24 e3 f2 f3 hx hb2 hT hC1 hC2 hcp hst hrd hun hpw B1 HA HCL BW2
  go_enter Tryd.func29, Tryd.ntmps29
  have hr1 := HR.out 3
  go_upto_region 2 with go_in
  clear hr1
  go_upto_region 3 with (first
    | (at_builtin; refine wpList_app9 (by rfl) (.const (.slice none 0 0)) (.tmp 17) (by rfl) HR3.out ?_)
    | go_in)
  go_upto_region 5 with (first
    | (go_at_call 45; refine (H45.out _ (Below.refl _ _)).mono ?_; rintro e w5 ⟨rfl, hb5⟩; obtain ⟨k1, k2, k3, _⟩ := SV.out w5 hb5)
    | (go_at_call 46; refine (H46.out _ hb5).mono ?_; rintro e w6 ⟨rfl, hb6⟩)
    | go_in)
  have hcd : Below w4.heap.size w4 w6.drew := (hb5.trans (hb6.mono hb5.size)).drew
  clear hw1 hw4 a1 e1 f1 k1 k2 k3 hb5 hb6 a2 a3 H45 H46 HR HR3
  go_region_held3 (fun w' => w'.cell? ⟨W.heap.size, 0, none⟩ = some (.slice pa n ca) ∧ w'.cell? ⟨W.heap.size + 1, 2, none⟩ = some (.int .i64 N) ∧ w'.cell? ⟨w3.heap.size, 0, none⟩ = some (.slice p' n cq) ∧ Below w4.heap.size w4 w') (exact SV.out _ (by assumption))
    (first
    | (go_at_call 7; refine (H7.out _ hcd).mono ?_; rintro e w6 ⟨rfl, hb6⟩; replace hcd := hcd.trans (hb6.mono hcd.size))
    | (go_at_call 17; refine (H17.out _ hcd).mono ?_; rintro e w6 ⟨rfl, hb6⟩; replace hcd := hcd.trans (hb6.mono hcd.size))
    | (go_at_call 11; refine (H11.out _ hcd).mono ?_; rintro e w6 ⟨rfl, hb6⟩; replace hcd := hcd.trans (hb6.mono hcd.size))
    | (go_at_call 19; refine (H19.out _ hcd).mono ?_; rintro e w6 ⟨rfl, hb6⟩; replace hcd := hcd.trans (hb6.mono hcd.size))
    | (go_at_call 12; refine (H12.out _ hcd).mono ?_; rintro e w6 ⟨rfl, hb6⟩; replace hcd := hcd.trans (hb6.mono hcd.size))
    | (go_at_call 20; refine (H20.out _ hcd).mono ?_; rintro e w6 ⟨rfl, hb6⟩; replace hcd := hcd.trans (hb6.mono hcd.size)))
  have SV3 : Hid (∀ w' : World, Below w4.heap.size w4 w' → w'.cell? ⟨W.heap.size, 0, none⟩ = some (.slice pa n ca) ∧ w'.cell? ⟨W.heap.size + 1, 2, none⟩ = some (.int .i64 N) ∧ w'.cell? ⟨w3.heap.size, 0, none⟩ = some (.slice p' n cq)) := fun w' hb => ⟨(SV.out w' hb).1, (SV.out w' hb).2.1, (SV.out w' hb).2.2.1⟩
  have SV7 : Hid (∀ w' w'' : World, Below w4.heap.size w4 w' → (∀ k, k < w'.heap.size → pa ≠ some ⟨k, 0, none⟩ → w''.heap[k]? = w'.heap[k]?) → w''.cell? ⟨W.heap.size, 0, none⟩ = some (.slice pa n ca) ∧ w''.cell? ⟨W.heap.size + 1, 2, none⟩ = some (.int .i64 N) ∧ w''.cell? ⟨w3.heap.size, 0, none⟩ = some (.slice p' n cq)) := fun w' w'' hb hk => by
    obtain ⟨x1, x2, x3⟩ := SV3.out w' hb
    have := hb.size
    exact ⟨(World.cell?_of_block (a := ⟨W.heap.size, 0, none⟩) (hk _ (by show W.heap.size < _; omega) (HPW.out _ (Nat.le_refl _)))).trans x1, (World.cell?_of_block (a := ⟨W.heap.size + 1, 2, none⟩) (hk _ (by show W.heap.size + 1 < _; omega) (HPW.out _ (by show W.heap.size ≤ W.heap.size + 1; omega)))).trans x2, (World.cell?_of_block (a := ⟨w3.heap.size, 0, none⟩) (hk _ (by show w3.heap.size < _; omega) (HPW.out _ (by show W.heap.size ≤ w3.heap.size; omega)))).trans x3⟩
  have hfld := fun p n c => fld24 p n c
  go_upto_region 7 with fail
  replace hcd := hcd.drew
  go_region_held3 (fun w' => w'.cell? ⟨W.heap.size, 0, none⟩ = some (.slice pa n ca) ∧ w'.cell? ⟨W.heap.size + 1, 2, none⟩ = some (.int .i64 N) ∧ w'.cell? ⟨w3.heap.size, 0, none⟩ = some (.slice p' n cq)) (first | exact SV3.out _ (by assumption) | assumption)
    (first
    | (go_at_call 13; refine (H13.out _ hcd).mono ?_; rintro e w6 ⟨⟨p13, c13, rfl, hr13⟩, hb6⟩; replace hcd := hcd.trans (hb6.mono hcd.size))
    | (go_at_call 22; refine (H22.out _ hcd).mono ?_; rintro e w6 ⟨⟨p22, c22, rfl, hr22⟩, hb6⟩; replace hcd := hcd.trans (hb6.mono hcd.size); replace hr13 : Hid (IRow w6 p13 c13 KI) := hr13.out.next hb6)
    | (go_at_call 14; refine (H14.out _ hcd).mono ?_; rintro e w6 ⟨⟨p14, c14, rfl, hr14⟩, hb6⟩; replace hcd := hcd.trans (hb6.mono hcd.size))
    | (go_at_call 23; refine (H23.out _ hcd).mono ?_; rintro e w6 ⟨⟨p23, c23, rfl, hr23⟩, hb6⟩; replace hcd := hcd.trans (hb6.mono hcd.size); replace hr14 : Hid (IRow w6 p14 c14 SI) := hr14.out.next hb6)
    | (go_at_call 21; refine (sameInts_any _ p14 p23 c14 c23 SI hSl hr14 hr23).mono ?_; rintro e w6 ⟨rfl, hb6⟩; replace hcd := hcd.trans (hb6.mono hcd.size))
    | (go_at_call 21; refine (sameInts_any _ p13 p22 c13 c22 KI hKl hr13 hr22).mono ?_; rintro e w6 ⟨rfl, hb6⟩; replace hcd := hcd.trans (hb6.mono hcd.size))
    | (go_at_call 16; refine (H16.out _ hcd).mono ?_; rintro e w6 ⟨⟨p16, c16, rfl, hr16⟩, hb6⟩; replace hcd := hcd.trans (hb6.mono hcd.size))
    | (go_at_call 25; refine (H25.out _ hcd).mono ?_; rintro e w6 ⟨⟨p25, c25, rfl, hr25⟩, hb6⟩; replace hcd := hcd.trans (hb6.mono hcd.size); replace hr16 : Hid (Reads w6 p16 SU.length SU) := hr16.out.next hb6)
    | (go_at_call 24; refine (sameN_reads _ p16 p25 SU.length c16 c25 SU hr16.out hr25.out).mono ?_; rintro e w6 ⟨rfl, hb6⟩; replace hcd := hcd.trans (hb6.mono hcd.size))
    | (go_at_call 47; refine (HUN.out _ hcd).mono ?_; rintro e w7 ⟨rfl, hb7, hk7⟩; have hS7 := SV7.out w6 w7 hcd hk7))
  go_wp2
  go_ret
  have zcd := hcd.size
  exact ⟨rfl, (HB4.out.trans (hcd.mono z24)).trans hb7, fun k hk hn => (hk7 k (by omega) hn).trans ((hcd.block k (by omega)).trans (HK4.out k hk hn))⟩
end Go.Proofs.YtekgnogjfggnmaaDoor

namespace Go.Proofs.YtekgnogjfggnmaaDoor
open Go.RowKit Go.Shelf

theorem there_next {w w' : World} {B m : Nat} (h : w.there B 0 m) (hB : B < w.heap.size) (hb : Below w.heap.size w w') : w'.there B 0 m := fun j hj =>
  ⟨by rw [hb.cell (p := ⟨B, 0 + j, none⟩) hB]; exact (h j hj).1, by rw [hb.frozen (p := ⟨B, 0 + j, none⟩) hB]; exact (h j hj).2⟩
theorem setCells_other (B : Nat) : ∀ (vs : List Value) (o : Nat) (w : World) (k : Nat), k ≠ B → (w.setCells B o vs).heap[k]? = w.heap[k]?
  | [], _, _, _, _ => rfl
  | v :: r, o, w, k, h => by
    rw [World.setCells, setCells_other B r (o + 1) _ k h, Below.heap_setCell w ⟨B, o, none⟩ v k (fun e => h e)]

theorem anew_some (W : World) (b0 B n : Nat) (L : List Nd) (q1 : Option Addr) (n1 c1 : Nat) (q2 : Option Addr) (n2 c2 : Nat) (L2 : List Nd) (N : Int) (Tx : ByteArray)
    (hn : L.length = n) (hl : Lay W B 0 L) (ht : W.there B 0 (L.length * 9)) (hf : Fine L) (h2 : Reads W q2 n2 L2) (hb0 : b0 ≤ B) (h7 : 7 ≤ b0) (hT : Tbs W) (hr : Rng L) (hp : RngP L) (hr2 : Rng L2) (hp2 : RngP L2) :
    Calls Tryd.prog 29 #[.agg #[.slice (some ⟨B, 0, none⟩) n (n + 2)], .agg #[.slice q1 n1 c1, .slice q2 n2 c2, .int .i64 N, .string Tx]] W fun e w' => e = .returned (.bool true) ∧ Below b0 W w' ∧ ∀ k, k < W.heap.size → (some ⟨B, 0, none⟩ : Option Addr) ≠ some ⟨k, 0, none⟩ → w'.heap[k]? = W.heap[k]? := by
  have hBW := hl.lt
  have hml := mix_len L L2
  have hmf := mix_fine hf h2.1
  refine anew_core W b0 (some ⟨B, 0, none⟩) n (n + 2) q1 n1 c1 q2 n2 c2 N Tx (mix L L2) (fun w => Lay w B 0 (mix L L2) ∧ w.there B 0 (L.length * 9)) (by omega) h7 hT (mix_rng hr hr2) (mix_rngP hp hp2) (by omega) (fun e => by cases e) ?_ (fun k hk e => by cases e; omega) ?_ ?_ ?_
  · intro w1 hb1
    have ht1 := there_next ht hBW hb1
    have hT1 : (L2.take L.length).length ≤ L.length := by rw [List.length_take]; omega
    refine ⟨_, _, fun ty => run_copyL w1 ty B n (n + 2) L ht1 hn q2 n2 c2 L2 (h2.next hb1), ⟨lay_over (hl.next hb1) ht1 hT1, World.there_setCells ht1 _ _ _⟩, ApN.below_cells w1 B 0 _ hb0, fun k hk => setCells_other B _ 0 w1 k (fun e => hk (by rw [e]))⟩
  · rintro w w' ⟨x1, x2⟩ hb
    exact ⟨x1.next hb, there_next x2 x1.lt hb⟩
  · rintro w ⟨x1, _⟩
    exact ⟨hmf, by rw [hml]; exact hn, fun _ => ⟨B, 0, rfl, x1⟩⟩
  · rintro w3 p' cq ⟨x1, x2⟩ hQ hT3
    by_cases hne : mix L L2 = []
    · have hn0 : n = 0 := by rw [← hn, ← hml, hne]; rfl
      subst hn0
      refine (unlike_none w3 (some ⟨B, 0, none⟩) p' (0 + 2) cq (fun e => by cases e) hT3.kw hT3.rk).mono ?_
      rintro e w' ⟨rfl, hb⟩
      have := x1.lt
      exact ⟨rfl, hb.mono (by omega), fun k hk _ => hb.block k hk⟩
    · obtain ⟨Q, rfl, hQW, hlQ⟩ := hQ hne
      refine (unlike_keep w3 b0 B Q n (n + 2) cq (mix L L2) hne hmf (by rw [hml]; exact hn) x1 (by rw [hml]; exact x2) (by omega) hlQ hb0 (fun w' hb => ⟨(hT3.on hb h7).kw, (hT3.on hb h7).rk⟩) (mix_rng hr hr2)).mono ?_
      rintro e w' ⟨rfl, hb, hk⟩
      exact ⟨rfl, hb, fun k hk1 hk2 => hk k hk1 (fun e => hk2 (by rw [e]))⟩

theorem anew_nil (W : World) (b0 : Nat) (q1 : Option Addr) (n1 c1 : Nat) (q2 : Option Addr) (n2 c2 : Nat) (N : Int) (Tx : ByteArray) (hb0 : b0 ≤ W.heap.size) (h7 : 7 ≤ b0) (hT : Tbs W) :
    Calls Tryd.prog 29 #[.agg #[.slice none 0 0], .agg #[.slice q1 n1 c1, .slice q2 n2 c2, .int .i64 N, .string Tx]] W fun e w' => e = .returned (.bool true) ∧ Below b0 W w' ∧ ∀ k, k < W.heap.size → (none : Option Addr) ≠ some ⟨k, 0, none⟩ → w'.heap[k]? = W.heap[k]? := by
  refine anew_core W b0 none 0 0 q1 n1 c1 q2 n2 c2 N Tx [] (fun w => W.heap.size ≤ w.heap.size) hb0 h7 hT rng_nil (fun i hi => by simp at hi) (Nat.le_refl _) (fun _ => ⟨rfl, rfl⟩) ?_ (fun k _ e => by cases e) ?_ ?_ ?_
  · intro w1 hb1
    exact ⟨_, _, fun ty => run_copyZ w1 ty q2 n2 c2, hb1.size, Below.refl _ _, fun _ _ => rfl⟩
  · intro w w' h hb
    exact Nat.le_trans h hb.size
  · intro w _
    exact reads_nil w none
  · intro w3 p' cq h3 _ hT3
    refine (unlike_none w3 none p' 0 cq (fun _ => rfl) hT3.kw hT3.rk).mono ?_
    rintro e w' ⟨rfl, hb⟩
    exact ⟨rfl, hb.mono (by omega), fun k hk _ => hb.block k hk⟩
end Go.Proofs.YtekgnogjfggnmaaDoor

namespace Go.Proofs.YtekgnogjfggnmaaDoor
open Go.RowKit Go.Shelf

/-- The twin of a list that was handed in at p: nothing, or a block of its own from b0 on, with marks. -/
def TwA (w : World) (b0 : Nat) (p : Option Addr) (n : Nat) (L : List Nd) (pa : Option Addr) (ca : Nat) : Prop :=
  (p = none ∧ L = [] ∧ n = 0 ∧ pa = none ∧ ca = 0) ∨ ∃ B, p ≠ none ∧ pa = some ⟨B, 0, none⟩ ∧ ca = n + 2 ∧ b0 ≤ B ∧ B < w.heap.size ∧ Lay w B 0 (marked L) ∧ w.there B 0 ((L.length + 2) * 9)
theorem TwA.on {w w' : World} {b0 b : Nat} {p pa : Option Addr} {n ca : Nat} {L : List Nd} (h : TwA w b0 p n L pa ca) (hb : Below b w w') (hlt : w.heap.size ≤ b ∨ ∀ B, pa = some ⟨B, 0, none⟩ → B < b) : TwA w' b0 p n L pa ca := by
  rcases h with h | ⟨B, h1, h2, h3, h4, h5, h6, h7⟩
  · exact .inl h
  · have hB : B < b := hlt.elim (fun h => by omega) (fun h => h B h2)
    refine .inr ⟨B, h1, h2, h3, h4, Nat.lt_of_lt_of_le h5 hb.size, h6.below hb hB hb.size, fun j hj => ⟨?_, ?_⟩⟩
    · rw [hb.cell (p := ⟨B, 0 + j, none⟩) hB]; exact (h7 j hj).1
    · rw [hb.frozen (p := ⟨B, 0 + j, none⟩) hB]; exact (h7 j hj).2
theorem TwA.reads {w : World} {b0 : Nat} {p pa : Option Addr} {n ca : Nat} {L : List Nd} (h : TwA w b0 p n L pa ca) (hf : Fine L) (hn : L.length = n) : Reads w pa n L := by
  rcases h with ⟨_, rfl, rfl, rfl, _⟩ | ⟨B, h1, rfl, h3, h4, h5, h6, h7⟩
  · exact reads_nil w none
  · exact ⟨hf, hn, fun _ => ⟨B, 0, rfl, lay_marked h6⟩⟩
theorem TwA.cap {w : World} {b0 : Nat} {p pa : Option Addr} {n ca : Nat} {L : List Nd} (h : TwA w b0 p n L pa ca) : n ≤ ca := by
  rcases h with ⟨_, _, rfl, _, _⟩ | ⟨B, h1, rfl, h3, h4, h5, h6, h7⟩ <;> omega
theorem TwA.lt {w : World} {b0 : Nat} {p pa : Option Addr} {n ca : Nat} {L : List Nd} (h : TwA w b0 p n L pa ca) : ∀ B, pa = some ⟨B, 0, none⟩ → B < w.heap.size := by
  intro B hB
  rcases h with ⟨_, _, _, h4, _⟩ | ⟨B', h1, h2, h3, h4, h5, h6, h7⟩
  · rw [h4] at hB; cases hB
  · rw [h2] at hB; cases hB; exact h5

theorem twinA_any (w : World) (p : Option Addr) (n cap : Nat) (L : List Nd) (h : Arg w p n cap L) :
    Calls Tryd.prog 8 #[.agg #[.slice p n cap]] w fun e w' => (∃ pa ca, e = .returned (.agg #[.slice pa n ca]) ∧ Hid (TwA w' w.heap.size p n L pa ca)) ∧ Below w.heap.size w w' := by
  refine (twinM_any w p n cap L h).mono ?_
  rintro e w' ⟨hc, hb⟩
  rcases hc with ⟨hp, hL, rfl⟩ | ⟨B, hp, rfl, ht⟩
  · have hn := (h.nil hp).1
    subst hn
    exact ⟨⟨none, 0, rfl, .inl ⟨hp, hL, rfl, rfl, rfl⟩⟩, hb⟩
  · exact ⟨⟨_, _, rfl, .inr ⟨B, hp, rfl, rfl, ht.out.new, ht.out.lay.lt, ht.out.lay, ht.out.there⟩⟩, hb⟩

theorem untA_any (w : World) (b0 : Nat) (p pa : Option Addr) (n cap ca : Nat) (L : List Nd) (h : TwA w b0 p n L pa ca) (ha : Arg w p n cap L) :
    Calls Tryd.prog 28 #[.agg #[.slice pa n ca], .agg #[.slice p n cap]] w fun e w' => e = .returned (.bool true) ∧ Below w.heap.size w w' := by
  rcases h with ⟨rfl, rfl, rfl, rfl, rfl⟩ | ⟨B, h1, rfl, rfl, h4, h5, h6, h7⟩
  · obtain ⟨_, rfl⟩ := ha.nil rfl
    exact untouched_nil w
  · cases p with
    | none => exact absurd rfl h1
    | some a => exact untouched_some w B a n cap L h6 ha.reads

theorem anewA_any (w : World) (b0 : Nat) (p pa : Option Addr) (n cap ca : Nat) (L : List Nd) (q2 : Option Addr) (n2 c2 : Nat) (L2 : List Nd) (N : Int) (Tx : ByteArray) (h : TwA w b0 p n L pa ca) (ha : Arg w p n cap L) (h2 : Reads w q2 n2 L2)
    (hb0 : b0 ≤ w.heap.size) (h7 : 7 ≤ b0) (hT : Tbs w) (hr : Rng L) (hp : RngP L) (hr2 : Rng L2) (hp2 : RngP L2) :
    Calls Tryd.prog 29 #[.agg #[.slice pa n ca], .agg #[.slice p n cap, .slice q2 n2 c2, .int .i64 N, .string Tx]] w fun e w' => e = .returned (.bool true) ∧ Below b0 w w' ∧ ∀ k, k < w.heap.size → pa ≠ some ⟨k, 0, none⟩ → w'.heap[k]? = w.heap[k]? := by
  rcases h with ⟨rfl, rfl, rfl, rfl, rfl⟩ | ⟨B, h1, rfl, rfl, h4, h5, h6, h7'⟩
  · exact anew_nil w b0 none 0 cap q2 n2 c2 N Tx hb0 h7 hT
  · exact anew_some w b0 B n L p n cap q2 n2 c2 L2 N Tx ha.reads.2.1 (lay_marked h6) (fun j hj => h7' j (by omega)) ha.reads.1 h2 h4 h7 hT hr hp hr2 hp2

/-- A row of numbers that was answered in w. -/
structure RowZ (w w' : World) (P : Option Addr) (c : Nat) (K : List Nat) : Prop where
  own : w'.ownsRow w.heap.size 3 1 (.slice P K.length c) K.length (iv (nI K))
  nil : K = [] → P = none ∧ c = 0
theorem RowZ.next {w w' w'' : World} {P : Option Addr} {c : Nat} {K : List Nat} (h : RowZ w w' P c K) (hb : Below w'.heap.size w' w'') : RowZ w w'' P c K := ⟨own_stays h.own hb, h.nil⟩
theorem RowZ.irow {w w' : World} {P : Option Addr} {c : Nat} {K : List Nat} (h : RowZ w w' P c K) : IRow w' P c K := by
  obtain ⟨p, cap, e, hr⟩ := IRow.of_own h.own
  cases e
  exact hr
theorem kidsR_any (w : World) (p : Option Addr) (n cap : Nat) (L : List Nd) (N : Int) (h : Reads w p n L) (hk : KwAt w) :
    Calls Tryd.prog 13 #[.agg #[.slice p n cap], .int .i64 N] w fun e w' => (∃ P c, e = .returned (.slice P (kidsA L N).length c) ∧ Hid (RowZ w w' P c (kidsA L N))) ∧ Below w.heap.size w w' := by
  refine (kidsZ_any w p n cap L N h hk).mono ?_
  rintro e w' ⟨⟨v, rfl, ho, hz⟩, hb⟩
  obtain ⟨P, c, rfl, _⟩ := IRow.of_own ho.out
  exact ⟨⟨P, c, rfl, ho.out, fun e => by have h0 := hz.out e; injection h0 with h1 h2 h3; exact ⟨h1, h3⟩⟩, hb⟩
theorem spineR_any (w : World) (p : Option Addr) (n cap : Nat) (L : List Nd) (N : Int) (h : Reads w p n L) (hk : KwAt w) :
    Calls Tryd.prog 14 #[.agg #[.slice p n cap], .int .i64 N] w fun e w' => (∃ P c, e = .returned (.slice P (spineR L N).length c) ∧ Hid (RowZ w w' P c (spineR L N))) ∧ Below w.heap.size w w' := by
  refine (spineZ_any w p n cap L N h hk).mono ?_
  rintro e w' ⟨⟨v, l, rfl, ho, hok, hz⟩, hb⟩
  have el := spine_eq hok.out
  subst el
  obtain ⟨P, c, rfl, _⟩ := IRow.of_own ho.out
  exact ⟨⟨P, c, rfl, ho.out, fun e => by have h0 := hz.out e; injection h0 with h1 h2 h3; exact ⟨h1, h3⟩⟩, hb⟩
/-- Nodes that were answered in w. -/
structure NRowZ (w w' : World) (P : Option Addr) (c : Nat) (S : List Nd) : Prop where
  own : w'.ownsRow w.heap.size 36 9 (.slice P S.length c) S.length (flat S)
  nil : S.length = 0 → P = none ∧ c = 0
theorem NRowZ.next {w w' w'' : World} {P : Option Addr} {c : Nat} {S : List Nd} (h : NRowZ w w' P c S) (hb : Below w'.heap.size w' w'') : NRowZ w w'' P c S := ⟨ApN.own_stays h.own hb, h.nil⟩
theorem NRowZ.reads {w w' : World} {P : Option Addr} {c : Nat} {S : List Nd} (h : NRowZ w w' P c S) (hf : Fine S) : Reads w' P S.length S := by
  refine ⟨hf, rfl, fun hne => ?_⟩
  rcases h.own.2 with ⟨_, h0⟩ | ⟨g, cap, cur, hv, _⟩
  · exact absurd (List.length_eq_zero_iff.1 h0) hne
  · cases hv
    exact ⟨g, 0, rfl, (lay_of_own h.own).2.1⟩
theorem subR_any (w : World) (p : Option Addr) (n cap : Nat) (L : List Nd) (N : Int) (h : Reads w p n L) (hcap : n ≤ cap) (hk : KwAt w) :
    Calls Tryd.prog 16 #[.agg #[.slice p n cap], .int .i64 N] w fun e w' => (∃ P c, e = .returned (.agg #[.slice P (subA L N).length c]) ∧ Hid (NRowZ w w' P c (subA L N))) ∧ Below w.heap.size w w' := by
  refine (subO_any w p n cap L N h hcap hk).mono ?_
  rintro e w' ⟨⟨u, rfl, ho, hz⟩, hb⟩
  have hf : ∃ P c, u = .slice P (subA L N).length c := by
    rcases ho.2 with ⟨rfl, h0⟩ | ⟨g, cp, cur, rfl, _⟩
    · exact ⟨none, 0, by rw [h0]⟩
    · exact ⟨_, _, rfl⟩
  obtain ⟨P, c, rfl⟩ := hf
  exact ⟨⟨P, c, rfl, ho, fun e => by have h0 := hz e; injection h0 with h1 h2 h3; exact ⟨h1, h3⟩⟩, hb⟩

theorem mono_of {s : Nat → Nat} {m : Nat} (h : ∀ k, k < m → s k ≤ s (k + 1)) : ∀ a d, a + d ≤ m → s a ≤ s (a + d)
  | a, 0, _ => Nat.le_refl _
  | a, d + 1, hd => Nat.le_trans (mono_of h a d (by omega)) (h (a + d) (by omega))

theorem apart6 (w : World) (base O : Nat) (s : Nat → Nat) (V : Nat → Value) (K : Nat → List Nat) (hO : w.heap[O]? = some (.cells #[V 0, V 1, V 2, V 3, V 4, V 5] 41 (0, 0))) (hb : base ≤ s 0)
    (hown : ∀ k, k < 6 → w.ownsRow (s k) 3 1 (V k) (K k).length (iv (nI (K k)))) (hlt : ∀ k, k < 6 → ∀ g, (V k).ownBlock = some g → g < s (k + 1)) (hz : ∀ k, k < 6 → K k = [] → V k = .slice none 0 0) (hs : ∀ k, k < 6 → s k ≤ s (k + 1)) (hl : ∀ k, k < 6 → (K k).length ≤ 1353245080300) (hbase : base ≤ w.heap.size) :
    Calls Tryd.prog 26 #[.slice (some ⟨O, 0, none⟩) 6 6] w fun e w' => e = .returned (.bool true) ∧ ApI.KB base w w' := by
  refine ApI.apart_walkK w base O 6 V (fun k => (K k).length) (fun k => iv (nI (K k))) (by omega) ⟨⟨_, hO, fun k hk => ?_⟩, fun k hk => ?_⟩ (fun k hk => ?_) (fun k hk h0 => hz k hk (List.length_eq_zero_iff.1 h0)) ?_ hl hbase
  · match k, hk with
    | 0, _ => rfl
    | 1, _ => rfl
    | 2, _ => rfl
    | 3, _ => rfl
    | 4, _ => rfl
    | 5, _ => rfl
  · exact own_low (hown k hk) (Nat.le_trans hb (by have := mono_of hs 0 k (by omega); rwa [Nat.zero_add] at this))
  · rw [iv_len, nI_len]
  · intro a b ha hb' hne
    cases e : (V a).ownBlock with
    | none => exact .inl rfl
    | some g =>
      right
      intro e2
      have g1 := ((hown a ha).lt g e).1
      have g2 := hlt a ha g e
      have g3 := ((hown b hb').lt g e2.symm).1
      have g4 := hlt b hb' g e2.symm
      rcases Nat.lt_or_ge a b with h | h
      · have := mono_of hs (a + 1) (b - (a + 1)) (by omega)
        rw [show a + 1 + (b - (a + 1)) = b by omega] at this
        omega
      · have := mono_of hs (b + 1) (a - (b + 1)) (by omega)
        rw [show b + 1 + (a - (b + 1)) = a by omega] at this
        omega

theorem apart3 (w : World) (base O : Nat) (s t : Nat → Nat) (V : Nat → Value) (K : Nat → List Nd) (hO : w.heap[O]? = some (.cells #[V 0, V 1, V 2] 22 (0, 0))) (hb : ∀ k, k < 3 → base ≤ s k)
    (hown : ∀ k, k < 3 → w.ownsRow (s k) 36 9 (V k) (K k).length (flat (K k))) (hlt : ∀ k, k < 3 → ∀ g, (V k).ownBlock = some g → g < t k) (hst : ∀ a b, a < b → b < 3 → t a ≤ s b) (hz : ∀ k, k < 3 → (K k).length = 0 → V k = .slice none 0 0) (hl : ∀ k, k < 3 → (K k).length ≤ 1353245080300) (hbase : base ≤ w.heap.size) :
    Calls Tryd.prog 27 #[.slice (some ⟨O, 0, none⟩) 3 3] w fun e w' => e = .returned (.bool true) ∧ Below base w w' := by
  refine ApN.apart_walk w base O 3 V (fun k => (K k).length) (fun k => flat (K k)) (by omega) ⟨⟨_, hO, fun k hk => ?_⟩, fun k hk => own_low (hown k hk) (hb k hk)⟩ (fun k hk => flat_len _) hz ?_ hl hbase
  · match k, hk with
    | 0, _ => rfl
    | 1, _ => rfl
    | 2, _ => rfl
  · intro a b ha hb' hne
    cases e : (V a).ownBlock with
    | none => exact .inl rfl
    | some g =>
      right
      intro e2
      have g1 := ((hown a ha).lt g e).1
      have g2 := hlt a ha g e
      have g3 := ((hown b hb').lt g e2.symm).1
      have g4 := hlt b hb' g e2.symm
      rcases Nat.lt_or_ge a b with h | h
      · have := hst a b h hb'; omega
      · have := hst b a (by omega) ha; omega
end Go.Proofs.YtekgnogjfggnmaaDoor
