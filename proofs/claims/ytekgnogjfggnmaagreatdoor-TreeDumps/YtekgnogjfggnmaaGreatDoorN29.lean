import Derived.Test.YtekgnogjfggnmaaGreatDoorN28
import Derived.Test.YtekgnogjfggnmaaGreatDoorN24
namespace Go.Proofs.YtekgnogjfggnmaaGreatDoor
open Go.RowKit
set_option maxRecDepth 100000
set_option maxHeartbeats 1000000
theorem belowN (w : World) : ∀ n : Nat, Below w.heap.size w (w.drewN n)
 | 0 => Below.refl _ w
 | n + 1 => (belowN w n).drew
theorem neq9 (kd ps op it zz : Int) (nm lb ty tx : ByteArray) : ∀ w : World,
 (binOp BinOp.neq 42 (.agg #[.int .i64 kd, .int .i64 ps, .string nm, .string lb, .string ty, .int .i64 op, .int .i64 it, .string tx, .int .i64 zz]) (.agg #[.int .i64 kd, .int .i64 ps, .string nm, .string lb, .string ty, .int .i64 op, .int .i64 it, .string tx, .int .i64 zz])).run Tryz.prog w = .ok (.bool false) w := by
 intro w
 simp [go_sem]
theorem sameN_any (w : World) (g o cap g' o' cap' : Nat) (S : List Nd) (hS : S.length ≤ 1353245080300) (ha : Hid (Lay w g o S)) (hb : Hid (Lay w g' o' S)) :
 Calls Tryz.prog 10 #[.slice (some ⟨g, o, none⟩) S.length cap, .slice (some ⟨g', o', none⟩) S.length cap'] w fun e w' => e = .returned (.bool true) ∧ Below w.heap.size w w' := by
 go_enter Tryz.func10, Tryz.ntmps10
 go_wp2
 go_loopw [5] (fun v wr => ∃ k : Nat, k ≤ S.length ∧ v = .int .i64 (k : Int) ∧ Hid (Below w.heap.size w wr)) (fun v _ => S.length - (intOf v).toNat)
 case atStart => exact ⟨0, by omega, rfl, Below.refl _ _⟩
 case round =>
  obtain ⟨k, hk, rfl, hB⟩ := hrel
  by_cases hlt : k < S.length
  ·have j0 : (0 : Int) ≤ (k : Int) := by omega
   have j1 : (k : Int) < (S.length : Int) := by omega
   have dA := (ha.out.next hB.out).c k hlt
   have dB := (hb.out.next hB.out).c k hlt
   obtain ⟨x, hx⟩ : ∃ x, nd S k = x := ⟨_, rfl⟩
   rw [hx] at dA dB
   clear hx
   obtain ⟨kd, ps, nm, lb, ty, op, it, tx, zz⟩ := x
   have hne := neq9 kd ps op it zz nm lb ty tx
   have a0 : wr.cell? ⟨g, o + k * 9, none⟩ = some (.int .i64 kd) := dA 0 _ rfl
   have a1 : wr.cell? ⟨g, o + k * 9 + 1, none⟩ = some (.int .i64 ps) := dA 1 _ rfl
   have a2 : wr.cell? ⟨g, o + k * 9 + 2, none⟩ = some (.string nm) := dA 2 _ rfl
   have a3 : wr.cell? ⟨g, o + k * 9 + 3, none⟩ = some (.string lb) := dA 3 _ rfl
   have a4 : wr.cell? ⟨g, o + k * 9 + 4, none⟩ = some (.string ty) := dA 4 _ rfl
   have a5 : wr.cell? ⟨g, o + k * 9 + 5, none⟩ = some (.int .i64 op) := dA 5 _ rfl
   have a6 : wr.cell? ⟨g, o + k * 9 + 6, none⟩ = some (.int .i64 it) := dA 6 _ rfl
   have a7 : wr.cell? ⟨g, o + k * 9 + 7, none⟩ = some (.string tx) := dA 7 _ rfl
   have a8 : wr.cell? ⟨g, o + k * 9 + 8, none⟩ = some (.int .i64 zz) := dA 8 _ rfl
   have b0 : wr.cell? ⟨g', o' + k * 9, none⟩ = some (.int .i64 kd) := dB 0 _ rfl
   have b1 : wr.cell? ⟨g', o' + k * 9 + 1, none⟩ = some (.int .i64 ps) := dB 1 _ rfl
   have b2 : wr.cell? ⟨g', o' + k * 9 + 2, none⟩ = some (.string nm) := dB 2 _ rfl
   have b3 : wr.cell? ⟨g', o' + k * 9 + 3, none⟩ = some (.string lb) := dB 3 _ rfl
   have b4 : wr.cell? ⟨g', o' + k * 9 + 4, none⟩ = some (.string ty) := dB 4 _ rfl
   have b5 : wr.cell? ⟨g', o' + k * 9 + 5, none⟩ = some (.int .i64 op) := dB 5 _ rfl
   have b6 : wr.cell? ⟨g', o' + k * 9 + 6, none⟩ = some (.int .i64 it) := dB 6 _ rfl
   have b7 : wr.cell? ⟨g', o' + k * 9 + 7, none⟩ = some (.string tx) := dB 7 _ rfl
   have b8 : wr.cell? ⟨g', o' + k * 9 + 8, none⟩ = some (.int .i64 zz) := dB 8 _ rfl
   clear dA dB
   go_wp2
   go_quiet (fail)
   go_wp2
   exact ⟨⟨k + 1, by omega, by go_num, hB.out.trans ((belowN wr nq).mono hB.out.size)⟩, by simp [intOf]; omega⟩
  ·obtain rfl : k = S.length := by omega
   go_wp2
   go_ret
   exact ⟨rfl, hB.out⟩
def mNd (s : ByteArray) : Nd := ⟨0, 0, s, ⟨#[]⟩, ⟨#[]⟩, 0, 0, ⟨#[]⟩, 0⟩
def marked (L : List Nd) : List Nd := L ++ [mNd ⟨#[35]⟩, mNd ⟨#[35, 35]⟩]
theorem marked_len (L : List Nd) : (marked L).length = L.length + 2 := by simp [marked]
structure TwM (w w' : World) (L : List Nd) (B : Nat) : Prop where
 new : w.heap.size ≤ B
 lay : Lay w' B 0 (marked L)
 there : w'.there B 0 ((L.length + 2) * 9)
theorem range_mk {w : World} {B : Nat} {L : List Nd} (h0 : w.rangeAt B 0 (flat L)) (h1 : w.rangeAt B (L.length * 9) (mark ⟨#[35]⟩).toList) (h2 : w.rangeAt B ((L.length + 1) * 9) (mark ⟨#[35, 35]⟩).toList) : w.rangeAt B 0 (flat (marked L)) := fun j v hv => by
 have e : flat (marked L) = flat L ++ ((mark ⟨#[35]⟩).toList ++ (mark ⟨#[35, 35]⟩).toList) := by simp [flat, marked, mNd, ndV, mark]
 have hl := flat_len L
 rw [e] at hv
 by_cases a : j < (flat L).length
 ·rw [List.getElem?_append_left a] at hv
  exact h0 j v hv
 ·rw [List.getElem?_append_right (by omega)] at hv
  by_cases b : j - (flat L).length < 9
  ·rw [List.getElem?_append_left b] at hv
   have := h1 _ v hv
   rwa [show L.length * 9 + (j - (flat L).length) = 0 + j by omega] at this
  ·rw [List.getElem?_append_right (by show 9 ≤ _; omega)] at hv
   have := h2 _ v hv
   rwa [show (L.length + 1) * 9 + (j - (flat L).length - (mark ⟨#[35]⟩).toList.length) = 0 + j by show (L.length + 1) * 9 + (j - (flat L).length - 9) = _; omega] at this
theorem twinM_some (w : World) (a : Addr) (cap : Nat) (L : List Nd) (hL : L.length ≤ 1353245080300) (hs : ∀ j v, (flat L)[j]? = some v → w.cell? (a.add j) = some v ∧ (a.add j).block < w.heap.size) :
 Calls Tryz.prog 7 #[.agg #[.slice (some a) L.length cap]] w fun e w' => (∃ B, e = .returned (.agg #[.slice (some ⟨B, 0, none⟩) L.length (L.length + 2)]) ∧ Hid (TwM w w' L B)) ∧ Below w.heap.size w w' := by
 obtain ⟨Z, hZ, hmk⟩ := run_make9 L.length hL
 obtain ⟨w2, hw2⟩ : ∃ w2, (w.alloc (.cells #[.slice (some a) L.length cap] 24)).alloc (.cells #[.slice none 0 0] 24) = w2 := ⟨_, rfl⟩
 have z2 : w2.heap.size = w.heap.size + 2 := by rw [← hw2]; simp
 have B2 : Below w.heap.size w w2 := by rw [← hw2]; exact ((Below.refl _ w).alloc (Nat.le_refl _) _).alloc (by simp) _
 have c0 : w2.cell? ⟨w.heap.size, 0, none⟩ = some (.slice (some a) L.length cap) := by rw [← hw2]; exact cell_old _ (cell_new _ _ _ _ _ rfl)
 have c1 : w2.cell? ⟨w.heap.size + 1, 0, none⟩ = some (.slice none 0 0) ∧ w2.frozen? ⟨w.heap.size + 1, 0, none⟩ = false := by rw [← hw2]; have := new_cell (w.alloc (.cells #[.slice (some a) L.length cap] 24)) (.slice none 0 0) 24; rwa [World.size_alloc] at this
 obtain ⟨w3, hw3⟩ : ∃ w3, w2.alloc (.cells Z 42) = w3 := ⟨_, rfl⟩
 have z3 : w3.heap.size = w.heap.size + 3 := by rw [← hw3]; simp [z2]
 have B3 : Below w2.heap.size w2 w3 := by rw [← hw3]; exact (Below.refl _ w2).alloc (Nat.le_refl _) _
 have t3 : w3.there (w.heap.size + 2) 0 ((L.length + 2) * 9) := by rw [← hw3]; exact there_new w2 Z 42 _ _ z2.symm (by omega)
 have d0 := (B3.cell (p := ⟨w.heap.size, 0, none⟩) (by show w.heap.size < _; omega)).trans c0
 have d1 := (B3.cell (p := ⟨w.heap.size + 1, 0, none⟩) (by show w.heap.size + 1 < _; omega)).trans c1.1
 have f1 := (B3.frozen (p := ⟨w.heap.size + 1, 0, none⟩) (by show w.heap.size + 1 < _; omega)).trans c1.2
 have s3 : ∀ j v, (flat L)[j]? = some v → w3.cell? (a.add j) = some v := fun j v hv => by
  obtain ⟨h1, h2⟩ := hs j v hv
  exact (B3.cell (by omega)).trans ((B2.cell h2).trans h1)
 have hfl := flat_len L
 obtain ⟨w4, hw4⟩ : ∃ w4, w3.setCells (w.heap.size + 2) 0 (flat L) = w4 := ⟨_, rfl⟩
 obtain ⟨w5, hw5⟩ : ∃ w5, w4.setCells (w.heap.size + 2) (L.length * 9) (mark ⟨#[35]⟩).toList = w5 := ⟨_, rfl⟩
 obtain ⟨w6, hw6⟩ : ∃ w6, w5.setCells (w.heap.size + 2) ((L.length + 1) * 9) (mark ⟨#[35, 35]⟩).toList = w6 := ⟨_, rfl⟩
 have t4 : w4.there (w.heap.size + 2) 0 ((L.length + 2) * 9) := by rw [← hw4]; exact there_set t3 _ _ _
 have t5 : w5.there (w.heap.size + 2) 0 ((L.length + 2) * 9) := by rw [← hw5]; exact there_set t4 _ _ _
 have t6 : w6.there (w.heap.size + 2) 0 ((L.length + 2) * 9) := by rw [← hw6]; exact there_set t5 _ _ _
 have r4 : w4.rangeAt (w.heap.size + 2) 0 (flat L) := by rw [← hw4]; exact World.rangeAt_setCells_same w3 _ _ _ (there_sub t3 _ _ (by omega))
 have r5 : w5.rangeAt (w.heap.size + 2) 0 (flat L) := by rw [← hw5]; exact World.rangeAt_setCells_apart r4 _ _ _ (.inr (.inl (by omega)))
 have r6 : w6.rangeAt (w.heap.size + 2) 0 (flat L) := by rw [← hw6]; exact World.rangeAt_setCells_apart r5 _ _ _ (.inr (.inl (by omega)))
 have e4 : ∀ p : Addr, p.block ≠ w.heap.size + 2 → w4.cell? p = w3.cell? p := fun p hp => by rw [← hw4]; exact setCells_cell _ hp
 have e5 : ∀ p : Addr, p.block ≠ w.heap.size + 2 → w5.cell? p = w4.cell? p := fun p hp => by rw [← hw5]; exact setCells_cell _ hp
 have e6 : ∀ p : Addr, p.block ≠ w.heap.size + 2 → w6.cell? p = w5.cell? p := fun p hp => by rw [← hw6]; exact setCells_cell _ hp
 have z6 : w6.heap.size = w.heap.size + 3 := by rw [← hw6, setCells_size, ← hw5, setCells_size, ← hw4, setCells_size]; exact z3
 have B6 : Below w.heap.size w w6 := by
  rw [← hw6]; refine below_setCells (by omega) _ _ ?_
  rw [← hw5]; refine below_setCells (by omega) _ _ ?_
  rw [← hw4]; refine below_setCells (by omega) _ _ ?_
  exact B2.trans (B3.mono (by omega))
 have a0 := (e4 ⟨w.heap.size, 0, none⟩ (by show w.heap.size ≠ _; omega)).trans d0
 have b0 := (e5 ⟨w.heap.size, 0, none⟩ (by show w.heap.size ≠ _; omega)).trans a0
 have g0 := (e6 ⟨w.heap.size, 0, none⟩ (by show w.heap.size ≠ _; omega)).trans b0
 have g1 := (e6 ⟨w.heap.size + 1, 0, none⟩ (by show w.heap.size + 1 ≠ _; omega)).trans ((e5 ⟨w.heap.size + 1, 0, none⟩ (by show w.heap.size + 1 ≠ _; omega)).trans ((e4 ⟨w.heap.size + 1, 0, none⟩ (by show w.heap.size + 1 ≠ _; omega)).trans d1))
 have g2 : w6.frozen? ⟨w.heap.size + 1, 0, none⟩ = false := by rw [← hw6, World.frozen?_setCells, ← hw5, World.frozen?_setCells, ← hw4, World.frozen?_setCells]; exact f1
 have T4 : Hid (w4.there (w.heap.size + 2) (L.length * 9) 9) := there_sub t4 _ _ (by omega)
 have T5 : Hid (w5.there (w.heap.size + 2) ((L.length + 1) * 9) 9) := there_sub t5 _ _ (by omega)
 have T3 : Hid (w3.there (w.heap.size + 2) 0 (flat L).length) := there_sub t3 _ _ (by omega)
 have S3 : Hid (∀ j v, (flat L)[j]? = some v → w3.cell? (a.add j) = some v) := s3
 have HW4 : Hid (w3.setCells (w.heap.size + 2) 0 (flat L) = w4) := hw4
 have HW5 : Hid (w4.setCells (w.heap.size + 2) (L.length * 9) (mark ⟨#[35]⟩).toList = w5) := hw5
 have HW6 : Hid (w5.setCells (w.heap.size + 2) ((L.length + 1) * 9) (mark ⟨#[35, 35]⟩).toList = w6) := hw6
 have m5 : w5.rangeAt (w.heap.size + 2) (L.length * 9) (mark ⟨#[35]⟩).toList := by rw [← hw5]; exact World.rangeAt_setCells_same w4 _ _ _ (there_sub t4 _ _ (by show _ + 9 ≤ _; omega))
 have m6 : w6.rangeAt (w.heap.size + 2) (L.length * 9) (mark ⟨#[35]⟩).toList := by rw [← hw6]; exact World.rangeAt_setCells_apart m5 _ _ _ (.inr (.inl (by show _ + 9 ≤ _; omega)))
 have q6 : w6.rangeAt (w.heap.size + 2) ((L.length + 1) * 9) (mark ⟨#[35, 35]⟩).toList := by rw [← hw6]; exact World.rangeAt_setCells_same w5 _ _ _ (there_sub t5 _ _ (by show _ + 9 ≤ _; omega))
 have HFIN : Hid (TwM w (w6.setCell ⟨w.heap.size + 1, 0, none⟩ (.slice (some ⟨w.heap.size + 2, 0, none⟩) L.length (L.length + 2))) L (w.heap.size + 2)) :=
  ⟨by omega, (lay_of_range (by omega) (range_mk r6 m6 q6)).set _ (by omega), fun j hj => ⟨by rw [cell_set _ (by show w.heap.size + 2 ≠ _; omega)]; exact (t6 j (by omega)).1, by rw [World.frozen?_setCell]; exact (t6 j (by omega)).2⟩⟩
 have HB6 : Hid (Below w.heap.size w w6) := B6
 have n0 : (0 : Int) ≤ (L.length : Int) := by omega
 have n1 : (L.length : Int) < (L.length : Int) + 2 := by omega
 have he : ∀ w : World, (binOp BinOp.eql 22 (.slice (some a) L.length cap) (.slice none 0 0)).run Tryz.prog w = .ok (.bool false) w := nil_eq (some a) L.length cap
 clear hw4 hw5 hw6 t3 t4 t5 t6 r4 r5 r6 m5 m6 q6 e4 e5 e6 s3 hs B6 B2 B3 hZ
 have hcp : (Builtin.copy_ #[22, 22] 3 #[.slice (some ⟨w.heap.size + 2, 0, none⟩) (L.length + 2) (L.length + 2), .slice (some a) L.length cap]).run Tryz.prog w3 = .ok (.int .i64 (L.length : Int)) w4 := by
  rw [← HW4.out]
  exact run_copy9 w3 3 (w.heap.size + 2) _ _ a L.length cap (flat L) hfl (by omega) S3.out T3.out (flat_one L)
 have HM1 : Hid ((mark ⟨#[35]⟩).all (·.oneCell') = true) := mark_one _
 have HM2 : Hid ((mark ⟨#[35, 35]⟩).all (·.oneCell') = true) := mark_one _
 clear HW4 T3 S3 hfl
 go_enter Tryz.func7, Tryz.ntmps7
 go_wp2_with (first
  | (refine wpList_store_mid (by rfl) 42 (.tmp 22) (.tmp 21) (by rfl) (w.heap.size + 2) (L.length * 9) (mark ⟨#[35]⟩) (by rfl) (by rfl) T4.out size36 HM1.out ?_; rw [HW5.out])
  | (refine wpList_store_mid (by rfl) 42 (.tmp 29) (.tmp 28) (by rfl) (w.heap.size + 2) ((L.length + 1) * 9) (mark ⟨#[35, 35]⟩) (by rfl) (by rfl) T5.out size36 HM2.out ?_; rw [HW6.out])
  | go_in)
 have hq : (w6.setCell ⟨w.heap.size + 1, 0, none⟩ (.slice (some ⟨w.heap.size + 2, 0, none⟩) L.length (L.length + 2))).cell? ⟨w.heap.size + 1, 0, none⟩ = some (.slice (some ⟨w.heap.size + 2, 0, none⟩) L.length (L.length + 2)) := World.cell?_setCell_same' _ _ _ (by rw [g1]; rfl)
 exact bodyPost_ret (v := .agg #[.slice (some ⟨w.heap.size + 2, 0, none⟩) L.length (L.length + 2)]) (by simp [results, Tryz.results7, go_sem, hq]) rfl ⟨⟨_, rfl, HFIN⟩, HB6.out.setCell (p := ⟨w.heap.size + 1, 0, none⟩) (by show w.heap.size ≤ w.heap.size + 1; omega) _⟩
theorem twinM_any (w : World) (p : Option Addr) (n cap : Nat) (L : List Nd) (h : Arg w p n cap L) :
 Calls Tryz.prog 7 #[.agg #[.slice p n cap]] w fun e w' => ((p = none ∧ L = [] ∧ e = .returned (.agg #[.slice none 0 0])) ∨ ∃ B, p ≠ none ∧ e = .returned (.agg #[.slice (some ⟨B, 0, none⟩) n (n + 2)]) ∧ Hid (TwM w w' L B)) ∧ Below w.heap.size w w' := by
 obtain ⟨⟨hf, rfl, hr⟩, hn⟩ := h
 cases p with
 | none =>
  obtain ⟨h0, rfl⟩ := hn rfl
  have hL : L = [] := List.length_eq_zero_iff.1 h0
  subst hL
  exact (twin_nil w).mono fun e w' h => ⟨.inl ⟨rfl, rfl, h.1⟩, h.2⟩
 | some a =>
  refine (twinM_some w a cap L hf.len ?_).mono fun e w' h => ?_
  ·by_cases hne : L = []
   ·subst hne
    intro j v hv
    simp [flat] at hv
   ·obtain ⟨g, o, e, hl⟩ := hr hne
    cases e
    exact flat_src hl
  ·obtain ⟨⟨B, e1, e2⟩, hb⟩ := h
   exact ⟨.inr ⟨B, by simp, e1, e2⟩, hb⟩
theorem sameN_zero (w : World) (p p' : Option Addr) (cap cap' : Nat) :
 Calls Tryz.prog 10 #[.slice p 0 cap, .slice p' 0 cap'] w fun e w' => e = .returned (.bool true) ∧ Below w.heap.size w w' := by
 go_enter Tryz.func10, Tryz.ntmps10
 go_wp2
 go_loop [5] (fun v => v = .int .i64 0) (fun _ => 0)
 case atStart => rfl
 case round =>
  subst hrel
  go_wp2
  go_ret
  exact ⟨rfl, Below.refl _ _⟩
theorem sameN_reads (w : World) (p p' : Option Addr) (n cap cap' : Nat) (S : List Nd) (ha : Reads w p n S) (hb : Reads w p' n S) :
 Calls Tryz.prog 10 #[.slice p n cap, .slice p' n cap'] w fun e w' => e = .returned (.bool true) ∧ Below w.heap.size w w' := by
 obtain ⟨hf, rfl, hr⟩ := ha
 obtain ⟨_, _, hr'⟩ := hb
 by_cases hne : S = []
 ·subst hne
  exact sameN_zero w p p' cap cap'
 ·obtain ⟨g, o, rfl, hl⟩ := hr hne
  obtain ⟨g', o', rfl, hl'⟩ := hr' hne
  exact sameN_any w g o cap g' o' cap' S hf.len hl hl'
theorem eqlM (s : ByteArray) : ∀ w : World,
 (binOp BinOp.eql 42 (.agg #[.int .i64 0, .int .i64 0, .string s, .string ⟨#[]⟩, .string ⟨#[]⟩, .int .i64 0, .int .i64 0, .string ⟨#[]⟩, .int .i64 0]) (.agg #[.int .i64 0, .int .i64 0, .string s, .string ⟨#[]⟩, .string ⟨#[]⟩, .int .i64 0, .int .i64 0, .string ⟨#[]⟩, .int .i64 0])).run Tryz.prog w = .ok (.bool true) w := by
 intro w
 simp [go_sem]
theorem nd_marked1 (L : List Nd) : nd (marked L) L.length = mNd ⟨#[35]⟩ := by simp [nd, marked]
theorem nd_marked2 (L : List Nd) : nd (marked L) (L.length + 1) = mNd ⟨#[35, 35]⟩ := by
 unfold nd marked
 rw [List.getD_eq_getElem?_getD, List.getElem?_append_right (by omega)]
 simp
theorem nd_marked (L : List Nd) {k : Nat} (h : k < L.length) : nd (marked L) k = nd L k := by
 unfold nd marked
 rw [List.getD_eq_getElem?_getD, List.getD_eq_getElem?_getD, List.getElem?_append_left h]
theorem lay_marked {w : World} {B : Nat} {L : List Nd} (h : Lay w B 0 (marked L)) : Lay w B 0 L :=
 ⟨h.lt, fun i hi j v hv => h.c i (by rw [marked_len]; omega) j v (by rw [nd_marked L hi]; exact hv)⟩
theorem untouched_some (w : World) (B : Nat) (a : Addr) (n cap : Nat) (L : List Nd) (hl : Lay w B 0 (marked L)) (hr : Reads w (some a) n L) :
 Calls Tryz.prog 13 #[.agg #[.slice (some ⟨B, 0, none⟩) n (n + 2)], .agg #[.slice (some a) n cap]] w fun e w' => e = .returned (.bool true) ∧ Below w.heap.size w w' := by
 obtain ⟨w1, hw1⟩ : ∃ w1, (w.alloc (.cells #[.slice (some ⟨B, 0, none⟩) n (n + 2)] 24)).alloc (.cells #[.slice (some a) n cap] 24) = w1 := ⟨_, rfl⟩
 have B1 : Hid (Below w.heap.size w w1) := by rw [← hw1]; exact ((Below.refl _ w).alloc (Nat.le_refl _) _).alloc (by simp) _
 have c1 : w1.cell? ⟨w.heap.size, 0, none⟩ = some (.slice (some ⟨B, 0, none⟩) n (n + 2)) := by rw [← hw1]; exact cell_old _ (cell_new _ _ _ _ _ rfl)
 have c2 : w1.cell? ⟨w.heap.size + 1, 0, none⟩ = some (.slice (some a) n cap) := by rw [← hw1]; have := cell_new (w.alloc (.cells #[.slice (some ⟨B, 0, none⟩) n (n + 2)] 24)) #[.slice (some a) n cap] 24 0 _ rfl; rwa [World.size_alloc] at this
 have hlen := hr.2.1
 have hLb := hr.1.len
 have L1 := hl.next B1.out
 have HS : Hid (Calls Tryz.prog 10 #[.slice (some ⟨B, 0, none⟩) n (n + 2), .slice (some a) n cap] w1 fun e w' => e = .returned (.bool true) ∧ Below w1.heap.size w1 w') := sameN_reads w1 _ _ n _ _ L ⟨hr.1, hlen, fun _ => ⟨B, 0, rfl, lay_marked L1⟩⟩ (hr.next B1.out)
 have M1 : ∀ w', Below w1.heap.size w1 w' → ∀ (j : Nat) (v : Value), (ndV (mNd ⟨#[35]⟩))[j]? = some v → w'.cell? ⟨B, n * 9 + j, none⟩ = some v := fun w' hb j v hv => by
  have := (L1.next hb).c n (by rw [marked_len]; omega) j v (by rw [← hlen, nd_marked1]; exact hv)
  rwa [Nat.zero_add] at this
 have M2 : ∀ w', Below w1.heap.size w1 w' → ∀ (j : Nat) (v : Value), (ndV (mNd ⟨#[35, 35]⟩))[j]? = some v → w'.cell? ⟨B, (n + 1) * 9 + j, none⟩ = some v := fun w' hb j v hv => by
  have := (L1.next hb).c (n + 1) (by rw [marked_len]; omega) j v (by rw [← hlen, nd_marked2]; exact hv)
  rwa [Nat.zero_add] at this
 have x0 : ∀ w', Below w1.heap.size w1 w' → w'.cell? ⟨B, n * 9, none⟩ = some (.int .i64 0) := fun w' hb => M1 w' hb 0 _ rfl
 have x1 : ∀ w', Below w1.heap.size w1 w' → w'.cell? ⟨B, n * 9 + 1, none⟩ = some (.int .i64 0) := fun w' hb => M1 w' hb 1 _ rfl
 have x2 : ∀ w', Below w1.heap.size w1 w' → w'.cell? ⟨B, n * 9 + 2, none⟩ = some (.string ⟨#[35]⟩) := fun w' hb => M1 w' hb 2 _ rfl
 have x3 : ∀ w', Below w1.heap.size w1 w' → w'.cell? ⟨B, n * 9 + 3, none⟩ = some (.string ⟨#[]⟩) := fun w' hb => M1 w' hb 3 _ rfl
 have x4 : ∀ w', Below w1.heap.size w1 w' → w'.cell? ⟨B, n * 9 + 4, none⟩ = some (.string ⟨#[]⟩) := fun w' hb => M1 w' hb 4 _ rfl
 have x5 : ∀ w', Below w1.heap.size w1 w' → w'.cell? ⟨B, n * 9 + 5, none⟩ = some (.int .i64 0) := fun w' hb => M1 w' hb 5 _ rfl
 have x6 : ∀ w', Below w1.heap.size w1 w' → w'.cell? ⟨B, n * 9 + 6, none⟩ = some (.int .i64 0) := fun w' hb => M1 w' hb 6 _ rfl
 have x7 : ∀ w', Below w1.heap.size w1 w' → w'.cell? ⟨B, n * 9 + 7, none⟩ = some (.string ⟨#[]⟩) := fun w' hb => M1 w' hb 7 _ rfl
 have x8 : ∀ w', Below w1.heap.size w1 w' → w'.cell? ⟨B, n * 9 + 8, none⟩ = some (.int .i64 0) := fun w' hb => M1 w' hb 8 _ rfl
 have y0 : ∀ w', Below w1.heap.size w1 w' → w'.cell? ⟨B, (n + 1) * 9, none⟩ = some (.int .i64 0) := fun w' hb => M2 w' hb 0 _ rfl
 have y1 : ∀ w', Below w1.heap.size w1 w' → w'.cell? ⟨B, (n + 1) * 9 + 1, none⟩ = some (.int .i64 0) := fun w' hb => M2 w' hb 1 _ rfl
 have y2 : ∀ w', Below w1.heap.size w1 w' → w'.cell? ⟨B, (n + 1) * 9 + 2, none⟩ = some (.string ⟨#[35, 35]⟩) := fun w' hb => M2 w' hb 2 _ rfl
 have y3 : ∀ w', Below w1.heap.size w1 w' → w'.cell? ⟨B, (n + 1) * 9 + 3, none⟩ = some (.string ⟨#[]⟩) := fun w' hb => M2 w' hb 3 _ rfl
 have y4 : ∀ w', Below w1.heap.size w1 w' → w'.cell? ⟨B, (n + 1) * 9 + 4, none⟩ = some (.string ⟨#[]⟩) := fun w' hb => M2 w' hb 4 _ rfl
 have y5 : ∀ w', Below w1.heap.size w1 w' → w'.cell? ⟨B, (n + 1) * 9 + 5, none⟩ = some (.int .i64 0) := fun w' hb => M2 w' hb 5 _ rfl
 have y6 : ∀ w', Below w1.heap.size w1 w' → w'.cell? ⟨B, (n + 1) * 9 + 6, none⟩ = some (.int .i64 0) := fun w' hb => M2 w' hb 6 _ rfl
 have y7 : ∀ w', Below w1.heap.size w1 w' → w'.cell? ⟨B, (n + 1) * 9 + 7, none⟩ = some (.string ⟨#[]⟩) := fun w' hb => M2 w' hb 7 _ rfl
 have y8 : ∀ w', Below w1.heap.size w1 w' → w'.cell? ⟨B, (n + 1) * 9 + 8, none⟩ = some (.int .i64 0) := fun w' hb => M2 w' hb 8 _ rfl
 have X : Hid (∀ w', Below w1.heap.size w1 w' → w'.cell? ⟨B, n * 9, none⟩ = some (.int .i64 0) ∧ w'.cell? ⟨B, n * 9 + 1, none⟩ = some (.int .i64 0) ∧ w'.cell? ⟨B, n * 9 + 2, none⟩ = some (.string ⟨#[35]⟩) ∧ w'.cell? ⟨B, n * 9 + 3, none⟩ = some (.string ⟨#[]⟩) ∧ w'.cell? ⟨B, n * 9 + 4, none⟩ = some (.string ⟨#[]⟩) ∧ w'.cell? ⟨B, n * 9 + 5, none⟩ = some (.int .i64 0) ∧ w'.cell? ⟨B, n * 9 + 6, none⟩ = some (.int .i64 0) ∧ w'.cell? ⟨B, n * 9 + 7, none⟩ = some (.string ⟨#[]⟩) ∧ w'.cell? ⟨B, n * 9 + 8, none⟩ = some (.int .i64 0) ∧ w'.cell? ⟨B, (n + 1) * 9, none⟩ = some (.int .i64 0) ∧ w'.cell? ⟨B, (n + 1) * 9 + 1, none⟩ = some (.int .i64 0) ∧ w'.cell? ⟨B, (n + 1) * 9 + 2, none⟩ = some (.string ⟨#[35, 35]⟩) ∧ w'.cell? ⟨B, (n + 1) * 9 + 3, none⟩ = some (.string ⟨#[]⟩) ∧ w'.cell? ⟨B, (n + 1) * 9 + 4, none⟩ = some (.string ⟨#[]⟩) ∧ w'.cell? ⟨B, (n + 1) * 9 + 5, none⟩ = some (.int .i64 0) ∧ w'.cell? ⟨B, (n + 1) * 9 + 6, none⟩ = some (.int .i64 0) ∧ w'.cell? ⟨B, (n + 1) * 9 + 7, none⟩ = some (.string ⟨#[]⟩) ∧ w'.cell? ⟨B, (n + 1) * 9 + 8, none⟩ = some (.int .i64 0)) := fun w' hb => ⟨x0 w' hb, x1 w' hb, x2 w' hb, x3 w' hb, x4 w' hb, x5 w' hb, x6 w' hb, x7 w' hb, x8 w' hb, y0 w' hb, y1 w' hb, y2 w' hb, y3 w' hb, y4 w' hb, y5 w' hb, y6 w' hb, y7 w' hb, y8 w' hb⟩
 clear x0 x1 x2 x3 x4 x5 x6 x7 x8 y0 y1 y2 y3 y4 y5 y6 y7 y8 M1 M2 L1 hl hr
 have j0 : (0 : Int) ≤ (n : Int) := by omega
 have j1 : (n : Int) < (n : Int) + 2 := by omega
 have j2 : IntKind.i64.wrap ((n : Int) + 2) = (n : Int) + 2 := by rw [IntKind.wrap_i64]; omega
 have j3 : IntKind.i64.wrap ((n : Int) + 1) = (n : Int) + 1 := by rw [IntKind.wrap_i64]; omega
 have j4 : (0 : Int) ≤ (n : Int) + 2 := by omega
 have j5 : (0 : Int) ≤ (n : Int) + 1 := by omega
 have j6 : (n : Int) + 1 < (n : Int) + 2 := by omega
 have he : ∀ w : World, (binOp BinOp.eql 22 (.slice (some a) n cap) (.slice none 0 0)).run Tryz.prog w = .ok (.bool false) w := nil_eq (some a) n cap
 have q1 := eqlM ⟨#[35]⟩
 have q2 := eqlM ⟨#[35, 35]⟩
 clear hlen
 go_enter Tryz.func13, Tryz.ntmps13
 go_upto_region 5 with go_in
 go_wp2_with (first
  | (go_at_call 10; refine HS.out.mono ?_; rintro e w2 ⟨rfl, hb2⟩; obtain ⟨x0, x1, x2, x3, x4, x5, x6, x7, x8, y0, y1, y2, y3, y4, y5, y6, y7, y8⟩ := X.out w2 hb2)
  | go_in)
 go_ret
 exact ⟨rfl, B1.out.trans (hb2.mono B1.out.size)⟩
theorem untouched_nil (w : World) :
 Calls Tryz.prog 13 #[.agg #[.slice none 0 0], .agg #[.slice none 0 0]] w fun e w' => e = .returned (.bool true) ∧ Below w.heap.size w w' := by
 have he : ∀ w : World, (binOp BinOp.eql 22 (.slice none 0 0) (.slice none 0 0)).run Tryz.prog w = .ok (.bool true) w := nil_eq none 0 0
 go_enter Tryz.func13, Tryz.ntmps13
 go_wp2
 go_ret
 exact ⟨rfl, ((Below.refl _ w).alloc (Nat.le_refl _) _).alloc (by simp) _⟩
theorem neqG (kd : Int) (ps : Int) (nm : ByteArray) (lb : ByteArray) (ty : ByteArray) (op : Int) (it : Int) (tx : ByteArray) (zz : Int) (kd2 : Int) (ps2 : Int) (nm2 : ByteArray) (lb2 : ByteArray) (ty2 : ByteArray) (op2 : Int) (it2 : Int) (tx2 : ByteArray) (zz2 : Int) : ∀ w : World,
 (binOp BinOp.neq 42 (.agg #[.int .i64 kd, .int .i64 ps, .string nm, .string lb, .string ty, .int .i64 op, .int .i64 it, .string tx, .int .i64 zz]) (.agg #[.int .i64 kd2, .int .i64 ps2, .string nm2, .string lb2, .string ty2, .int .i64 op2, .int .i64 it2, .string tx2, .int .i64 zz2])).run Tryz.prog w = .ok (.bool (!((kd == kd2) && (ps == ps2) && (nm.toList == nm2.toList) && (lb.toList == lb2.toList) && (ty.toList == ty2.toList) && (op == op2) && (it == it2) && (tx.toList == tx2.toList) && (zz == zz2)))) w := by
 intro w
 cases h0 : (kd == kd2) with
 | false => simp [go_sem, h0]
 | true =>
  cases h1 : (ps == ps2) with
  | false => simp [go_sem, h0, h1]
  | true =>
   cases h2 : (nm.toList == nm2.toList) with
   | false => simp [go_sem, h0, h1, h2]
   | true =>
    cases h3 : (lb.toList == lb2.toList) with
    | false => simp [go_sem, h0, h1, h2, h3]
    | true =>
     cases h4 : (ty.toList == ty2.toList) with
     | false => simp [go_sem, h0, h1, h2, h3, h4]
     | true =>
      cases h5 : (op == op2) with
      | false => simp [go_sem, h0, h1, h2, h3, h4, h5]
      | true =>
       cases h6 : (it == it2) with
       | false => simp [go_sem, h0, h1, h2, h3, h4, h5, h6]
       | true =>
        cases h7 : (tx.toList == tx2.toList) with
        | false => simp [go_sem, h0, h1, h2, h3, h4, h5, h6, h7]
        | true =>
         cases h8 : (zz == zz2) with
         | false => simp [go_sem, h0, h1, h2, h3, h4, h5, h6, h7, h8]
         | true => simp [go_sem, h0, h1, h2, h3, h4, h5, h6, h7, h8]
theorem eqG {x y : Nd} : ((x.kind == y.kind) && (x.pos == y.pos) && (x.name.toList == y.name.toList) && (x.label.toList == y.label.toList) && (x.typ.toList == y.typ.toList) && (x.op == y.op) && (x.int == y.int) && (x.text.toList == y.text.toList) && (x.size == y.size)) = true ↔ x = y := by
 constructor
 ·intro h
  simp only [Bool.and_eq_true, beq_iff_eq] at h
  obtain ⟨⟨⟨⟨⟨⟨⟨⟨h0, h1⟩, h2⟩, h3⟩, h4⟩, h5⟩, h6⟩, h7⟩, h8⟩ := h
  cases x
  cases y
  simp only at h0 h1 h2 h3 h4 h5 h6 h7 h8
  have bx : ∀ a b : ByteArray, a.toList = b.toList → a = b := fun a b h => by
   rw [ByteArray.toList_eq, ByteArray.toList_eq] at h
   exact ByteArray.ext (Array.toList_inj.1 h)
  obtain rfl := h0; obtain rfl := h1; obtain rfl := bx _ _ h2; obtain rfl := bx _ _ h3; obtain rfl := bx _ _ h4; obtain rfl := h5; obtain rfl := h6; obtain rfl := bx _ _ h7; obtain rfl := h8
  rfl
 ·rintro rfl
  simp
theorem sameG_some (w : World) (g o cap g' o' cap' : Nat) (S S' : List Nd) (hl : S.length = S'.length) (hS : S.length ≤ 1353245080300) (ha : Hid (Lay w g o S)) (hb : Hid (Lay w g' o' S')) :
 Calls Tryz.prog 10 #[.slice (some ⟨g, o, none⟩) S.length cap, .slice (some ⟨g', o', none⟩) S'.length cap'] w fun e w' => (∃ b, e = .returned (.bool b) ∧ (b = true ↔ S = S')) ∧ Below w.heap.size w w' := by
 have HL : Hid (S.length = S'.length) := hl
 rw [← hl]
 clear hl
 go_enter Tryz.func10, Tryz.ntmps10
 go_wp2
 go_loopw [5] (fun v wr => ∃ k : Nat, k ≤ S.length ∧ v = .int .i64 (k : Int) ∧ Hid (∀ i, i < k → nd S i = nd S' i) ∧ Hid (Below w.heap.size w wr)) (fun v _ => S.length - (intOf v).toNat)
 case atStart => exact ⟨0, by omega, rfl, fun i hi => by omega, Below.refl _ _⟩
 case round =>
  obtain ⟨k, hk, rfl, hE, hB⟩ := hrel
  by_cases hlt : k < S.length
  ·have j0 : (0 : Int) ≤ (k : Int) := by omega
   have j1 : (k : Int) < (S.length : Int) := by omega
   have dA := (ha.out.next hB.out).c k hlt
   have dB := (hb.out.next hB.out).c k (by rw [← HL.out]; exact hlt)
   obtain ⟨x, hx⟩ : ∃ x, nd S k = x := ⟨_, rfl⟩
   obtain ⟨y, hy⟩ : ∃ y, nd S' k = y := ⟨_, rfl⟩
   have HX : Hid (nd S k = x) := hx
   have HY : Hid (nd S' k = y) := hy
   rw [hx] at dA
   rw [hy] at dB
   clear hx hy
   obtain ⟨kd, ps, nm, lb, ty, op, it, tx, zz⟩ := x
   obtain ⟨kd2, ps2, nm2, lb2, ty2, op2, it2, tx2, zz2⟩ := y
   have hne := neqG kd ps nm lb ty op it tx zz kd2 ps2 nm2 lb2 ty2 op2 it2 tx2 zz2
   have heq := @eqG ⟨kd, ps, nm, lb, ty, op, it, tx, zz⟩ ⟨kd2, ps2, nm2, lb2, ty2, op2, it2, tx2, zz2⟩
   have HEQ : Hid (((kd == kd2) && (ps == ps2) && (nm.toList == nm2.toList) && (lb.toList == lb2.toList) && (ty.toList == ty2.toList) && (op == op2) && (it == it2) && (tx.toList == tx2.toList) && (zz == zz2)) = true ↔ (⟨kd, ps, nm, lb, ty, op, it, tx, zz⟩ : Nd) = ⟨kd2, ps2, nm2, lb2, ty2, op2, it2, tx2, zz2⟩) := heq
   clear heq
   generalize hbb : ((kd == kd2) && (ps == ps2) && (nm.toList == nm2.toList) && (lb.toList == lb2.toList) && (ty.toList == ty2.toList) && (op == op2) && (it == it2) && (tx.toList == tx2.toList) && (zz == zz2)) = bb at hne HEQ
   clear hbb
   have a0 : wr.cell? ⟨g, o + k * 9, none⟩ = some (.int .i64 kd) := dA 0 _ rfl
   have a1 : wr.cell? ⟨g, o + k * 9 + 1, none⟩ = some (.int .i64 ps) := dA 1 _ rfl
   have a2 : wr.cell? ⟨g, o + k * 9 + 2, none⟩ = some (.string nm) := dA 2 _ rfl
   have a3 : wr.cell? ⟨g, o + k * 9 + 3, none⟩ = some (.string lb) := dA 3 _ rfl
   have a4 : wr.cell? ⟨g, o + k * 9 + 4, none⟩ = some (.string ty) := dA 4 _ rfl
   have a5 : wr.cell? ⟨g, o + k * 9 + 5, none⟩ = some (.int .i64 op) := dA 5 _ rfl
   have a6 : wr.cell? ⟨g, o + k * 9 + 6, none⟩ = some (.int .i64 it) := dA 6 _ rfl
   have a7 : wr.cell? ⟨g, o + k * 9 + 7, none⟩ = some (.string tx) := dA 7 _ rfl
   have a8 : wr.cell? ⟨g, o + k * 9 + 8, none⟩ = some (.int .i64 zz) := dA 8 _ rfl
   have b0 : wr.cell? ⟨g', o' + k * 9, none⟩ = some (.int .i64 kd2) := dB 0 _ rfl
   have b1 : wr.cell? ⟨g', o' + k * 9 + 1, none⟩ = some (.int .i64 ps2) := dB 1 _ rfl
   have b2 : wr.cell? ⟨g', o' + k * 9 + 2, none⟩ = some (.string nm2) := dB 2 _ rfl
   have b3 : wr.cell? ⟨g', o' + k * 9 + 3, none⟩ = some (.string lb2) := dB 3 _ rfl
   have b4 : wr.cell? ⟨g', o' + k * 9 + 4, none⟩ = some (.string ty2) := dB 4 _ rfl
   have b5 : wr.cell? ⟨g', o' + k * 9 + 5, none⟩ = some (.int .i64 op2) := dB 5 _ rfl
   have b6 : wr.cell? ⟨g', o' + k * 9 + 6, none⟩ = some (.int .i64 it2) := dB 6 _ rfl
   have b7 : wr.cell? ⟨g', o' + k * 9 + 7, none⟩ = some (.string tx2) := dB 7 _ rfl
   have b8 : wr.cell? ⟨g', o' + k * 9 + 8, none⟩ = some (.int .i64 zz2) := dB 8 _ rfl
   clear dA dB
   cases bb with
   | true =>
    rw [Bool.not_true] at hne
    go_wp2
    go_quiet (fail)
    go_wp2
    refine ⟨⟨k + 1, by omega, by go_num, fun i hi => ?_, hB.out.trans ((belowN wr nq).mono hB.out.size)⟩, by simp [intOf]; omega⟩
    by_cases hik : i < k
    ·exact hE.out i hik
    ·obtain rfl : i = k := by omega
     rw [HX.out, HY.out]
     exact HEQ.out.1 (by first | rfl | trivial)
   | false =>
    rw [Bool.not_false] at hne
    go_wp2
    go_quiet (fail)
    go_wp2
    go_ret
    refine ⟨⟨false, rfl, ⟨fun h => (by cases h), fun h => ?_⟩⟩, hB.out.trans ((belowN wr nq).mono hB.out.size)⟩
    have := HEQ.out.2 (by rw [← HX.out, ← HY.out, h])
    cases this
  ·obtain rfl : k = S.length := by omega
   go_wp2
   go_ret
   exact ⟨⟨true, rfl, ⟨fun _ => nd_ext HL.out hE.out, fun _ => rfl⟩⟩, hB.out⟩
theorem sameG_len (w : World) (p p' : Option Addr) (n n' cap cap' : Nat) (h : n ≠ n') :
 Calls Tryz.prog 10 #[.slice p n cap, .slice p' n' cap'] w fun e w' => e = .returned (.bool false) ∧ w = w' := by
 have h1 : ((n : Int) == (n' : Int)) = false := by rw [beq_eq_false_iff_ne]; omega
 go_enter Tryz.func10, Tryz.ntmps10
 go_wp2
 go_ret
 exact ⟨rfl, rfl⟩
theorem sameG_any (w : World) (p p' : Option Addr) (n n' cap cap' : Nat) (S S' : List Nd) (ha : Reads w p n S) (hb : Reads w p' n' S') :
 Calls Tryz.prog 10 #[.slice p n cap, .slice p' n' cap'] w fun e w' => (∃ b, e = .returned (.bool b) ∧ (b = true ↔ S = S')) ∧ Below w.heap.size w w' := by
 obtain ⟨hf, hl, hr⟩ := ha
 obtain ⟨hf', hl', hr'⟩ := hb
 by_cases hn : n = n'
 ·subst hn
  by_cases h0 : S = []
  ·subst h0
   obtain rfl : n = 0 := hl.symm
   obtain rfl : S' = [] := List.length_eq_zero_iff.1 hl'
   refine (sameN_zero w p p' cap cap').mono ?_
   rintro e w' ⟨rfl, h⟩
   exact ⟨⟨true, rfl, by simp⟩, by first | exact h | (subst h; exact Below.refl _ _)⟩
  ·obtain ⟨g, o, rfl, hla⟩ := hr h0
   obtain ⟨g', o', rfl, hlb⟩ := hr' (fun e => h0 (List.length_eq_zero_iff.1 (by rw [hl, ← hl', e]; rfl)))
   have := sameG_some w g o cap g' o' cap' S S' (by omega) hf.len hla hlb
   rw [hl, hl'] at this
   exact this
 ·refine (sameG_len w p p' n n' cap cap' hn).mono ?_
  rintro e w' ⟨rfl, rfl⟩
  exact ⟨⟨false, rfl, ⟨fun h => (by cases h), fun h => absurd (by rw [← hl, ← hl', h]) hn⟩⟩, Below.refl _ _⟩
theorem neqA (kd ps nmI : Int) (nm lb ty : ByteArray) (op it : Int) (tx : ByteArray) (zz kd' : Int) (nm' lb' ty' : ByteArray) (op' it' : Int) (tx' : ByteArray) (zz' : Int) : ∀ w : World,
 (binOp BinOp.neq 42 (.agg #[.int .i64 kd, .int .i64 ps, .string nm, .string lb, .string ty, .int .i64 op, .int .i64 it, .string tx, .int .i64 zz]) (.agg #[.int .i64 kd', .int .i64 ps, .string nm', .string lb', .string ty', .int .i64 op', .int .i64 it', .string tx', .int .i64 zz'])).run Tryz.prog w = .ok (.bool (!alikeB ⟨kd, nmI, nm, lb, ty, op, it, tx, zz⟩ ⟨kd', ps, nm', lb', ty', op', it', tx', zz'⟩)) w := by
 intro w
 unfold alikeB
 cases h1 : (kd == kd') with
 | false => simp [go_sem, h1]
 | true =>
  cases h2 : (nm.toList == nm'.toList) with
  | false => simp [go_sem, h1, h2]
  | true =>
   cases h3 : (lb.toList == lb'.toList) with
   | false => simp [go_sem, h1, h2, h3]
   | true =>
    cases h4 : (ty.toList == ty'.toList) with
    | false => simp [go_sem, h1, h2, h3, h4]
    | true =>
     cases h5 : (op == op') with
     | false => simp [go_sem, h1, h2, h3, h4, h5]
     | true =>
      cases h6 : (it == it') with
      | false => simp [go_sem, h1, h2, h3, h4, h5, h6]
      | true =>
       cases h7 : (tx.toList == tx'.toList) with
       | false => simp [go_sem, h1, h2, h3, h4, h5, h6, h7]
       | true =>
        cases h8 : (zz == zz') with
        | false => simp [go_sem, h1, h2, h3, h4, h5, h6, h7, h8]
        | true => simp [go_sem, h1, h2, h3, h4, h5, h6, h7, h8]
end Go.Proofs.YtekgnogjfggnmaaGreatDoor
