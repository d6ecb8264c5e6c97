import Derived.Test.YtekgnogjfggnmaaDoorTwinW
namespace Go.Proofs.YtekgnogjfggnmaaDoor
open Go.RowKit

set_option maxRecDepth 100000 in
set_option maxHeartbeats 1000000 in
theorem twinC_some (w : World) (a : Addr) (cap : Nat) (L : List Nd) (hL : L.length ≤ 1353245080300) (hs : ∀ j v, (flat L)[j]? = some v → w.cell? (a.add j) = some v ∧ (a.add j).block < w.heap.size) :
    Calls Tryd.prog 8 #[.agg #[.slice (some a) L.length cap]] w fun e w' => (∃ p' cap', e = .returned (.agg #[.slice p' L.length cap']) ∧ L.length ≤ cap' ∧ Twn w w' L p') ∧ Below w.heap.size w w' := by
  obtain ⟨Z, hZ, hmk⟩ := run_make9 L.length hL
  obtain ⟨w2, hw2⟩ : ∃ w2, (w.alloc (.cells #[.slice (some a) L.length cap] 24)).alloc (.cells #[.slice none 0 0] 24) = w2 := ⟨_, rfl⟩
  have z2 : w2.heap.size = w.heap.size + 2 := by rw [← hw2]; simp
  have B2 : Below w.heap.size w w2 := by rw [← hw2]; exact ((Below.refl _ w).alloc (Nat.le_refl _) _).alloc (by simp) _
  have c0 : w2.cell? ⟨w.heap.size, 0, none⟩ = some (.slice (some a) L.length cap) := by rw [← hw2]; exact cell_old _ (cell_new _ _ _ _ _ rfl)
  have c1 : w2.cell? ⟨w.heap.size + 1, 0, none⟩ = some (.slice none 0 0) ∧ w2.frozen? ⟨w.heap.size + 1, 0, none⟩ = false := by rw [← hw2]; have := new_cell (w.alloc (.cells #[.slice (some a) L.length cap] 24)) (.slice none 0 0) 24; rwa [World.size_alloc] at this
  obtain ⟨w3, hw3⟩ : ∃ w3, w2.alloc (.cells Z 36) = w3 := ⟨_, rfl⟩
  have z3 : w3.heap.size = w.heap.size + 3 := by rw [← hw3]; simp [z2]
  have B3 : Below w2.heap.size w2 w3 := by rw [← hw3]; exact (Below.refl _ w2).alloc (Nat.le_refl _) _
  have t3 : w3.there (w.heap.size + 2) 0 ((L.length + 2) * 9) := by rw [← hw3]; exact there_new w2 Z 36 _ _ z2.symm (by omega)
  have d0 := (B3.cell (p := ⟨w.heap.size, 0, none⟩) (by show w.heap.size < _; omega)).trans c0
  have d1 := (B3.cell (p := ⟨w.heap.size + 1, 0, none⟩) (by show w.heap.size + 1 < _; omega)).trans c1.1
  have f1 := (B3.frozen (p := ⟨w.heap.size + 1, 0, none⟩) (by show w.heap.size + 1 < _; omega)).trans c1.2
  have s3 : ∀ j v, (flat L)[j]? = some v → w3.cell? (a.add j) = some v := fun j v hv => by
    obtain ⟨h1, h2⟩ := hs j v hv
    exact (B3.cell (by omega)).trans ((B2.cell h2).trans h1)
  have hfl := flat_len L
  obtain ⟨w4, hw4⟩ : ∃ w4, w3.setCells (w.heap.size + 2) 0 (flat L) = w4 := ⟨_, rfl⟩
  obtain ⟨w5, hw5⟩ : ∃ w5, w4.setCells (w.heap.size + 2) (L.length * 9) (mark ⟨#[35]⟩).toList = w5 := ⟨_, rfl⟩
  obtain ⟨w6, hw6⟩ : ∃ w6, w5.setCells (w.heap.size + 2) ((L.length + 1) * 9) (mark ⟨#[35, 35]⟩).toList = w6 := ⟨_, rfl⟩
  have t4 : w4.there (w.heap.size + 2) 0 ((L.length + 2) * 9) := by rw [← hw4]; exact there_set t3 _ _ _
  have t5 : w5.there (w.heap.size + 2) 0 ((L.length + 2) * 9) := by rw [← hw5]; exact there_set t4 _ _ _
  have t6 : w6.there (w.heap.size + 2) 0 ((L.length + 2) * 9) := by rw [← hw6]; exact there_set t5 _ _ _
  have r4 : w4.rangeAt (w.heap.size + 2) 0 (flat L) := by rw [← hw4]; exact World.rangeAt_setCells_same w3 _ _ _ (there_sub t3 _ _ (by omega))
  have r5 : w5.rangeAt (w.heap.size + 2) 0 (flat L) := by rw [← hw5]; exact World.rangeAt_setCells_apart r4 _ _ _ (.inr (.inl (by omega)))
  have r6 : w6.rangeAt (w.heap.size + 2) 0 (flat L) := by rw [← hw6]; exact World.rangeAt_setCells_apart r5 _ _ _ (.inr (.inl (by omega)))
  have e4 : ∀ p : Addr, p.block ≠ w.heap.size + 2 → w4.cell? p = w3.cell? p := fun p hp => by rw [← hw4]; exact setCells_cell _ hp
  have e5 : ∀ p : Addr, p.block ≠ w.heap.size + 2 → w5.cell? p = w4.cell? p := fun p hp => by rw [← hw5]; exact setCells_cell _ hp
  have e6 : ∀ p : Addr, p.block ≠ w.heap.size + 2 → w6.cell? p = w5.cell? p := fun p hp => by rw [← hw6]; exact setCells_cell _ hp
  have z6 : w6.heap.size = w.heap.size + 3 := by rw [← hw6, setCells_size, ← hw5, setCells_size, ← hw4, setCells_size]; exact z3
  have B6 : Below w.heap.size w w6 := by
    rw [← hw6]; refine below_setCells (by omega) _ _ ?_
    rw [← hw5]; refine below_setCells (by omega) _ _ ?_
    rw [← hw4]; refine below_setCells (by omega) _ _ ?_
    exact B2.trans (B3.mono (by omega))
  have a0 := (e4 ⟨w.heap.size, 0, none⟩ (by show w.heap.size ≠ _; omega)).trans d0
  have b0 := (e5 ⟨w.heap.size, 0, none⟩ (by show w.heap.size ≠ _; omega)).trans a0
  have g0 := (e6 ⟨w.heap.size, 0, none⟩ (by show w.heap.size ≠ _; omega)).trans b0
  have g1 := (e6 ⟨w.heap.size + 1, 0, none⟩ (by show w.heap.size + 1 ≠ _; omega)).trans ((e5 ⟨w.heap.size + 1, 0, none⟩ (by show w.heap.size + 1 ≠ _; omega)).trans ((e4 ⟨w.heap.size + 1, 0, none⟩ (by show w.heap.size + 1 ≠ _; omega)).trans d1))
  have g2 : w6.frozen? ⟨w.heap.size + 1, 0, none⟩ = false := by rw [← hw6, World.frozen?_setCells, ← hw5, World.frozen?_setCells, ← hw4, World.frozen?_setCells]; exact f1
  have T4 : Hid (w4.there (w.heap.size + 2) (L.length * 9) 9) := there_sub t4 _ _ (by omega)
  have T5 : Hid (w5.there (w.heap.size + 2) ((L.length + 1) * 9) 9) := there_sub t5 _ _ (by omega)
  have T3 : Hid (w3.there (w.heap.size + 2) 0 (flat L).length) := there_sub t3 _ _ (by omega)
  have S3 : Hid (∀ j v, (flat L)[j]? = some v → w3.cell? (a.add j) = some v) := s3
  have HW4 : Hid (w3.setCells (w.heap.size + 2) 0 (flat L) = w4) := hw4
  have HW5 : Hid (w4.setCells (w.heap.size + 2) (L.length * 9) (mark ⟨#[35]⟩).toList = w5) := hw5
  have HW6 : Hid (w5.setCells (w.heap.size + 2) ((L.length + 1) * 9) (mark ⟨#[35, 35]⟩).toList = w6) := hw6
  have HFIN : Hid (Twn w (w6.setCell ⟨w.heap.size + 1, 0, none⟩ (.slice (some ⟨w.heap.size + 2, 0, none⟩) L.length (L.length + 2))) L (some ⟨w.heap.size + 2, 0, none⟩)) := fun _ =>
    ⟨w.heap.size + 2, rfl, by omega, (lay_of_range (by omega) r6).set _ (by omega), fun j hj => ⟨by rw [cell_set _ (by show w.heap.size + 2 ≠ _; omega)]; exact (t6 j (by omega)).1, by rw [World.frozen?_setCell]; exact (t6 j (by omega)).2⟩⟩
  have HB6 : Hid (Below w.heap.size w w6) := B6
  have n0 : (0 : Int) ≤ (L.length : Int) := by omega
  have n1 : (L.length : Int) < (L.length : Int) + 2 := by omega
  have he : ∀ w : World, (binOp BinOp.eql 22 (.slice (some a) L.length cap) (.slice none 0 0)).run Tryd.prog w = .ok (.bool false) w := nil_eq (some a) L.length cap
  clear hw4 hw5 hw6 t3 t4 t5 t6 r4 r5 r6 e4 e5 e6 s3 hs B6 B2 B3 hZ
  have hcp : (Builtin.copy_ #[22, 22] 3 #[.slice (some ⟨w.heap.size + 2, 0, none⟩) (L.length + 2) (L.length + 2), .slice (some a) L.length cap]).run Tryd.prog w3 = .ok (.int .i64 (L.length : Int)) w4 := by
    rw [← HW4.out]
    exact run_copy9 w3 3 (w.heap.size + 2) _ _ a L.length cap (flat L) hfl (by omega) S3.out T3.out (flat_one L)
  have HM1 : Hid ((mark ⟨#[35]⟩).all (·.oneCell') = true) := mark_one _
  have HM2 : Hid ((mark ⟨#[35, 35]⟩).all (·.oneCell') = true) := mark_one _
  clear HW4 T3 S3 hfl
  go_enter Tryd.func8, Tryd.ntmps8
  go_wp2_with (first
    | (refine wpList_store_mid (by rfl) 36 (.tmp 22) (.tmp 21) (by rfl) (w.heap.size + 2) (L.length * 9) (mark ⟨#[35]⟩) (by rfl) (by rfl) T4.out size36 HM1.out ?_; rw [HW5.out])
    | (refine wpList_store_mid (by rfl) 36 (.tmp 29) (.tmp 28) (by rfl) (w.heap.size + 2) ((L.length + 1) * 9) (mark ⟨#[35, 35]⟩) (by rfl) (by rfl) T5.out size36 HM2.out ?_; rw [HW6.out])
    | go_in)
  have hq : (w6.setCell ⟨w.heap.size + 1, 0, none⟩ (.slice (some ⟨w.heap.size + 2, 0, none⟩) L.length (L.length + 2))).cell? ⟨w.heap.size + 1, 0, none⟩ = some (.slice (some ⟨w.heap.size + 2, 0, none⟩) L.length (L.length + 2)) := World.cell?_setCell_same' _ _ _ (by rw [g1]; rfl)
  exact bodyPost_ret (v := .agg #[.slice (some ⟨w.heap.size + 2, 0, none⟩) L.length (L.length + 2)]) (by simp [results, Tryd.results8, go_sem, hq]) rfl ⟨⟨_, _, rfl, Nat.le_add_right _ _, HFIN.out⟩, HB6.out.setCell (p := ⟨w.heap.size + 1, 0, none⟩) (by show w.heap.size ≤ w.heap.size + 1; omega) _⟩


/-- A twin, and that its room is no less than its length. -/
theorem twinC_any (w : World) (p : Option Addr) (n cap : Nat) (L : List Nd) (h : Arg w p n cap L) :
    Calls Tryd.prog 8 #[.agg #[.slice p n cap]] w fun e w' => (∃ p' cap', e = .returned (.agg #[.slice p' n cap']) ∧ n ≤ cap' ∧ Hid (Reads w' p' n L)) ∧ Below w.heap.size w w' := by
  obtain ⟨⟨hf, rfl, hr⟩, hn⟩ := h
  cases p with
  | none =>
    obtain ⟨h0, rfl⟩ := hn rfl
    have hL : L = [] := List.length_eq_zero_iff.1 h0
    subst hL
    exact (twin_nil w).mono fun e w' h => ⟨⟨none, 0, h.1, Nat.le_refl _, hf, rfl, fun hne => absurd rfl hne⟩, h.2⟩
  | some a =>
    refine (twinC_some w a cap L hf.len ?_).mono fun e w' h => ?_
    · by_cases hne : L = []
      · subst hne
        intro j v hv
        simp [flat] at hv
      · obtain ⟨g, o, e, hl⟩ := hr hne
        cases e
        exact flat_src hl
    · obtain ⟨⟨p', cap', e1, e2, e3⟩, hb⟩ := h
      exact ⟨⟨p', cap', e1, e2, e3.reads hf⟩, hb⟩

end Go.Proofs.YtekgnogjfggnmaaDoor
