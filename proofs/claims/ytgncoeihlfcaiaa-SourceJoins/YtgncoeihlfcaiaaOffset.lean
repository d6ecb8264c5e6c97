import Derived.Test.YtgncoeihlfcaiaaWhere
namespace Go.Proofs.Ytgncoeihlfcaiaa
open Go.RowKit Go.Shelf
attribute [local go_sem] Oper.semAt_some

set_option maxHeartbeats 400000 in
theorem oil_no (st ln col : Int) (w : World) (h : col < 1 ∨ wrap64 (ln + 1) < col) :
    Calls Try.prog 18 #[.int .i64 st, .int .i64 ln, .int .i64 col] w fun e w' => e = .returned (.tuple #[.int .i64 0, .int .i64 10]) ∧ w' = w := by
  by_cases h1 : col < 1
  · go_enter Try.func18, Try.ntmps18
    go_wp2
    go_ret2
    exact ⟨rfl, rfl⟩
  · have h2 : wrap64 (ln + 1) < col := by omega
    clear h
    go_enter Try.func18, Try.ntmps18
    go_wp2
    go_ret2
    exact ⟨rfl, rfl⟩

set_option maxHeartbeats 400000 in
theorem oil_yes (st ln col : Int) (w : World) (h1 : 1 ≤ col) (h2 : col ≤ wrap64 (ln + 1)) :
    Calls Try.prog 18 #[.int .i64 st, .int .i64 ln, .int .i64 col] w fun e w' => e = .returned (.tuple #[.int .i64 (wrap64 (wrap64 (st + col) - 1)), .int .i64 0]) ∧ w' = w := by
  go_enter Try.func18, Try.ntmps18
  go_wp2
  go_ret2
  exact ⟨rfl, rfl⟩

/-- What offsetInLine answers. -/
def oil (st ln col : Int) : Int × Int := if col < 1 ∨ wrap64 (ln + 1) < col then (0, 10) else (wrap64 (wrap64 (st + col) - 1), 0)

theorem oil_any (st ln col : Int) (w : World) :
    Calls Try.prog 18 #[.int .i64 st, .int .i64 ln, .int .i64 col] w fun e w' => e = .returned (.tuple #[.int .i64 (oil st ln col).1, .int .i64 (oil st ln col).2]) ∧ w' = w := by
  unfold oil
  by_cases h : col < 1 ∨ wrap64 (ln + 1) < col
  · rw [if_pos h]; exact oil_no st ln col w h
  · rw [if_neg h]; exact oil_yes st ln col w (by omega) (by omega)

/-- What Offset answers, off the rows that have yet to come. -/
def offL (line col : Int) : Int → List (Nat × ByteArray) → Int × Int
  | _, [] => (0, 10)
  | st, x :: r => if (x.1 : Int) = line then oil st (x.2.size : Int) col else offL line col (wrap64 (st + wrap64 ((x.2.size : Int) + 1))) r

theorem set_cell {W : World} {B : Nat} {a : Value} (u : Value) (h : W.cell? ⟨B, 0, none⟩ = some a) :
    (W.setCell ⟨B, 0, none⟩ u).cell? ⟨B, 0, none⟩ = some u ∧ (∀ C o, C ≠ B → (W.setCell ⟨B, 0, none⟩ u).cell? ⟨C, o, none⟩ = W.cell? ⟨C, o, none⟩) :=
  ⟨World.cell?_setCell_same' _ _ _ (by rw [h]; rfl), fun C o hC => World.cell?_setCell_other _ _ _ _ (fun e => hC (by cases e; rfl))⟩

theorem set_two {W : World} {A B : Nat} {a b : Value} (u v : Value) (hAB : A ≠ B) (hA : W.cell? ⟨A, 0, none⟩ = some a) (hB : W.cell? ⟨B, 0, none⟩ = some b) :
    ((W.setCell ⟨A, 0, none⟩ u).setCell ⟨B, 0, none⟩ v).cell? ⟨A, 0, none⟩ = some u ∧ ((W.setCell ⟨A, 0, none⟩ u).setCell ⟨B, 0, none⟩ v).cell? ⟨B, 0, none⟩ = some v := by
  have e := (set_cell u hA).2 B 0 (Ne.symm hAB)
  have t := set_cell v (e.trans hB)
  exact ⟨(t.2 A 0 hAB).trans (set_cell u hA).1, t.1⟩

set_option maxRecDepth 100000 in
set_option maxHeartbeats 2000000 in
theorem offset_any (s : ByteArray) (line col : Int) (w : World) (hs : s.size ≤ 140737488355328) :
    Calls Try.prog 12 #[.string s, .agg #[.int .i64 line, .int .i64 col]] w fun e w' => e = .returned (.tuple #[.int .i64 (offL line col 0 (Src.rows 1 (Src.lns s.data.toList))).1, .int .i64 (offL line col 0 (Src.rows 1 (Src.lns s.data.toList))).2]) ∧ Below w.heap.size w w' := by
  generalize hP : offL line col 0 (Src.rows 1 (Src.lns s.data.toList)) = P
  have HP : Hid (offL line col 0 (Src.rows 1 (Src.lns s.data.toList)) = P) := hP
  clear hP
  refine (callsIn_wide (n := 6)).1 ?_
  refine callsIn_of_wp_marks Try.func12 rfl trivial ?_ rfl
  simp only [Try.ntmps12, List.size_toArray, List.length_cons, List.length_nil, Nat.reduceAdd, Nat.reduceSub, Array.replicate_succ, Array.replicate_zero, List.push_toArray, List.append_toArray, List.nil_append, List.cons_append]
  gi_wp2_with (refine ⟨trivial, ?_⟩; gi_at_call 16; refine (callsIn_wide.2 (seq_any _ _)).mono ?_; rintro e w' ⟨rfl, rfl⟩)
  have c0 := new_pair w (.int .i64 line) (.int .i64 col) 23
  have c1 := new_cell (w.alloc (.cells #[.int .i64 line, .int .i64 col] 23)) (.int .i64 0) 3
  have c2 := new_cell ((w.alloc (.cells #[.int .i64 line, .int .i64 col] 23)).alloc (.cells #[.int .i64 0] 3)) (.int .i64 0) 26
  have c3 := new_cell (((w.alloc (.cells #[.int .i64 line, .int .i64 col] 23)).alloc (.cells #[.int .i64 0] 3)).alloc (.cells #[.int .i64 0] 26)) (.int .i64 0) 3
  have c4 := new_cell ((((w.alloc (.cells #[.int .i64 line, .int .i64 col] 23)).alloc (.cells #[.int .i64 0] 3)).alloc (.cells #[.int .i64 0] 26)).alloc (.cells #[.int .i64 0] 3)) (.string s) 9
  simp only [World.size_alloc] at c1 c2 c3 c4
  have hB0 : Below w.heap.size w (((((w.alloc (.cells #[.int .i64 line, .int .i64 col] 23)).alloc (.cells #[.int .i64 0] 3)).alloc (.cells #[.int .i64 0] 26)).alloc (.cells #[.int .i64 0] 3)).alloc (.cells #[.string s] 9)) :=
    (((((Below.refl _ w).alloc (Nat.le_refl _) _).alloc (by simp) _).alloc (by simp; omega) _).alloc (by simp; omega) _).alloc (by simp; omega) _
  refine wpIn_rangeFunc_ownF rfl (by omega) (gf := 19) (lb := #[.pointer (some ⟨w.heap.size + 1 + 1 + 1 + 1, 0, none⟩)]) rfl trivial (enters_of Try.func19 (by kernel_rfl) rfl)
    (it_stops 5 (by omega) (w.heap.size + 1 + 1 + 1 + 1) s _ hs (by simp) c4.1) (fun _ _ => trivial) (fun _ _ _ _ _ _ _ _ => trivial) (Below.refl _ _) (fun _ => rfl)
    (fun pre W => (∃ st : Int, Hid (∀ r, offL line col 0 (pre ++ r) = offL line col st r) ∧ (W.cell? ⟨w.heap.size + 1 + 1 + 1, 0, none⟩ = some (.int .i64 st) ∧ W.frozen? ⟨w.heap.size + 1 + 1 + 1, 0, none⟩ = false) ∧
      (W.cell? ⟨w.heap.size, 0, none⟩ = some (.int .i64 line)) ∧ (W.cell? ⟨w.heap.size, 1, none⟩ = some (.int .i64 col)) ∧
      (W.cell? ⟨w.heap.size + 1, 0, none⟩ = some (.int .i64 0) ∧ W.frozen? ⟨w.heap.size + 1, 0, none⟩ = false) ∧ (W.cell? ⟨w.heap.size + 1 + 1, 0, none⟩ = some (.int .i64 0) ∧ W.frozen? ⟨w.heap.size + 1 + 1, 0, none⟩ = false)) ∧ Below w.heap.size w W)
    (fun c pre W => (∃ R : Int × Int, c = .ret ∧ Hid (∀ r, offL line col 0 (pre ++ r) = R) ∧ W.cell? ⟨w.heap.size + 1, 0, none⟩ = some (.int .i64 R.1) ∧ W.cell? ⟨w.heap.size + 1 + 1, 0, none⟩ = some (.int .i64 R.2)) ∧ Below w.heap.size w W)
    (OwnFrom.and (Own.from (fun s A B row hs hg hr => by
      obtain ⟨st, h, h3, h0, h1, h2, h4⟩ := hs
      exact ⟨st, h, ⟨cell_kept h3.1 hg hr, (frozen_kept h3.1 hg hr).trans h3.2⟩, cell_kept h0 hg hr, cell_kept h1 hg hr, ⟨cell_kept h2.1 hg hr, (frozen_kept h2.1 hg hr).trans h2.2⟩, ⟨cell_kept h4.1 hg hr, (frozen_kept h4.1 hg hr).trans h4.2⟩⟩) _) (ownFrom_below (Nat.le_refl _) (by simp; omega)))
    (fun c => OwnFrom.and (Own.from (fun s A B row hs hg hr => by
      obtain ⟨R, hc, h, h1, h2⟩ := hs
      exact ⟨R, hc, h, cell_kept h1 hg hr, cell_kept h2 hg hr⟩) _) (ownFrom_below (Nat.le_refl _) (by simp; omega)))
    ⟨⟨0, fun _ => rfl, ⟨cell_alloc_l _ c3.1, frozen_alloc_l _ c3.1 c3.2⟩, cell_alloc_l _ (cell_alloc_l _ (cell_alloc_l _ (cell_alloc_l _ c0.1.1))), cell_alloc_l _ (cell_alloc_l _ (cell_alloc_l _ (cell_alloc_l _ c0.2.1))),
      ⟨cell_alloc_l _ (cell_alloc_l _ (cell_alloc_l _ c1.1)), frozen_alloc_l _ (cell_alloc_l _ (cell_alloc_l _ c1.1)) (frozen_alloc_l _ (cell_alloc_l _ c1.1) (frozen_alloc_l _ c1.1 c1.2))⟩, ⟨cell_alloc_l _ (cell_alloc_l _ c2.1), frozen_alloc_l _ (cell_alloc_l _ c2.1) (frozen_alloc_l _ c2.1 c2.2)⟩⟩, hB0⟩
    (fun x => { tmps := #[.string s, .agg #[.int .i64 line, .int .i64 col], undef, .pointer (some ⟨w.heap.size, 0, none⟩), .pointer (some ⟨w.heap.size + 1, 0, none⟩), .pointer (some ⟨w.heap.size + 1 + 1, 0, none⟩), .pointer (some ⟨w.heap.size + 1 + 1 + 1, 0, none⟩), .int .i64 (x.1 : Int), .string x.2, .string s, .func (.func 19) #[] #[.pointer (some ⟨w.heap.size + 1 + 1 + 1 + 1, 0, none⟩)], .int .i64 (x.1 : Int), .string x.2, undef, undef, undef, undef, undef, undef, undef, undef, undef, undef, undef, undef, undef, undef, undef, undef, undef], defers := [] }) ?assign ?body ?done ?stop
  case assign =>
    intro l x W K hK
    gi_wp2
    simpa [encs] using hK
  case body =>
    rintro l pre x W ⟨⟨st, hh, ⟨s0, fs0⟩, p0, p1, ⟨r0, g0⟩, r1, g1⟩, hB⟩ hlen
    clear c0 c1 c2 c3 c4 hB0
    by_cases hx : (x.1 : Int) = line
    · have bx : ((x.1 : Int) == line) = true := beq_iff_eq.2 hx
      have HX : Hid ((x.1 : Int) = line) := hx
      clear hx
      gi_wp2_with (refine ⟨trivial, ?_⟩; gi_at_call 18; refine (CallsIn.inRound l (callsIn_wide.2 (oil_any _ _ _ _))).mono ?_; rintro e w' ⟨rfl, rfl⟩)
      have t := set_two (.int .i64 (oil st (x.2.size : Int) col).1) (.int .i64 (oil st (x.2.size : Int) col).2) (by omega) r0 r1
      refine ⟨(KeepsOthers.setCell _ _ _).trans (KeepsOthers.setCell _ _ _), ⟨oil st (x.2.size : Int) col, rfl, fun r => ?_, t.1, t.2⟩, (hB.setCell (p := ⟨w.heap.size + 1, 0, none⟩) (by simp) _).setCell (p := ⟨w.heap.size + 1 + 1, 0, none⟩) (by simp; omega) _⟩
      rw [List.append_assoc, hh.out]
      exact if_pos HX.out
    · have bx : ((x.1 : Int) == line) = false := beq_eq_false_iff_ne.2 hx
      have HX : Hid ((x.1 : Int) ≠ line) := hx
      clear hx
      gi_wp2
      have t := set_cell (.int .i64 (wrap64 (st + wrap64 ((x.2.size : Int) + 1)))) s0
      refine ⟨KeepsOthers.setCell _ _ _, trivial, ⟨wrap64 (st + wrap64 ((x.2.size : Int) + 1)), fun r => ?_, ?_⟩, hB.setCell (p := ⟨w.heap.size + 1 + 1 + 1, 0, none⟩) (by simp; omega) _⟩
      · rw [List.append_assoc, hh.out]
        exact if_neg HX.out
      · rw [t.1, t.2 _ _ (by omega), t.2 _ _ (by omega), t.2 _ _ (by omega), t.2 _ _ (by omega)]
        simp only [World.frozen?_setCell]
        exact ⟨⟨trivial, fs0⟩, p0, p1, ⟨r0, g0⟩, r1, g1⟩
  case done =>
    rintro D ys W hD rfl ⟨⟨st, hh, ⟨s0, fs0⟩, p0, p1, ⟨r0, g0⟩, r1, g1⟩, hB⟩ hK
    clear c0 c1 c2 c3 c4 hB0
    gi_wp2
    have e : P = (0, 10) := by
      have h := hh.out []
      rw [List.append_nil, HP.out] at h
      exact h
    have t := set_two (.int .i64 0) (.int .i64 10) (show w.heap.size + 1 ≠ w.heap.size + 1 + 1 from by omega) r0 r1
    have hK' := ((KeepsOthers.setCell W ⟨w.heap.size + 1, 0, none⟩ (.int .i64 0)).trans (KeepsOthers.setCell _ ⟨w.heap.size + 1 + 1, 0, none⟩ (.int .i64 10))).same D _ hK rfl
    refine ⟨by simp, .inl ⟨_, _, rfl, run_takeDeferred hK', ?_⟩⟩
    have e0 := cell_kept t.1 (grownBy_putObj' _ D (.deferred none)) (fun r e => by cases e; exact ⟨_, hK', rfl⟩)
    have e1 := cell_kept t.2 (grownBy_putObj' _ D (.deferred none)) (fun r e => by cases e; exact ⟨_, hK', rfl⟩)
    refine ⟨.tuple #[.int .i64 0, .int .i64 10], ?_, by rw [e], ((hB.setCell (p := ⟨w.heap.size + 1, 0, none⟩) (by simp) _).setCell (p := ⟨w.heap.size + 1 + 1, 0, none⟩) (by simp; omega) _).trans (belowK_b (w := w) (Nat.le_refl _) _ D _ _ (by simp at hD; omega) hK' rfl rfl)⟩
    simp [results, Try.results12, go_sem, e0, e1]
  case stop =>
    rintro D c pre W hD ⟨r, hpre⟩ ⟨⟨R, rfl, hR, r0, r1⟩, hB⟩ hK
    clear c0 c1 c2 c3 c4 hB0
    gi_wp2
    have e : P = R := by
      have h := hR.out r
      rw [hpre, HP.out] at h
      exact h
    refine ⟨by simp, .inl ⟨_, _, rfl, run_takeDeferred hK, ?_⟩⟩
    have e0 := cell_kept r0 (grownBy_putObj' _ D (.deferred none)) (fun r e => by cases e; exact ⟨_, hK, rfl⟩)
    have e1 := cell_kept r1 (grownBy_putObj' _ D (.deferred none)) (fun r e => by cases e; exact ⟨_, hK, rfl⟩)
    refine ⟨.tuple #[.int .i64 R.1, .int .i64 R.2], ?_, by rw [e], hB.trans (belowK_b (w := w) (Nat.le_refl _) _ D _ _ (by simp at hD; omega) hK rfl rfl)⟩
    simp [results, Try.results12, go_sem, e0, e1]

end Go.Proofs.Ytgncoeihlfcaiaa
