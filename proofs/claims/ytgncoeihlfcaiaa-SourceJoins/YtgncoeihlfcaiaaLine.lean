import Derived.Test.YtgncoeihlfcaiaaIterB
import Derived.Test.YtgncoeihlfcaiaaShelf
import Derived.Test.YtgncoeihlfcaiaaOffset
namespace Go.Proofs.Ytgncoeihlfcaiaa
open Go.RowKit Go.Shelf
attribute [local go_sem] Oper.semAt_some

set_option maxHeartbeats 400000 in
theorem clone_any (s : ByteArray) (w : World) (hs : s.size ≤ 140737488355328) :
    Calls Try.prog 17 #[.string s] w fun e w' => e = .returned (.string s) ∧ Below w.heap.size w w' := by
  go_enter Try.func17, Try.ntmps17
  go_wp2_with (go_at_call 21; refine (Try.stringslite_Clone _ _ (by omega)).mono ?_; rintro e w1 ⟨rfl, hb⟩)
  go_ret
  exact ⟨rfl, hb⟩

theorem keeps_of_below {W W' : World} (h : Below W.heap.size W W') : KeepsOthers W W' :=
  ⟨h.size, fun k _ hk _ => (h.block k (Array.getElem?_eq_some_iff.1 hk).1).trans hk⟩

/-- What Line answers, off the rows that have yet to come. -/
def lineL (n : Int) : List (Nat × ByteArray) → ByteArray × Int
  | [] => (⟨#[]⟩, 10)
  | x :: r => if (x.1 : Int) = n then (x.2, 0) else lineL n r

set_option maxRecDepth 100000 in
set_option maxHeartbeats 2000000 in
theorem line_any (s : ByteArray) (n : Int) (w : World) (hs : s.size ≤ 140737488355328) :
    Calls Try.prog 8 #[.string s, .int .i64 n] w fun e w' => e = .returned (.tuple #[.string (lineL n (Src.rows 1 (Src.lns s.data.toList))).1, .int .i64 (lineL n (Src.rows 1 (Src.lns s.data.toList))).2]) ∧ Below w.heap.size w w' := by
  generalize hP : lineL n (Src.rows 1 (Src.lns s.data.toList)) = P
  have HP : Hid (lineL n (Src.rows 1 (Src.lns s.data.toList)) = P) := hP
  clear hP
  refine (callsIn_wide (n := 6)).1 ?_
  refine callsIn_of_wp_marks Try.func8 rfl trivial ?_ rfl
  simp only [Try.ntmps8, List.size_toArray, List.length_cons, List.length_nil, Nat.reduceAdd, Nat.reduceSub, Array.replicate_succ, Array.replicate_zero, List.push_toArray, List.append_toArray, List.nil_append, List.cons_append]
  gi_wp2_with (refine ⟨trivial, ?_⟩; gi_at_call 16; refine (callsIn_wide.2 (seq_any _ _)).mono ?_; rintro e w' ⟨rfl, rfl⟩)
  have c0 := new_cell w (.int .i64 n) 3
  have c1 := new_cell (w.alloc (.cells #[.int .i64 n] 3)) (.string ⟨#[]⟩) 9
  have c2 := new_cell ((w.alloc (.cells #[.int .i64 n] 3)).alloc (.cells #[.string ⟨#[]⟩] 9)) (.int .i64 0) 26
  have c3 := new_cell (((w.alloc (.cells #[.int .i64 n] 3)).alloc (.cells #[.string ⟨#[]⟩] 9)).alloc (.cells #[.int .i64 0] 26)) (.string s) 9
  simp only [World.size_alloc] at c1 c2 c3
  have hB0 : Below w.heap.size w ((((w.alloc (.cells #[.int .i64 n] 3)).alloc (.cells #[.string ⟨#[]⟩] 9)).alloc (.cells #[.int .i64 0] 26)).alloc (.cells #[.string s] 9)) :=
    ((((Below.refl _ w).alloc (Nat.le_refl _) _).alloc (by simp) _).alloc (by simp; omega) _).alloc (by simp; omega) _
  refine wpIn_rangeFunc_ownF rfl (by omega) (gf := 19) (lb := #[.pointer (some ⟨w.heap.size + 1 + 1 + 1, 0, none⟩)]) rfl trivial (enters_of Try.func19 (by kernel_rfl) rfl)
    (it_stops_b 5 (by omega) (w.heap.size + 1 + 1 + 1) s _ hs (by simp) c3.1) (fun _ _ => trivial) (fun _ _ _ _ _ _ _ _ => trivial) (Below.refl _ _) (fun _ => rfl)
    (fun pre W => (Hid (∀ r, lineL n (pre.map Subtype.val ++ r) = lineL n r) ∧
      (W.cell? ⟨w.heap.size, 0, none⟩ = some (.int .i64 n)) ∧
      (W.cell? ⟨w.heap.size + 1, 0, none⟩ = some (.string ⟨#[]⟩) ∧ W.frozen? ⟨w.heap.size + 1, 0, none⟩ = false) ∧ (W.cell? ⟨w.heap.size + 1 + 1, 0, none⟩ = some (.int .i64 0) ∧ W.frozen? ⟨w.heap.size + 1 + 1, 0, none⟩ = false)) ∧ Below w.heap.size w W ∧ w.heap.size + 1 + 1 < W.heap.size)
    (fun c pre W => (∃ R : ByteArray × Int, c = .ret ∧ Hid (∀ r, lineL n (pre.map Subtype.val ++ r) = R) ∧ W.cell? ⟨w.heap.size + 1, 0, none⟩ = some (.string R.1) ∧ W.cell? ⟨w.heap.size + 1 + 1, 0, none⟩ = some (.int .i64 R.2)) ∧ Below w.heap.size w W)
    (OwnFrom.and (Own.from (fun s A B row hs hg hr => by
      obtain ⟨h, h0, h2, h4⟩ := hs
      exact ⟨h, cell_kept h0 hg hr, ⟨cell_kept h2.1 hg hr, (frozen_kept h2.1 hg hr).trans h2.2⟩, ⟨cell_kept h4.1 hg hr, (frozen_kept h4.1 hg hr).trans h4.2⟩⟩) _) (OwnFrom.and (ownFrom_below (Nat.le_refl _) (by simp; omega)) (fun _ _ _ _ hs hg _ => Nat.lt_of_lt_of_le hs hg.size)))
    (fun c => OwnFrom.and (Own.from (fun s A B row hs hg hr => by
      obtain ⟨R, hc, h, h1, h2⟩ := hs
      exact ⟨R, hc, h, cell_kept h1 hg hr, cell_kept h2 hg hr⟩) _) (ownFrom_below (Nat.le_refl _) (by simp; omega)))
    ⟨⟨fun _ => rfl, cell_alloc_l _ (cell_alloc_l _ (cell_alloc_l _ c0.1)),
      ⟨cell_alloc_l _ (cell_alloc_l _ c1.1), frozen_alloc_l _ (cell_alloc_l _ c1.1) (frozen_alloc_l _ c1.1 c1.2)⟩, ⟨cell_alloc_l _ c2.1, frozen_alloc_l _ c2.1 c2.2⟩⟩, hB0, by simp⟩
    (fun x => { tmps := #[.string s, .int .i64 n, undef, .pointer (some ⟨w.heap.size, 0, none⟩), .pointer (some ⟨w.heap.size + 1, 0, none⟩), .pointer (some ⟨w.heap.size + 1 + 1, 0, none⟩), .int .i64 (x.1.1 : Int), .string x.1.2, .string s, .func (.func 19) #[] #[.pointer (some ⟨w.heap.size + 1 + 1 + 1, 0, none⟩)], .int .i64 (x.1.1 : Int), .string x.1.2, undef, undef, undef, undef, undef], defers := [] }) ?assign ?body ?done ?stop
  case assign =>
    intro l x W K hK
    gi_wp2
    simpa [encb] using hK
  case body =>
    rintro l pre x W ⟨⟨hh, p0, ⟨r0, g0⟩, r1, g1⟩, hB, hZ⟩ hlen
    clear c0 c1 c2 c3 hB0
    by_cases hx : (x.1.1 : Int) = n
    · have bx : ((x.1.1 : Int) == n) = true := beq_iff_eq.2 hx
      have HX : Hid ((x.1.1 : Int) = n) := hx
      have hx2 := x.2
      clear hx
      gi_wp2_with (refine ⟨trivial, ?_⟩; gi_at_call 17; refine (CallsIn.inRound l (callsIn_wide.2 (clone_any _ _ hx2))).mono ?_; rintro e w1 ⟨rfl, hb⟩; obtain ⟨z0, zf0⟩ : w1.cell? ⟨w.heap.size + 1, 0, none⟩ = some (.string ⟨#[]⟩) ∧ w1.frozen? ⟨w.heap.size + 1, 0, none⟩ = false := ⟨(hb.cell (p := ⟨w.heap.size + 1, 0, none⟩) (by show w.heap.size + 1 < W.heap.size; omega)).trans r0, (hb.frozen (p := ⟨w.heap.size + 1, 0, none⟩) (by show w.heap.size + 1 < W.heap.size; omega)).trans g0⟩; obtain ⟨z1, zf1⟩ : w1.cell? ⟨w.heap.size + 1 + 1, 0, none⟩ = some (.int .i64 0) ∧ w1.frozen? ⟨w.heap.size + 1 + 1, 0, none⟩ = false := ⟨(hb.cell (p := ⟨w.heap.size + 1 + 1, 0, none⟩) hZ).trans r1, (hb.frozen (p := ⟨w.heap.size + 1 + 1, 0, none⟩) hZ).trans g1⟩)
      have t := set_two (.string x.1.2) (.int .i64 0) (by omega) z0 z1
      have B1 : Below w.heap.size w w1 := hB.trans (hb.mono hB.size)
      refine ⟨((keeps_of_below hb).trans (KeepsOthers.setCell _ _ _)).trans (KeepsOthers.setCell _ _ _), ⟨(x.1.2, 0), rfl, fun r => ?_, t.1, t.2⟩, (B1.setCell (p := ⟨w.heap.size + 1, 0, none⟩) (by simp) _).setCell (p := ⟨w.heap.size + 1 + 1, 0, none⟩) (by simp; omega) _⟩
      rw [List.map_append, List.append_assoc, hh.out]
      exact if_pos HX.out
    · have bx : ((x.1.1 : Int) == n) = false := beq_eq_false_iff_ne.2 hx
      have HX : Hid ((x.1.1 : Int) ≠ n) := hx
      clear hx
      gi_wp2
      refine ⟨KeepsOthers.refl _, trivial, ⟨fun r => ?_, p0, ⟨r0, g0⟩, r1, g1⟩, hB, hZ⟩
      rw [List.map_append, List.append_assoc, hh.out]
      exact if_neg HX.out
  case done =>
    rintro D ys W hD hys ⟨⟨hh, p0, ⟨r0, g0⟩, r1, g1⟩, hB, hZ⟩ hK
    clear c0 c1 c2 c3 hB0
    gi_wp2
    have e : P = (⟨#[]⟩, 10) := by
      have h := hh.out []
      rw [List.append_nil, hys, HP.out] at h
      exact h
    have t := set_two (.string ⟨#[]⟩) (.int .i64 10) (show w.heap.size + 1 ≠ w.heap.size + 1 + 1 from by omega) r0 r1
    have hK' := ((KeepsOthers.setCell W ⟨w.heap.size + 1, 0, none⟩ (.string ⟨#[]⟩)).trans (KeepsOthers.setCell _ ⟨w.heap.size + 1 + 1, 0, none⟩ (.int .i64 10))).same D _ hK rfl
    refine ⟨by simp, .inl ⟨_, _, rfl, run_takeDeferred hK', ?_⟩⟩
    have e0 := cell_kept t.1 (grownBy_putObj' _ D (.deferred none)) (fun r e => by cases e; exact ⟨_, hK', rfl⟩)
    have e1 := cell_kept t.2 (grownBy_putObj' _ D (.deferred none)) (fun r e => by cases e; exact ⟨_, hK', rfl⟩)
    refine ⟨.tuple #[.string ⟨#[]⟩, .int .i64 10], ?_, by rw [e], ((hB.setCell (p := ⟨w.heap.size + 1, 0, none⟩) (by simp) _).setCell (p := ⟨w.heap.size + 1 + 1, 0, none⟩) (by simp; omega) _).trans (belowK_b (w := w) (Nat.le_refl _) _ D _ _ (by simp at hD; omega) hK' rfl rfl)⟩
    simp [results, Try.results8, go_sem, e0, e1]
  case stop =>
    rintro D c pre W hD ⟨r, hpre⟩ ⟨⟨R, rfl, hR, r0, r1⟩, hB⟩ hK
    clear c0 c1 c2 c3 hB0
    gi_wp2
    have e : P = R := by
      have h := hR.out r
      rw [hpre, HP.out] at h
      exact h
    refine ⟨by simp, .inl ⟨_, _, rfl, run_takeDeferred hK, ?_⟩⟩
    have e0 := cell_kept r0 (grownBy_putObj' _ D (.deferred none)) (fun r e => by cases e; exact ⟨_, hK, rfl⟩)
    have e1 := cell_kept r1 (grownBy_putObj' _ D (.deferred none)) (fun r e => by cases e; exact ⟨_, hK, rfl⟩)
    refine ⟨.tuple #[.string R.1, .int .i64 R.2], ?_, by rw [e], hB.trans (belowK_b (w := w) (Nat.le_refl _) _ D _ _ (by simp at hD; omega) hK rfl rfl)⟩
    simp [results, Try.results8, go_sem, e0, e1]

end Go.Proofs.Ytgncoeihlfcaiaa
