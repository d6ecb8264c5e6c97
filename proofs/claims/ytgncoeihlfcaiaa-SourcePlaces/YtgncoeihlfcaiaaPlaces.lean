import Derived.Lib.QuietBelow
import Derived.BigQuiet
import Derived.Test.YtgncoeihlfcaiaaRound
namespace Go.Proofs.Ytgncoeihlfcaiaa
open Go.RowKit Go.Shelf

theorem rlines_at (s : ByteArray) (L : Int) (w : World) (hs : s.size ≤ 140737488355328) (hp : Hid (((Src.pl s.data.toList).1 : Int) = L)) :
    Calls Try.prog 14 #[.string s] w fun e w' => e = .returned (.int .i64 L) ∧ w' = w := by
  have h := rlines_any s w hs
  rw [hp.out] at h
  exact h

set_option maxRecDepth 100000 in
set_option maxHeartbeats 2000000 in
theorem places_core (s : ByteArray) (at_ line col n ar P0 P1 E a f : Int) (w : World) (hs : s.size ≤ 140737488355328)
    (c10 : ∀ W : World, Calls Try.prog 10 #[.string s, .int .i64 at_] W fun e w' => e = .returned (.tuple #[.agg #[.int .i64 P0, .int .i64 P1], .int .i64 E]) ∧ Below W.heap.size W w')
    (c13 : ∀ W : World, Calls Try.prog 13 #[.string s, .int .i64 at_] W fun e w' => e = .returned (.tuple #[.agg #[.int .i64 P0, .int .i64 P1], .int .i64 E]) ∧ Below W.heap.size W w')
    (ho : Hid (OffIs s.data.toList line col a f)) :
    Calls Try.prog 7 #[.agg #[.string s, .int .i64 at_, .int .i64 line, .int .i64 col, .int .i64 n, .int .i64 ar]] w fun e w' => e = .returned (.bool true) ∧ Below w.heap.size w w' := by
  have C10 : Hid (∀ W : World, Calls Try.prog 10 #[.string s, .int .i64 at_] W fun e w' => e = .returned (.tuple #[.agg #[.int .i64 P0, .int .i64 P1], .int .i64 E]) ∧ Below W.heap.size W w') := c10
  have C13 : Hid (∀ W : World, Calls Try.prog 13 #[.string s, .int .i64 at_] W fun e w' => e = .returned (.tuple #[.agg #[.int .i64 P0, .int .i64 P1], .int .i64 E]) ∧ Below W.heap.size W w') := c13
  clear c10 c13
  obtain ⟨L, HL⟩ : ∃ L : Int, Hid (((Src.pl s.data.toList).1 : Int) = L) := ⟨_, rfl⟩
  have n0 := Spot.new w s at_ line col n ar 25
  go_enter Try.func7, Try.ntmps7
  go_wp2_with fail
  refine (C10.out _).mono ?_
  rintro e w1 ⟨rfl, hb⟩
  have m1 := n0.below hb (by simp)
  have B1 : Below w.heap.size w w1 := ((Below.refl _ w).alloc (Nat.le_refl _) _).trans (hb.mono (by simp))
  have hz : w.heap.size < w1.heap.size := by have := hb.size; simp at this; omega
  obtain ⟨q0, q1, q2, q3, q4, q5⟩ := id m1
  clear n0 hb
  go_wp2_with fail
  refine (C13.out _).mono ?_
  rintro e w2 ⟨rfl, hb2⟩
  have m2 := (m1.alloc (.cells #[.int .i64 P0, .int .i64 P1] 23)).below hb2 (by simp; omega)
  have p2 := (Pair.new w1 (.int .i64 P0) (.int .i64 P1) 23).below hb2 (by simp)
  have B2 : Below w.heap.size w w2 := (B1.alloc B1.size (.cells #[.int .i64 P0, .int .i64 P1] 23)).trans (hb2.mono (by simp; omega))
  have hz1 : w1.heap.size < w2.heap.size := by have := hb2.size; simp at this; omega
  have hz2 : w.heap.size < w2.heap.size := by omega
  clear q0 q1 q2 q3 q4 q5 hb2 m1
  go_wp2_with fail
  have m3 := m2.alloc (.cells #[.int .i64 P0, .int .i64 P1] 23)
  have p3 := p2.alloc (.cells #[.int .i64 P0, .int .i64 P1] 23)
  have p4 := Pair.new w2 (.int .i64 P0) (.int .i64 P1) 23
  have B3 := B2.alloc B2.size (.cells #[.int .i64 P0, .int .i64 P1] 23)
  have hz3 : w.heap.size < (w2.alloc (.cells #[.int .i64 P0, .int .i64 P1] 23)).heap.size := by simp; omega
  generalize hX : w2.alloc (.cells #[.int .i64 P0, .int .i64 P1] 23) = X at m3 p3 p4 B3 hz3 ⊢
  clear hX m2 p2 B2 B1
  generalize w2.heap.size = b2 at *
  generalize w1.heap.size = b1 at *
  have k0 := cell_regrown m3.1
  have k1 := cell_regrown p3.1.1
  have k2 := cell_regrown p3.2.1
  have k3 := cell_regrown p4.1.1
  have k4 := cell_regrown p4.2.1
  have c11 : ∀ d os, Calls Try.prog 11 #[.string s] (Sort.grow (redrawn X d) os) fun e w'' => e = .returned (.int .i64 L) ∧ ∃ p : Regrown, w'' = Sort.grow (redrawn X p.d) p.os := fun d os => Calls.regrown_of (lines_at s L _ hs HL)
  have c14 : ∀ d os, Calls Try.prog 14 #[.string s] (Sort.grow (redrawn X d) os) fun e w'' => e = .returned (.int .i64 L) ∧ ∃ p : Regrown, w'' = Sort.grow (redrawn X p.d) p.os := fun d os => (rlines_at s L _ hs HL).mono fun _ _ h => ⟨h.1, ⟨d, os⟩, h.2⟩
  refine wp_region_quiet_below (by kernel_rfl) (by kernel_rfl) ?_
  repeat (first | go_big_quiet_step (first | exact c11 _ _ | exact c14 _ _) | quiet_step (first | exact c11 _ _ | exact c14 _ _))
  refine wpQuiet_nil ?_
  intro _ hw'
  obtain ⟨⟨dq, osq⟩, hw''⟩ := hw'
  subst hw''
  have hY := below_regrown X dq osq
  change Exit.then _ _ Exit.normal _ (Sort.grow (redrawn X dq) osq)
  generalize Sort.grow (redrawn X dq) osq = Y at hY ⊢
  have m5 := m3.below hY hz3
  have B5 : Below w.heap.size w Y := B3.trans (hY.mono B3.size)
  have hz5 : w.heap.size < Y.heap.size := Nat.lt_of_lt_of_le hz3 hY.size
  clear m3 p3 p4 B3 hY hz3
  obtain ⟨q0, q1, q2, q3, q4, q5⟩ := id m5
  go_wp2_with fail
  refine (offset_is s line col a f _ hs ho).mono ?_
  rintro e w3 ⟨rfl, hb3⟩
  have m6 := m5.below hb3 hz5
  have B6 : Below w.heap.size w w3 := B5.trans (hb3.mono B5.size)
  have hz6 : w.heap.size < w3.heap.size := Nat.lt_of_lt_of_le hz5 hb3.size
  clear q0 q1 q2 q3 q4 q5 hb3 m5 hz5
  obtain ⟨q0, q1, q2, q3, q4, q5⟩ := id m6
  go_wp2_with fail
  refine (roffset_any s line col _ hs).mono ?_
  rintro e w4 ⟨a', f', rfl, ho', hb4⟩
  obtain ⟨e1, e2⟩ := ho'.unique ho.out
  subst e1 e2
  have B7 : Below w.heap.size w w4 := B6.trans (hb4.mono B6.size)
  clear q0 q1 q2 q3 q4 q5 hb4 m6 hz6 ho ho'
  go_wp2
  go_ret
  exact ⟨rfl, B7⟩

/-- SourcePlaces, at every input. -/
theorem places_walk (s : ByteArray) (at_ line col n ar : Int) (w : World) (hs : s.size ≤ 140737488355328) :
    Calls Try.prog 7 #[.agg #[.string s, .int .i64 at_, .int .i64 line, .int .i64 col, .int .i64 n, .int .i64 ar]] w fun e w' => e = .returned (.bool true) ∧ Below w.heap.size w w' := by
  have ho := offL_is s.data.toList line col (by rw [← Lib.size_eq]; exact hs)
  by_cases h : at_ < 0 ∨ (s.size : Int) < at_
  · exact places_core s at_ line col n ar 0 0 10 _ _ w hs (fun W => where_no s at_ W hs h) (fun W => rwhere_no s at_ W hs h) ho
  · obtain ⟨k, rfl⟩ := Int.eq_ofNat_of_zero_le (show 0 ≤ at_ from by omega)
    have hk : k ≤ s.size := by omega
    exact places_core s k line col n ar _ _ 0 _ _ w hs (fun W => where_at s k _ _ W hs hk ⟨rfl, rfl⟩) (fun W => rwhere_at s k _ _ W hs hk ⟨rfl, rfl⟩) ho

end Go.Proofs.Ytgncoeihlfcaiaa
