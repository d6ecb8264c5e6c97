import Derived.Test.YtfghajokmmlijaaDoorBin
namespace Go.Proofs.YtfghajokmmlijaaDoor
open Go.RowKit

/-- A value and the answer's place. -/
structure Inv2 (w W : World) (k n : Int) (s : ByteArray) : Prop where
  a : Box3 W w.heap.size k n s
  r : Box3 W (w.heap.size + 1) 0 0 e0
  below : Below w.heap.size w W
  size : w.heap.size + 1 < W.heap.size
theorem Inv2.next {w W W' : World} {k n : Int} {s : ByteArray} (h : Inv2 w W k n s) (hb : Below W.heap.size W W') : Inv2 w W' k n s :=
  ⟨h.a.below hb (by have := h.size; omega), h.r.below hb h.size, h.below.trans (hb.mono h.below.size), Nat.lt_of_lt_of_le h.size hb.size⟩
theorem Inv2.new (w : World) (k n : Int) (s : ByteArray) :
    Inv2 w ((w.alloc (.cells #[.int .i64 k, .int .i64 n, .string s] 25)).alloc (.cells #[.int .i64 0, .int .i64 0, .string e0] 25)) k n s := by
  have b0 := (Box3.new w k n s 25)
  have b2 := (Box3.new (w.alloc (.cells #[.int .i64 k, .int .i64 n, .string s] 25)) 0 0 e0 25)
  simp only [World.size_alloc] at b2
  exact ⟨b0.alloc _, b2, ((Below.refl _ w).alloc (Nat.le_refl _) _).alloc (by simp) _, by simp⟩

set_option maxRecDepth 100000 in
set_option maxHeartbeats 1000000 in
theorem unary_any (op k n : Int) (s : ByteArray) (w : World) (hs : s.size ≤ 9223372036854775807) :
    Calls Tryd.prog 11 #[.int .i64 op, .agg #[.int .i64 k, .int .i64 n, .string s]] w fun e w' => e = .returned (.tuple #[.agg #[.int .i64 (unS op k n s).1, .int .i64 (unS op k n s).2.1, .string (unS op k n s).2.2.1], .int .i64 (unS op k n s).2.2.2]) ∧ Below w.heap.size w w' := by
  have i0 := Inv2.new w k n s
  by_cases h1 : op = 1
  · subst h1
    have ci := fun W : World => is_any k n s 1 W hs
    cases hi : isS k n s 1 with
    | false =>
      rw [hi] at ci
      rw [show unS 1 k n s = stuckS by unfold isS at hi; simp at hi; unfold unS; rw [if_neg (by intro h; rw [hi h.2.1] at h; exact absurd h.2.2 (by simp)), if_neg (by simp)]]
      go_enter Tryd.func11, Tryd.ntmps11
      go_wp2_with fail
      refine (ci _).mono ?_
      rintro e w1 ⟨rfl, hb⟩
      have i1 := i0.next hb
      obtain ⟨⟨⟨a0, g0⟩, ⟨a1, g1⟩⟩, a2, g2⟩ := id i1.a
      obtain ⟨⟨⟨q0, f0⟩, ⟨q1, f1⟩⟩, q2, f2⟩ := id i1.r
      have B2 : Below w.heap.size w (put3 w1 (w.heap.size + 1) (0) (0) (e0)) := below_put3 i1.below (by omega) _ _ _
      have m2 := i1.r.put (0) (0) (e0)
      go_wp2
      change bodyPost Tryd.prog _ _ _ _ (put3 w1 (w.heap.size + 1) _ _ _)
      generalize put3 w1 (w.heap.size + 1) (0) (0) (e0) = X at B2 m2 ⊢
      obtain ⟨⟨⟨p0, -⟩, ⟨p1, -⟩⟩, p2, -⟩ := m2
      exact bodyPost_ret (v := .tuple #[.agg #[.int .i64 (0), .int .i64 (0), .string (e0)], .int .i64 (7)]) (by simp [results, Tryd.results11, go_sem, p0, p1, p2]) rfl ⟨rfl, B2⟩
    | true =>
      rw [hi] at ci
      rw [show unS 1 k n s = (1, wrap64 (-n), e0, 0) by unfold isS at hi; simp at hi; unfold unS; rw [if_pos ⟨rfl, hi.1, hi.2⟩]; rfl]
      go_enter Tryd.func11, Tryd.ntmps11
      go_wp2_with fail
      refine (ci _).mono ?_
      rintro e w1 ⟨rfl, hb⟩
      have i1 := i0.next hb
      obtain ⟨⟨⟨a0, g0⟩, ⟨a1, g1⟩⟩, a2, g2⟩ := id i1.a
      obtain ⟨⟨⟨q0, f0⟩, ⟨q1, f1⟩⟩, q2, f2⟩ := id i1.r
      go_wp2_with fail
      refine (number_any (wrap64 (-n)) _).mono ?_
      rintro e w2 ⟨rfl, hb2⟩
      have i2 := i1.next hb2
      clear a0 a1 a2 g0 g1 g2 q0 q1 q2 f0 f1 f2
      obtain ⟨⟨⟨a0, g0⟩, ⟨a1, g1⟩⟩, a2, g2⟩ := id i2.a
      obtain ⟨⟨⟨q0, f0⟩, ⟨q1, f1⟩⟩, q2, f2⟩ := id i2.r
      have B2 : Below w.heap.size w (put3 w2 (w.heap.size + 1) (1) (wrap64 (-n)) (e0)) := below_put3 i2.below (by omega) _ _ _
      have m2 := i2.r.put (1) (wrap64 (-n)) (e0)
      go_wp2
      change bodyPost Tryd.prog _ _ _ _ (put3 w2 (w.heap.size + 1) _ _ _)
      generalize put3 w2 (w.heap.size + 1) (1) (wrap64 (-n)) (e0) = X at B2 m2 ⊢
      obtain ⟨⟨⟨p0, -⟩, ⟨p1, -⟩⟩, p2, -⟩ := m2
      exact bodyPost_ret (v := .tuple #[.agg #[.int .i64 (1), .int .i64 (wrap64 (-n)), .string (e0)], .int .i64 (0)]) (by simp [results, Tryd.results11, go_sem, p0, p1, p2]) rfl ⟨rfl, B2⟩
  by_cases h2 : op = 2
  · subst h2
    have ci := fun W : World => is_any k n s 2 W hs
    cases hi : isS k n s 2 with
    | false =>
      rw [hi] at ci
      rw [show unS 2 k n s = stuckS by unfold isS at hi; simp at hi; unfold unS; rw [if_neg (by simp), if_neg (by intro h; rw [hi h.2.1] at h; exact absurd h.2.2 (by simp))]]
      go_enter Tryd.func11, Tryd.ntmps11
      go_wp2_with fail
      refine (ci _).mono ?_
      rintro e w1 ⟨rfl, hb⟩
      have i1 := i0.next hb
      obtain ⟨⟨⟨a0, g0⟩, ⟨a1, g1⟩⟩, a2, g2⟩ := id i1.a
      obtain ⟨⟨⟨q0, f0⟩, ⟨q1, f1⟩⟩, q2, f2⟩ := id i1.r
      have B2 : Below w.heap.size w (put3 w1 (w.heap.size + 1) (0) (0) (e0)) := below_put3 i1.below (by omega) _ _ _
      have m2 := i1.r.put (0) (0) (e0)
      go_wp2
      change bodyPost Tryd.prog _ _ _ _ (put3 w1 (w.heap.size + 1) _ _ _)
      generalize put3 w1 (w.heap.size + 1) (0) (0) (e0) = X at B2 m2 ⊢
      obtain ⟨⟨⟨p0, -⟩, ⟨p1, -⟩⟩, p2, -⟩ := m2
      exact bodyPost_ret (v := .tuple #[.agg #[.int .i64 (0), .int .i64 (0), .string (e0)], .int .i64 (7)]) (by simp [results, Tryd.results11, go_sem, p0, p1, p2]) rfl ⟨rfl, B2⟩
    | true =>
      rw [hi] at ci
      rw [show unS 2 k n s = (2, bit (n == 0), e0, 0) by unfold isS at hi; simp at hi; unfold unS; rw [if_neg (by simp)]; rw [if_pos ⟨rfl, hi.1, hi.2⟩]; rfl]
      go_enter Tryd.func11, Tryd.ntmps11
      go_wp2_with fail
      refine (ci _).mono ?_
      rintro e w1 ⟨rfl, hb⟩
      have i1 := i0.next hb
      obtain ⟨⟨⟨a0, g0⟩, ⟨a1, g1⟩⟩, a2, g2⟩ := id i1.a
      obtain ⟨⟨⟨q0, f0⟩, ⟨q1, f1⟩⟩, q2, f2⟩ := id i1.r
      go_wp2_with fail
      refine (truth_any (n == 0) _).mono ?_
      rintro e w2 ⟨rfl, hb2⟩
      have i2 := i1.next hb2
      clear a0 a1 a2 g0 g1 g2 q0 q1 q2 f0 f1 f2
      obtain ⟨⟨⟨a0, g0⟩, ⟨a1, g1⟩⟩, a2, g2⟩ := id i2.a
      obtain ⟨⟨⟨q0, f0⟩, ⟨q1, f1⟩⟩, q2, f2⟩ := id i2.r
      have B2 : Below w.heap.size w (put3 w2 (w.heap.size + 1) (2) (bit (n == 0)) (e0)) := below_put3 i2.below (by omega) _ _ _
      have m2 := i2.r.put (2) (bit (n == 0)) (e0)
      go_wp2
      change bodyPost Tryd.prog _ _ _ _ (put3 w2 (w.heap.size + 1) _ _ _)
      generalize put3 w2 (w.heap.size + 1) (2) (bit (n == 0)) (e0) = X at B2 m2 ⊢
      obtain ⟨⟨⟨p0, -⟩, ⟨p1, -⟩⟩, p2, -⟩ := m2
      exact bodyPost_ret (v := .tuple #[.agg #[.int .i64 (2), .int .i64 (bit (n == 0)), .string (e0)], .int .i64 (0)]) (by simp [results, Tryd.results11, go_sem, p0, p1, p2]) rfl ⟨rfl, B2⟩
  rw [show unS op k n s = stuckS by unfold unS; rw [if_neg (by simp [h1]), if_neg (by simp [h2])]]
  go_enter Tryd.func11, Tryd.ntmps11
  go_wp2
  refine bodyPost_ret (v := .tuple #[.agg #[.int .i64 0, .int .i64 0, .string e0], .int .i64 7]) (by simp [results, Tryd.results11, go_sem]) rfl ⟨rfl, ?_⟩
  exact i0.below

set_option maxRecDepth 100000 in
set_option maxHeartbeats 1000000 in
theorem zero_any (k : Int) (w : World) : Calls Tryd.prog 16 #[.int .i64 k] w fun e w' => e = .returned (.agg #[.int .i64 (if 0 ≤ k ∧ k ≤ 4 then k else 0), .int .i64 0, .string e0]) ∧ Below w.heap.size w w' := by
  have n0 := Box3.new w 0 0 e0 25
  have n1 := Box3.new (w.alloc (.cells #[.int .i64 0, .int .i64 0, .string e0] 25)) k 0 e0 25
  have B1 : Below w.heap.size w ((w.alloc (.cells #[.int .i64 0, .int .i64 0, .string e0] 25)).alloc (.cells #[.int .i64 k, .int .i64 0, .string e0] 25)) := ((Below.refl _ w).alloc (Nat.le_refl _) _).alloc (by simp) _
  have cv := fun W : World => valid_any k 0 e0 W (by decide)
  have hv : okV k 0 e0 = decide (0 ≤ k ∧ k ≤ 4) := by
    unfold okV
    rw [e0_list]
    by_cases h0 : k = 0
    · subst h0; rfl
    by_cases h1 : k = 1
    · subst h1; rfl
    by_cases h2 : k = 2
    · subst h2; rfl
    by_cases h3 : k = 3
    · subst h3; rfl
    by_cases h4 : k = 4
    · subst h4; rfl
    rw [if_neg h0, if_neg h1, if_neg h2, if_neg h3, if_neg h4]
    simp
    omega
  rw [hv] at cv
  clear hv
  by_cases h : 0 ≤ k ∧ k ≤ 4
  · rw [if_pos h]
    rw [decide_eq_true h] at cv
    clear h
    go_enter Tryd.func16, Tryd.ntmps16
    go_wp2_with fail
    refine (cv _).mono ?_
    rintro e w1 ⟨rfl, hb⟩
    have m1 := (n0.alloc (.cells #[.int .i64 k, .int .i64 0, .string e0] 25)).below hb (by simp; omega)
    have m3 := n1.below hb (by simp)
    simp only [World.size_alloc] at m3
    obtain ⟨⟨⟨q0, f0⟩, ⟨q1, f1⟩⟩, q2, f2⟩ := id m1
    obtain ⟨⟨⟨a0, g0⟩, ⟨a1, g1⟩⟩, a2, g2⟩ := id m3
    have B2 : Below w.heap.size w (put3 w1 w.heap.size k 0 e0) := below_put3 (B1.trans (hb.mono B1.size)) (Nat.le_refl _) _ _ _
    have m2 := m1.put k 0 e0
    go_wp2
    change bodyPost Tryd.prog _ _ _ _ (put3 w1 w.heap.size _ _ _)
    generalize put3 w1 w.heap.size k 0 e0 = X at B2 m2 ⊢
    obtain ⟨⟨⟨p0, -⟩, ⟨p1, -⟩⟩, p2, -⟩ := m2
    exact bodyPost_ret (v := .agg #[.int .i64 k, .int .i64 0, .string e0]) (by simp [results, Tryd.results16, go_sem, p0, p1, p2]) rfl ⟨rfl, B2⟩
  · rw [if_neg h]
    rw [decide_eq_false h] at cv
    clear h
    go_enter Tryd.func16, Tryd.ntmps16
    go_wp2_with fail
    refine (cv _).mono ?_
    rintro e w1 ⟨rfl, hb⟩
    have m1 := (n0.alloc (.cells #[.int .i64 k, .int .i64 0, .string e0] 25)).below hb (by simp; omega)
    obtain ⟨⟨⟨q0, f0⟩, ⟨q1, f1⟩⟩, q2, f2⟩ := id m1
    have B2 : Below w.heap.size w (put3 w1 w.heap.size 0 0 e0) := below_put3 (B1.trans (hb.mono B1.size)) (Nat.le_refl _) _ _ _
    have m2 := m1.put 0 0 e0
    go_wp2
    change bodyPost Tryd.prog _ _ _ _ (put3 w1 w.heap.size _ _ _)
    generalize put3 w1 w.heap.size 0 0 e0 = X at B2 m2 ⊢
    obtain ⟨⟨⟨p0, -⟩, ⟨p1, -⟩⟩, p2, -⟩ := m2
    exact bodyPost_ret (v := .agg #[.int .i64 0, .int .i64 0, .string e0]) (by simp [results, Tryd.results16, go_sem, p0, p1, p2]) rfl ⟨rfl, B2⟩
end Go.Proofs.YtfghajokmmlijaaDoor
