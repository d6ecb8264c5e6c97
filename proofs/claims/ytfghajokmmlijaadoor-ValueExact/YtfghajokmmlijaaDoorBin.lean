import Derived.Test.YtfghajokmmlijaaDoorOfs
namespace Go.Proofs.YtfghajokmmlijaaDoor
open Go.RowKit

/-- Two values and the answer's place, one behind the other. -/
structure Inv (w W : World) (k n : Int) (s : ByteArray) (k' n' : Int) (s' : ByteArray) : Prop where
  a : Box3 W w.heap.size k n s
  b : Box3 W (w.heap.size + 1) k' n' s'
  r : Box3 W (w.heap.size + 1 + 1) 0 0 e0
  below : Below w.heap.size w W
  size : w.heap.size + 1 + 1 < W.heap.size
theorem Inv.next {w W W' : World} {k n : Int} {s : ByteArray} {k' n' : Int} {s' : ByteArray} (h : Inv w W k n s k' n' s') (hb : Below W.heap.size W W') : Inv w W' k n s k' n' s' :=
  ⟨h.a.below hb (by have := h.size; omega), h.b.below hb (by have := h.size; omega), h.r.below hb h.size, h.below.trans (hb.mono h.below.size), Nat.lt_of_lt_of_le h.size hb.size⟩
theorem Inv.new (w : World) (k n : Int) (s : ByteArray) (k' n' : Int) (s' : ByteArray) :
    Inv w (((w.alloc (.cells #[.int .i64 k, .int .i64 n, .string s] 25)).alloc (.cells #[.int .i64 k', .int .i64 n', .string s'] 25)).alloc (.cells #[.int .i64 0, .int .i64 0, .string e0] 25)) k n s k' n' s' := by
  have b0 := (Box3.new w k n s 25)
  have b1 := (Box3.new (w.alloc (.cells #[.int .i64 k, .int .i64 n, .string s] 25)) k' n' s' 25)
  have b2 := (Box3.new ((w.alloc (.cells #[.int .i64 k, .int .i64 n, .string s] 25)).alloc (.cells #[.int .i64 k', .int .i64 n', .string s'] 25)) 0 0 e0 25)
  simp only [World.size_alloc] at b1 b2
  exact ⟨(b0.alloc _).alloc _, b1.alloc _, b2, (((Below.refl _ w).alloc (Nat.le_refl _) _).alloc (by simp) _).alloc (by simp; omega) _, by simp⟩

set_option maxRecDepth 100000 in
set_option maxHeartbeats 1000000 in
theorem binary_any (op k n : Int) (s : ByteArray) (k' n' : Int) (s' : ByteArray) (w : World) (hs : s.size ≤ 9223372036854775807) (hs' : s'.size ≤ 9223372036854775807) :
    Calls Tryd.prog 9 #[.int .i64 op, .agg #[.int .i64 k, .int .i64 n, .string s], .agg #[.int .i64 k', .int .i64 n', .string s']] w fun e w' => e = .returned (.tuple #[.agg #[.int .i64 (binS op k n s k' n' s').1, .int .i64 (binS op k n s k' n' s').2.1, .string (binS op k n s k' n' s').2.2.1], .int .i64 (binS op k n s k' n' s').2.2.2]) ∧ Below w.heap.size w w' := by
  have i0 := Inv.new w k n s k' n' s'
  have cv := fun W : World => valid_any k n s W hs
  have ci := fun W : World => is_any k' n' s' k W hs'
  cases hv : okV k n s with
  | false =>
    rw [show binS op k n s k' n' s' = stuckS by unfold binS; rw [if_neg (by simp [hv])]]
    rw [hv] at cv
    go_enter Tryd.func9, Tryd.ntmps9
    go_wp2_with fail
    refine (cv _).mono ?_
    rintro e w1 ⟨rfl, hb⟩
    have i1 := i0.next hb
    obtain ⟨⟨⟨a0, g0⟩, ⟨a1, g1⟩⟩, a2, g2⟩ := id i1.a
    obtain ⟨⟨⟨c0, k0⟩, ⟨c1, k1⟩⟩, c2, k2⟩ := id i1.b
    obtain ⟨⟨⟨q0, f0⟩, ⟨q1, f1⟩⟩, q2, f2⟩ := id i1.r
    have B2 : Below w.heap.size w (put3 w1 (w.heap.size + 1 + 1) (0) (0) (e0)) := below_put3 i1.below (by omega) _ _ _
    have m2 := i1.r.put (0) (0) (e0)
    go_wp2
    change bodyPost Tryd.prog _ _ _ _ (put3 w1 (w.heap.size + 1 + 1) _ _ _)
    generalize put3 w1 (w.heap.size + 1 + 1) (0) (0) (e0) = X at B2 m2 ⊢
    obtain ⟨⟨⟨p0, -⟩, ⟨p1, -⟩⟩, p2, -⟩ := m2
    exact bodyPost_ret (v := .tuple #[.agg #[.int .i64 (0), .int .i64 (0), .string (e0)], .int .i64 (7)]) (by simp [results, Tryd.results9, go_sem, p0, p1, p2]) rfl ⟨rfl, B2⟩
  | true =>
  cases hi : isS k' n' s' k with
  | false =>
    rw [show binS op k n s k' n' s' = stuckS by unfold binS; rw [if_neg (by unfold isS at hi; simp at hi; intro h; rw [hi h.2.1] at h; exact absurd h.2.2 (by simp))]]
    rw [hv] at cv
    rw [hi] at ci
    go_enter Tryd.func9, Tryd.ntmps9
    go_wp2_with fail
    refine (cv _).mono ?_
    rintro e w1 ⟨rfl, hb⟩
    have i1 := i0.next hb
    obtain ⟨⟨⟨a0, g0⟩, ⟨a1, g1⟩⟩, a2, g2⟩ := id i1.a
    obtain ⟨⟨⟨c0, k0⟩, ⟨c1, k1⟩⟩, c2, k2⟩ := id i1.b
    obtain ⟨⟨⟨q0, f0⟩, ⟨q1, f1⟩⟩, q2, f2⟩ := id i1.r
    go_wp2_with fail
    refine (ci _).mono ?_
    rintro e w2 ⟨rfl, hb2⟩
    have i2 := i1.next hb2
    clear a0 a1 a2 g0 g1 g2 c0 c1 c2 k0 k1 k2 q0 q1 q2 f0 f1 f2
    obtain ⟨⟨⟨a0, g0⟩, ⟨a1, g1⟩⟩, a2, g2⟩ := id i2.a
    obtain ⟨⟨⟨c0, k0⟩, ⟨c1, k1⟩⟩, c2, k2⟩ := id i2.b
    obtain ⟨⟨⟨q0, f0⟩, ⟨q1, f1⟩⟩, q2, f2⟩ := id i2.r
    have B2 : Below w.heap.size w (put3 w2 (w.heap.size + 1 + 1) (0) (0) (e0)) := below_put3 i2.below (by omega) _ _ _
    have m2 := i2.r.put (0) (0) (e0)
    go_wp2
    change bodyPost Tryd.prog _ _ _ _ (put3 w2 (w.heap.size + 1 + 1) _ _ _)
    generalize put3 w2 (w.heap.size + 1 + 1) (0) (0) (e0) = X at B2 m2 ⊢
    obtain ⟨⟨⟨p0, -⟩, ⟨p1, -⟩⟩, p2, -⟩ := m2
    exact bodyPost_ret (v := .tuple #[.agg #[.int .i64 (0), .int .i64 (0), .string (e0)], .int .i64 (7)]) (by simp [results, Tryd.results9, go_sem, p0, p1, p2]) rfl ⟨rfl, B2⟩
  | true =>
  have hk : k' = k ∧ okV k' n' s' = true := by unfold isS at hi; simpa using hi
  rw [show binS op k n s k' n' s' = (if k = 1 then intsS op n n' else if k = 3 then textsS op s s' else if k = 2 ∨ k = 4 then namesS op n n' else stuckS) by unfold binS; rw [if_pos ⟨hv, hk.1, hk.2⟩]]
  rw [hv] at cv
  rw [hi] at ci
  clear hi
  obtain ⟨rfl, hv'⟩ := hk
  by_cases h1 : k' = 1
  · subst h1
    rw [if_pos rfl]
    have c : ∀ W : World, Calls Tryd.prog 27 #[.int .i64 op, .int .i64 n, .int .i64 n'] W fun e w' => e = .returned (.tuple #[.agg #[.int .i64 (intsS op n n').1, .int .i64 (intsS op n n').2.1, .string (intsS op n n').2.2.1], .int .i64 (intsS op n n').2.2.2]) ∧ Below W.heap.size W w' := ofInts_any op n n'
    generalize intsS op n n' = r at c ⊢
    obtain ⟨K, N, S, T⟩ := r
    go_enter Tryd.func9, Tryd.ntmps9
    go_wp2_with fail
    refine (cv _).mono ?_
    rintro e w1 ⟨rfl, hb⟩
    have i1 := i0.next hb
    obtain ⟨⟨⟨a0, g0⟩, ⟨a1, g1⟩⟩, a2, g2⟩ := id i1.a
    obtain ⟨⟨⟨c0, k0⟩, ⟨c1, k1⟩⟩, c2, k2⟩ := id i1.b
    obtain ⟨⟨⟨q0, f0⟩, ⟨q1, f1⟩⟩, q2, f2⟩ := id i1.r
    go_wp2_with fail
    refine (ci _).mono ?_
    rintro e w2 ⟨rfl, hb2⟩
    have i2 := i1.next hb2
    clear a0 a1 a2 g0 g1 g2 c0 c1 c2 k0 k1 k2 q0 q1 q2 f0 f1 f2
    obtain ⟨⟨⟨a0, g0⟩, ⟨a1, g1⟩⟩, a2, g2⟩ := id i2.a
    obtain ⟨⟨⟨c0, k0⟩, ⟨c1, k1⟩⟩, c2, k2⟩ := id i2.b
    obtain ⟨⟨⟨q0, f0⟩, ⟨q1, f1⟩⟩, q2, f2⟩ := id i2.r
    go_wp2_with fail
    refine (c _).mono ?_
    rintro e w3 ⟨rfl, hb3⟩
    have i3 := i2.next hb3
    clear a0 a1 a2 g0 g1 g2 c0 c1 c2 k0 k1 k2 q0 q1 q2 f0 f1 f2
    obtain ⟨⟨⟨a0, g0⟩, ⟨a1, g1⟩⟩, a2, g2⟩ := id i3.a
    obtain ⟨⟨⟨c0, k0⟩, ⟨c1, k1⟩⟩, c2, k2⟩ := id i3.b
    obtain ⟨⟨⟨q0, f0⟩, ⟨q1, f1⟩⟩, q2, f2⟩ := id i3.r
    have B2 : Below w.heap.size w (put3 w3 (w.heap.size + 1 + 1) (K) (N) (S)) := below_put3 i3.below (by omega) _ _ _
    have m2 := i3.r.put (K) (N) (S)
    go_wp2
    change bodyPost Tryd.prog _ _ _ _ (put3 w3 (w.heap.size + 1 + 1) _ _ _)
    generalize put3 w3 (w.heap.size + 1 + 1) (K) (N) (S) = X at B2 m2 ⊢
    obtain ⟨⟨⟨p0, -⟩, ⟨p1, -⟩⟩, p2, -⟩ := m2
    exact bodyPost_ret (v := .tuple #[.agg #[.int .i64 (K), .int .i64 (N), .string (S)], .int .i64 (T)]) (by simp [results, Tryd.results9, go_sem, p0, p1, p2]) rfl ⟨rfl, B2⟩
  rw [if_neg h1]
  by_cases h3 : k' = 3
  · subst h3
    rw [if_pos rfl]
    have z1 : s.size ≤ 256 := by rw [show okV 3 n s = (n == 0 && decide (s.size ≤ 256)) from rfl] at hv; simp at hv; exact hv.2
    have z2 : s'.size ≤ 256 := by rw [show okV 3 n' s' = (n' == 0 && decide (s'.size ≤ 256)) from rfl] at hv'; simp at hv'; exact hv'.2
    have c : ∀ W : World, Calls Tryd.prog 28 #[.int .i64 op, .string s, .string s'] W fun e w' => e = .returned (.tuple #[.agg #[.int .i64 (textsS op s s').1, .int .i64 (textsS op s s').2.1, .string (textsS op s s').2.2.1], .int .i64 (textsS op s s').2.2.2]) ∧ Below W.heap.size W w' := fun W => ofTexts_any op s s' W z1 z2
    generalize textsS op s s' = r at c ⊢
    obtain ⟨K, N, S, T⟩ := r
    go_enter Tryd.func9, Tryd.ntmps9
    go_wp2_with fail
    refine (cv _).mono ?_
    rintro e w1 ⟨rfl, hb⟩
    have i1 := i0.next hb
    obtain ⟨⟨⟨a0, g0⟩, ⟨a1, g1⟩⟩, a2, g2⟩ := id i1.a
    obtain ⟨⟨⟨c0, k0⟩, ⟨c1, k1⟩⟩, c2, k2⟩ := id i1.b
    obtain ⟨⟨⟨q0, f0⟩, ⟨q1, f1⟩⟩, q2, f2⟩ := id i1.r
    go_wp2_with fail
    refine (ci _).mono ?_
    rintro e w2 ⟨rfl, hb2⟩
    have i2 := i1.next hb2
    clear a0 a1 a2 g0 g1 g2 c0 c1 c2 k0 k1 k2 q0 q1 q2 f0 f1 f2
    obtain ⟨⟨⟨a0, g0⟩, ⟨a1, g1⟩⟩, a2, g2⟩ := id i2.a
    obtain ⟨⟨⟨c0, k0⟩, ⟨c1, k1⟩⟩, c2, k2⟩ := id i2.b
    obtain ⟨⟨⟨q0, f0⟩, ⟨q1, f1⟩⟩, q2, f2⟩ := id i2.r
    go_wp2_with fail
    refine (c _).mono ?_
    rintro e w3 ⟨rfl, hb3⟩
    have i3 := i2.next hb3
    clear a0 a1 a2 g0 g1 g2 c0 c1 c2 k0 k1 k2 q0 q1 q2 f0 f1 f2
    obtain ⟨⟨⟨a0, g0⟩, ⟨a1, g1⟩⟩, a2, g2⟩ := id i3.a
    obtain ⟨⟨⟨c0, k0⟩, ⟨c1, k1⟩⟩, c2, k2⟩ := id i3.b
    obtain ⟨⟨⟨q0, f0⟩, ⟨q1, f1⟩⟩, q2, f2⟩ := id i3.r
    have B2 : Below w.heap.size w (put3 w3 (w.heap.size + 1 + 1) (K) (N) (S)) := below_put3 i3.below (by omega) _ _ _
    have m2 := i3.r.put (K) (N) (S)
    go_wp2
    change bodyPost Tryd.prog _ _ _ _ (put3 w3 (w.heap.size + 1 + 1) _ _ _)
    generalize put3 w3 (w.heap.size + 1 + 1) (K) (N) (S) = X at B2 m2 ⊢
    obtain ⟨⟨⟨p0, -⟩, ⟨p1, -⟩⟩, p2, -⟩ := m2
    exact bodyPost_ret (v := .tuple #[.agg #[.int .i64 (K), .int .i64 (N), .string (S)], .int .i64 (T)]) (by simp [results, Tryd.results9, go_sem, p0, p1, p2]) rfl ⟨rfl, B2⟩
  rw [if_neg h3]
  by_cases h2 : k' = 2
  · subst h2
    rw [if_pos (by simp)]
    have c : ∀ W : World, Calls Tryd.prog 29 #[.int .i64 op, .int .i64 n, .int .i64 n'] W fun e w' => e = .returned (.tuple #[.agg #[.int .i64 (namesS op n n').1, .int .i64 (namesS op n n').2.1, .string (namesS op n n').2.2.1], .int .i64 (namesS op n n').2.2.2]) ∧ Below W.heap.size W w' := ofNames_any op n n'
    generalize namesS op n n' = r at c ⊢
    obtain ⟨K, N, S, T⟩ := r
    go_enter Tryd.func9, Tryd.ntmps9
    go_wp2_with fail
    refine (cv _).mono ?_
    rintro e w1 ⟨rfl, hb⟩
    have i1 := i0.next hb
    obtain ⟨⟨⟨a0, g0⟩, ⟨a1, g1⟩⟩, a2, g2⟩ := id i1.a
    obtain ⟨⟨⟨c0, k0⟩, ⟨c1, k1⟩⟩, c2, k2⟩ := id i1.b
    obtain ⟨⟨⟨q0, f0⟩, ⟨q1, f1⟩⟩, q2, f2⟩ := id i1.r
    go_wp2_with fail
    refine (ci _).mono ?_
    rintro e w2 ⟨rfl, hb2⟩
    have i2 := i1.next hb2
    clear a0 a1 a2 g0 g1 g2 c0 c1 c2 k0 k1 k2 q0 q1 q2 f0 f1 f2
    obtain ⟨⟨⟨a0, g0⟩, ⟨a1, g1⟩⟩, a2, g2⟩ := id i2.a
    obtain ⟨⟨⟨c0, k0⟩, ⟨c1, k1⟩⟩, c2, k2⟩ := id i2.b
    obtain ⟨⟨⟨q0, f0⟩, ⟨q1, f1⟩⟩, q2, f2⟩ := id i2.r
    go_wp2_with fail
    refine (c _).mono ?_
    rintro e w3 ⟨rfl, hb3⟩
    have i3 := i2.next hb3
    clear a0 a1 a2 g0 g1 g2 c0 c1 c2 k0 k1 k2 q0 q1 q2 f0 f1 f2
    obtain ⟨⟨⟨a0, g0⟩, ⟨a1, g1⟩⟩, a2, g2⟩ := id i3.a
    obtain ⟨⟨⟨c0, k0⟩, ⟨c1, k1⟩⟩, c2, k2⟩ := id i3.b
    obtain ⟨⟨⟨q0, f0⟩, ⟨q1, f1⟩⟩, q2, f2⟩ := id i3.r
    have B2 : Below w.heap.size w (put3 w3 (w.heap.size + 1 + 1) (K) (N) (S)) := below_put3 i3.below (by omega) _ _ _
    have m2 := i3.r.put (K) (N) (S)
    go_wp2
    change bodyPost Tryd.prog _ _ _ _ (put3 w3 (w.heap.size + 1 + 1) _ _ _)
    generalize put3 w3 (w.heap.size + 1 + 1) (K) (N) (S) = X at B2 m2 ⊢
    obtain ⟨⟨⟨p0, -⟩, ⟨p1, -⟩⟩, p2, -⟩ := m2
    exact bodyPost_ret (v := .tuple #[.agg #[.int .i64 (K), .int .i64 (N), .string (S)], .int .i64 (T)]) (by simp [results, Tryd.results9, go_sem, p0, p1, p2]) rfl ⟨rfl, B2⟩
  by_cases h4 : k' = 4
  · subst h4
    rw [if_pos (by simp)]
    have c : ∀ W : World, Calls Tryd.prog 29 #[.int .i64 op, .int .i64 n, .int .i64 n'] W fun e w' => e = .returned (.tuple #[.agg #[.int .i64 (namesS op n n').1, .int .i64 (namesS op n n').2.1, .string (namesS op n n').2.2.1], .int .i64 (namesS op n n').2.2.2]) ∧ Below W.heap.size W w' := ofNames_any op n n'
    generalize namesS op n n' = r at c ⊢
    obtain ⟨K, N, S, T⟩ := r
    go_enter Tryd.func9, Tryd.ntmps9
    go_wp2_with fail
    refine (cv _).mono ?_
    rintro e w1 ⟨rfl, hb⟩
    have i1 := i0.next hb
    obtain ⟨⟨⟨a0, g0⟩, ⟨a1, g1⟩⟩, a2, g2⟩ := id i1.a
    obtain ⟨⟨⟨c0, k0⟩, ⟨c1, k1⟩⟩, c2, k2⟩ := id i1.b
    obtain ⟨⟨⟨q0, f0⟩, ⟨q1, f1⟩⟩, q2, f2⟩ := id i1.r
    go_wp2_with fail
    refine (ci _).mono ?_
    rintro e w2 ⟨rfl, hb2⟩
    have i2 := i1.next hb2
    clear a0 a1 a2 g0 g1 g2 c0 c1 c2 k0 k1 k2 q0 q1 q2 f0 f1 f2
    obtain ⟨⟨⟨a0, g0⟩, ⟨a1, g1⟩⟩, a2, g2⟩ := id i2.a
    obtain ⟨⟨⟨c0, k0⟩, ⟨c1, k1⟩⟩, c2, k2⟩ := id i2.b
    obtain ⟨⟨⟨q0, f0⟩, ⟨q1, f1⟩⟩, q2, f2⟩ := id i2.r
    go_wp2_with fail
    refine (c _).mono ?_
    rintro e w3 ⟨rfl, hb3⟩
    have i3 := i2.next hb3
    clear a0 a1 a2 g0 g1 g2 c0 c1 c2 k0 k1 k2 q0 q1 q2 f0 f1 f2
    obtain ⟨⟨⟨a0, g0⟩, ⟨a1, g1⟩⟩, a2, g2⟩ := id i3.a
    obtain ⟨⟨⟨c0, k0⟩, ⟨c1, k1⟩⟩, c2, k2⟩ := id i3.b
    obtain ⟨⟨⟨q0, f0⟩, ⟨q1, f1⟩⟩, q2, f2⟩ := id i3.r
    have B2 : Below w.heap.size w (put3 w3 (w.heap.size + 1 + 1) (K) (N) (S)) := below_put3 i3.below (by omega) _ _ _
    have m2 := i3.r.put (K) (N) (S)
    go_wp2
    change bodyPost Tryd.prog _ _ _ _ (put3 w3 (w.heap.size + 1 + 1) _ _ _)
    generalize put3 w3 (w.heap.size + 1 + 1) (K) (N) (S) = X at B2 m2 ⊢
    obtain ⟨⟨⟨p0, -⟩, ⟨p1, -⟩⟩, p2, -⟩ := m2
    exact bodyPost_ret (v := .tuple #[.agg #[.int .i64 (K), .int .i64 (N), .string (S)], .int .i64 (T)]) (by simp [results, Tryd.results9, go_sem, p0, p1, p2]) rfl ⟨rfl, B2⟩
  rw [if_neg (by simp [h2, h4])]
  go_enter Tryd.func9, Tryd.ntmps9
  go_wp2_with fail
  refine (cv _).mono ?_
  rintro e w1 ⟨rfl, hb⟩
  have i1 := i0.next hb
  obtain ⟨⟨⟨a0, g0⟩, ⟨a1, g1⟩⟩, a2, g2⟩ := id i1.a
  obtain ⟨⟨⟨c0, k0⟩, ⟨c1, k1⟩⟩, c2, k2⟩ := id i1.b
  obtain ⟨⟨⟨q0, f0⟩, ⟨q1, f1⟩⟩, q2, f2⟩ := id i1.r
  go_wp2_with fail
  refine (ci _).mono ?_
  rintro e w2 ⟨rfl, hb2⟩
  have i2 := i1.next hb2
  clear a0 a1 a2 g0 g1 g2 c0 c1 c2 k0 k1 k2 q0 q1 q2 f0 f1 f2
  obtain ⟨⟨⟨a0, g0⟩, ⟨a1, g1⟩⟩, a2, g2⟩ := id i2.a
  obtain ⟨⟨⟨c0, k0⟩, ⟨c1, k1⟩⟩, c2, k2⟩ := id i2.b
  obtain ⟨⟨⟨q0, f0⟩, ⟨q1, f1⟩⟩, q2, f2⟩ := id i2.r
  have B2 : Below w.heap.size w (put3 w2 (w.heap.size + 1 + 1) (0) (0) (e0)) := below_put3 i2.below (by omega) _ _ _
  have m2 := i2.r.put (0) (0) (e0)
  go_wp2
  change bodyPost Tryd.prog _ _ _ _ (put3 w2 (w.heap.size + 1 + 1) _ _ _)
  generalize put3 w2 (w.heap.size + 1 + 1) (0) (0) (e0) = X at B2 m2 ⊢
  obtain ⟨⟨⟨p0, -⟩, ⟨p1, -⟩⟩, p2, -⟩ := m2
  exact bodyPost_ret (v := .tuple #[.agg #[.int .i64 (0), .int .i64 (0), .string (e0)], .int .i64 (7)]) (by simp [results, Tryd.results9, go_sem, p0, p1, p2]) rfl ⟨rfl, B2⟩
end Go.Proofs.YtfghajokmmlijaaDoor
