import Derived.Test.YtfghajokmmlijaaHelp
namespace Go.Proofs.Ytfghajokmmlijaa
open Go.RowKit

set_option maxRecDepth 100000 in
set_option maxHeartbeats 1000000 in
theorem do_any (op a b : Int) (w : World) : Calls Try.prog 16 #[.int .i64 op, .int .i64 a, .int .i64 b] w fun e w' => e = .returned (.agg #[.int .i64 (intsS op a b).1, .int .i64 (intsS op a b).2.1, .string (intsS op a b).2.2.1]) ∧ Below w.heap.size w w' := by
  have c : ∀ W : World, Calls Try.prog 9 #[.int .i64 op, .agg #[.int .i64 1, .int .i64 a, .string e0], .agg #[.int .i64 1, .int .i64 b, .string e0]] W fun e w' => e = .returned (.tuple #[.agg #[.int .i64 (intsS op a b).1, .int .i64 (intsS op a b).2.1, .string (intsS op a b).2.2.1], .int .i64 (intsS op a b).2.2.2]) ∧ Below W.heap.size W w' := fun W => by
    have h := binary_any op 1 a e0 1 b e0 W (by decide) (by decide)
    rw [binInt] at h
    exact h
  generalize intsS op a b = r at c ⊢
  obtain ⟨K, N, S, T⟩ := r
  have n0 := Box3.new w 0 0 e0 25
  have B1 : Below w.heap.size w (w.alloc (.cells #[.int .i64 0, .int .i64 0, .string e0] 25)) := (Below.refl _ w).alloc (Nat.le_refl _) _
  go_enter Try.func16, Try.ntmps16
  go_wp2_with fail
  refine (num_any a _).mono ?_
  rintro e w1 ⟨rfl, b1⟩
  go_wp2_with fail
  refine (num_any b _).mono ?_
  rintro e w2 ⟨rfl, b2⟩
  go_wp2_with fail
  refine (c _).mono ?_
  rintro e w3 ⟨rfl, b3⟩
  have b13 := (b1.trans (b2.mono b1.size)).trans (b3.mono (Nat.le_trans b1.size b2.size))
  have B3 : Below w.heap.size w w3 := B1.trans (b13.mono B1.size)
  have r3 := n0.below b13 (by simp)
  clear b1 b2 b3 b13 c n0
  have m1 := (r3).alloc (.cells #[.int .i64 K, .int .i64 N, .string S] 25)
  have m3 := Box3.new w3 K N S 25
  obtain ⟨⟨⟨q0, f0⟩, ⟨q1, f1⟩⟩, q2, f2⟩ := id m1
  obtain ⟨⟨⟨a0, g0⟩, ⟨a1, g1⟩⟩, a2, g2⟩ := id m3
  have B2 : Below w.heap.size w (put3 (w3.alloc (.cells #[.int .i64 K, .int .i64 N, .string S] 25)) (w.heap.size) K N S) := below_put3 (Below.alloc B3 B3.size _) (by omega) _ _ _
  have m2 := m1.put K N S
  go_wp2
  change bodyPost Try.prog _ _ _ _ (put3 (w3.alloc (.cells #[.int .i64 K, .int .i64 N, .string S] 25)) (w.heap.size) _ _ _)
  generalize put3 (w3.alloc (.cells #[.int .i64 K, .int .i64 N, .string S] 25)) (w.heap.size) K N S = X at B2 m2 ⊢
  obtain ⟨⟨⟨p0, -⟩, ⟨p1, -⟩⟩, p2, -⟩ := m2
  exact bodyPost_ret (v := .agg #[.int .i64 K, .int .i64 N, .string S]) (by simp [results, Try.results16, go_sem, p0, p1, p2]) rfl ⟨rfl, B2⟩

set_option maxRecDepth 100000 in
set_option maxHeartbeats 1000000 in
theorem both_any (op k n : Int) (s : ByteArray) (k' n' : Int) (s' : ByteArray) (w : World) (hs : s.size ≤ 9223372036854775807) (hs' : s'.size ≤ 9223372036854775807) : Calls Try.prog 18 #[.int .i64 op, .agg #[.int .i64 k, .int .i64 n, .string s], .agg #[.int .i64 k', .int .i64 n', .string s']] w fun e w' => e = .returned (.agg #[.int .i64 (binS op k n s k' n' s').1, .int .i64 (binS op k n s k' n' s').2.1, .string (binS op k n s k' n' s').2.2.1]) ∧ Below w.heap.size w w' := by
  have c := fun W : World => binary_any op k n s k' n' s' W hs hs'
  generalize binS op k n s k' n' s' = r at c ⊢
  obtain ⟨K, N, S, T⟩ := r
  have i0 := Inv.new w k n s k' n' s'
  go_enter Try.func18, Try.ntmps18
  go_wp2_with fail
  refine (c _).mono ?_
  rintro e w3 ⟨rfl, b3⟩
  have i3 := i0.next b3
  have B3 := i3.below
  have r3 := i3.r
  clear b3 c i0
  have m1 := (r3).alloc (.cells #[.int .i64 K, .int .i64 N, .string S] 25)
  have m3 := Box3.new w3 K N S 25
  obtain ⟨⟨⟨q0, f0⟩, ⟨q1, f1⟩⟩, q2, f2⟩ := id m1
  obtain ⟨⟨⟨a0, g0⟩, ⟨a1, g1⟩⟩, a2, g2⟩ := id m3
  have B2 : Below w.heap.size w (put3 (w3.alloc (.cells #[.int .i64 K, .int .i64 N, .string S] 25)) (w.heap.size + 1 + 1) K N S) := below_put3 (Below.alloc B3 B3.size _) (by omega) _ _ _
  have m2 := m1.put K N S
  go_wp2
  change bodyPost Try.prog _ _ _ _ (put3 (w3.alloc (.cells #[.int .i64 K, .int .i64 N, .string S] 25)) (w.heap.size + 1 + 1) _ _ _)
  generalize put3 (w3.alloc (.cells #[.int .i64 K, .int .i64 N, .string S] 25)) (w.heap.size + 1 + 1) K N S = X at B2 m2 ⊢
  obtain ⟨⟨⟨p0, -⟩, ⟨p1, -⟩⟩, p2, -⟩ := m2
  exact bodyPost_ret (v := .agg #[.int .i64 K, .int .i64 N, .string S]) (by simp [results, Try.results18, go_sem, p0, p1, p2]) rfl ⟨rfl, B2⟩
end Go.Proofs.Ytfghajokmmlijaa
