import Derived.Test.YtfghajokmmlijaaDo
import Derived.Deep.RegionHeld3
namespace Go.Proofs.Ytfghajokmmlijaa
open Go.RowKit

set_option maxRecDepth 100000 in
set_option maxHeartbeats 2000000 in
theorem with_any (op a b : Int) (w : World) : Calls Try.prog 17 #[.int .i64 op, .agg #[.int .i64 1, .int .i64 a, .string e0], .int .i64 b] w fun e w' => e = .returned (.agg #[.int .i64 (intsS op a b).1, .int .i64 (intsS op a b).2.1, .string (intsS op a b).2.2.1]) ∧ Below w.heap.size w w' := by
  have c : ∀ W : World, Calls Try.prog 9 #[.int .i64 op, .agg #[.int .i64 1, .int .i64 a, .string e0], .agg #[.int .i64 1, .int .i64 b, .string e0]] W fun e w' => e = .returned (.tuple #[.agg #[.int .i64 (intsS op a b).1, .int .i64 (intsS op a b).2.1, .string (intsS op a b).2.2.1], .int .i64 (intsS op a b).2.2.2]) ∧ Below W.heap.size W w' := fun W => by
    have h := binary_any op 1 a e0 1 b e0 W (by decide) (by decide)
    rw [binInt] at h
    exact h
  generalize intsS op a b = r at c ⊢
  obtain ⟨K, N, S, T⟩ := r
  have C : Hid (∀ W : World, Calls Try.prog 9 #[.int .i64 op, .agg #[.int .i64 1, .int .i64 a, .string e0], .agg #[.int .i64 1, .int .i64 b, .string e0]] W fun e w' => e = .returned (.tuple #[.agg #[.int .i64 K, .int .i64 N, .string S], .int .i64 T]) ∧ Below W.heap.size W w') := c
  clear c
  have i0 := Inv2.new w 1 a e0
  go_enter Try.func17, Try.ntmps17
  go_wp2_with fail
  generalize (w.alloc (.cells #[.int .i64 1, .int .i64 a, .string e0] 25)).alloc (.cells #[.int .i64 0, .int .i64 0, .string e0] 25) = X at i0 ⊢
  have SV : Hid (∀ w' : World, Below X.heap.size X w' → w'.cell? ⟨w.heap.size, 0, none⟩ = some (.int .i64 1) ∧ w'.cell? ⟨w.heap.size, 1, none⟩ = some (.int .i64 a) ∧ w'.cell? ⟨w.heap.size, 2, none⟩ = some (.string e0) ∧ Below X.heap.size X w') := fun w' hb =>
    ⟨(i0.next hb).a.1.1.1, (i0.next hb).a.1.2.1, (i0.next hb).a.2.1, hb⟩
  have x0 := i0.a.1.1.1
  have x1 := i0.a.1.2.1
  have x2 := i0.a.2.1
  have I0 : Hid (Inv2 w X 1 a e0) := i0
  clear i0
  have hcd : Below X.heap.size X X.drew := (Below.refl _ X).drew
  go_region_held3 (fun w' => w'.cell? ⟨w.heap.size, 0, none⟩ = some (.int .i64 1) ∧ w'.cell? ⟨w.heap.size, 1, none⟩ = some (.int .i64 a) ∧ w'.cell? ⟨w.heap.size, 2, none⟩ = some (.string e0) ∧ Below X.heap.size X w') (exact SV.out _ (by first | assumption | exact Below.alloc (by assumption) (Below.size (by assumption)) _ | exact below_put3 (by assumption) (by first | (with_reducible exact Nat.le_refl _) | (with_reducible exact Below.size (by assumption))) _ _ _))
    (first
    | (go_at_call 12; refine (num_any b _).mono ?_; rintro e w1 ⟨rfl, hb1⟩; (first
        | (have z1 : Box3 w1 X.heap.size 0 0 e0 := (Box3.new X.drew 0 0 e0 25).below hb1 (by simp); have lz1 : X.heap.size < w1.heap.size := Nat.lt_of_lt_of_le (by simp) hb1.size; have hcd1 : Below X.heap.size X w1 := (hcd.alloc hcd.size _).trans (hb1.mono (hcd.alloc hcd.size _).size))
        | have hcd1 : Below X.heap.size X w1 := hcd.trans (hb1.mono hcd.size)))
    | (go_at_call 9; refine (C.out _).mono ?_; rintro e w2 ⟨rfl, hb2⟩; (first
        | (have z2 : Box3 w2 w1.heap.size 0 0 e0 := (Box3.new w1 0 0 e0 25).below hb2 (by simp); have lz2 : w1.heap.size < w2.heap.size := Nat.lt_of_lt_of_le (by simp) hb2.size; have hcd2 : Below X.heap.size X w2 := (hcd1.alloc hcd1.size _).trans (hb2.mono (hcd1.alloc hcd1.size _).size); obtain ⟨⟨⟨z20, zf0⟩, ⟨z21, zf1⟩⟩, z22, zf2⟩ := id z2)
        | (have z2 : Box3 w2 X.heap.size 0 0 e0 := z1.below hb2 lz1; have lz2 : X.heap.size < w2.heap.size := Nat.lt_of_lt_of_le lz1 hb2.size; have hcd2 : Below X.heap.size X w2 := hcd1.trans (hb2.mono hcd1.size); obtain ⟨⟨⟨z20, zf0⟩, ⟨z21, zf1⟩⟩, z22, zf2⟩ := id z2)
        | have hcd2 : Below X.heap.size X w2 := hcd1.trans (hb2.mono hcd1.size))))
  · rename_i hH
    have hB : Below X.heap.size X (w2.alloc (.cells #[.int .i64 K, .int .i64 N, .string S] 25)) := hH.2.2.2
    have zb : Box3 (w2.alloc (.cells #[.int .i64 K, .int .i64 N, .string S] 25)) w2.heap.size K N S := Box3.new w2 K N S 25
    have i1 := I0.out.next hB
    change Exit.then _ _ Exit.normal _ (w2.alloc (.cells #[.int .i64 K, .int .i64 N, .string S] 25))
    generalize w2.alloc (.cells #[.int .i64 K, .int .i64 N, .string S] 25) = Y at hB zb i1 ⊢
    have hle : X.heap.size ≤ w2.heap.size := hcd2.size
    generalize w2.heap.size = xb at hle zb ⊢
    have m1 := i1.r
    have B1 := i1.below
    clear hH hB SV x0 x1 x2 I0 C hcd i1 hb1 hcd1 hb2 hcd2
    obtain ⟨⟨⟨q0, f0⟩, ⟨q1, f1⟩⟩, q2, f2⟩ := id m1
    obtain ⟨⟨⟨a0, g0⟩, ⟨a1, g1⟩⟩, a2, g2⟩ := id zb
    have B2 : Below w.heap.size w (put3 Y (w.heap.size + 1) K N S) := below_put3 B1 (by omega) _ _ _
    have m2 := m1.put K N S
    go_wp2
    change bodyPost Try.prog _ _ _ _ (put3 Y (w.heap.size + 1) _ _ _)
    generalize put3 Y (w.heap.size + 1) K N S = Z at B2 m2 ⊢
    obtain ⟨⟨⟨p0, -⟩, ⟨p1, -⟩⟩, p2, -⟩ := m2
    exact bodyPost_ret (v := .agg #[.int .i64 K, .int .i64 N, .string S]) (by simp [results, Try.results17, go_sem, p0, p1, p2]) rfl ⟨rfl, B2⟩
  · rename_i hH
    have hB : Below X.heap.size X (put3 w2 w1.heap.size K N S) := hH.2.2.2
    have zb : Box3 (put3 w2 w1.heap.size K N S) w1.heap.size K N S := z2.put K N S
    have i1 := I0.out.next hB
    change Exit.then _ _ Exit.normal _ (put3 w2 w1.heap.size K N S)
    generalize put3 w2 w1.heap.size K N S = Y at hB zb i1 ⊢
    have hle : X.heap.size ≤ w1.heap.size := hcd1.size
    generalize w1.heap.size = xb at hle zb ⊢
    have m1 := i1.r
    have B1 := i1.below
    clear hH hB SV x0 x1 x2 I0 C hcd i1 hb1 hcd1 hb2 hcd2
    obtain ⟨⟨⟨q0, f0⟩, ⟨q1, f1⟩⟩, q2, f2⟩ := id m1
    obtain ⟨⟨⟨a0, g0⟩, ⟨a1, g1⟩⟩, a2, g2⟩ := id zb
    have B2 : Below w.heap.size w (put3 Y (w.heap.size + 1) K N S) := below_put3 B1 (by omega) _ _ _
    have m2 := m1.put K N S
    go_wp2
    change bodyPost Try.prog _ _ _ _ (put3 Y (w.heap.size + 1) _ _ _)
    generalize put3 Y (w.heap.size + 1) K N S = Z at B2 m2 ⊢
    obtain ⟨⟨⟨p0, -⟩, ⟨p1, -⟩⟩, p2, -⟩ := m2
    exact bodyPost_ret (v := .agg #[.int .i64 K, .int .i64 N, .string S]) (by simp [results, Try.results17, go_sem, p0, p1, p2]) rfl ⟨rfl, B2⟩
  · rename_i hH
    have hB : Below X.heap.size X (put3 w2 X.heap.size K N S) := hH.2.2.2
    have zb : Box3 (put3 w2 X.heap.size K N S) X.heap.size K N S := z2.put K N S
    have i1 := I0.out.next hB
    change Exit.then _ _ Exit.normal _ (put3 w2 X.heap.size K N S)
    generalize put3 w2 X.heap.size K N S = Y at hB zb i1 ⊢
    have hle : X.heap.size ≤ X.heap.size := Nat.le_refl _
    generalize X.heap.size = xb at hle zb ⊢
    have m1 := i1.r
    have B1 := i1.below
    clear hH hB SV x0 x1 x2 I0 C hcd i1 hb1 hcd1 hb2 hcd2
    obtain ⟨⟨⟨q0, f0⟩, ⟨q1, f1⟩⟩, q2, f2⟩ := id m1
    obtain ⟨⟨⟨a0, g0⟩, ⟨a1, g1⟩⟩, a2, g2⟩ := id zb
    have B2 : Below w.heap.size w (put3 Y (w.heap.size + 1) K N S) := below_put3 B1 (by omega) _ _ _
    have m2 := m1.put K N S
    go_wp2
    change bodyPost Try.prog _ _ _ _ (put3 Y (w.heap.size + 1) _ _ _)
    generalize put3 Y (w.heap.size + 1) K N S = Z at B2 m2 ⊢
    obtain ⟨⟨⟨p0, -⟩, ⟨p1, -⟩⟩, p2, -⟩ := m2
    exact bodyPost_ret (v := .agg #[.int .i64 K, .int .i64 N, .string S]) (by simp [results, Try.results17, go_sem, p0, p1, p2]) rfl ⟨rfl, B2⟩
end Go.Proofs.Ytfghajokmmlijaa
