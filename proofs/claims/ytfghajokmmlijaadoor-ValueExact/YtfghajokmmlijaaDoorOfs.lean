import Derived.Test.YtfghajokmmlijaaDoorCmp
import Derived.Test.YtfghajokmmlijaaDoorShelf
namespace Go.Proofs.YtfghajokmmlijaaDoor
open Go.RowKit

set_option maxHeartbeats 400000 in
theorem clone_any (s : ByteArray) (w : World) (hs : s.size ≤ 281474976710656) : Calls Tryd.prog 25 #[.string s] w fun e w' => e = .returned (.string s) ∧ Below w.heap.size w w' := by
  go_enter Tryd.func25, Tryd.ntmps25
  go_wp2_with (go_at_call 43; refine (Tryd.stringslite_Clone s w hs).mono ?_; rintro e w1 ⟨rfl, hb1⟩)
  go_ret
  exact ⟨rfl, hb1⟩

/-- is tells whether a value may be and is of that kind. -/
def isS (k n : Int) (s : ByteArray) (K : Int) : Bool := k == K && okV k n s
set_option maxRecDepth 100000 in
set_option maxHeartbeats 1000000 in
theorem is_any (k n : Int) (s : ByteArray) (K : Int) (w : World) (hs : s.size ≤ 9223372036854775807) : Calls Tryd.prog 26 #[.agg #[.int .i64 k, .int .i64 n, .string s], .int .i64 K] w fun e w' => e = .returned (.bool (isS k n s K)) ∧ Below w.heap.size w w' := by
  have B1 : Below w.heap.size w (w.alloc (.cells #[.int .i64 k, .int .i64 n, .string s] 25)) := (Below.refl _ w).alloc (Nat.le_refl _) _
  unfold isS
  by_cases h : k = K
  · subst h
    rw [show (k == k && okV k n s) = okV k n s by simp]
    go_enter Tryd.func26, Tryd.ntmps26
    go_wp2_with fail
    refine (valid_any k n s _ hs).mono ?_
    rintro e w1 ⟨rfl, hb⟩
    go_wp2
    go_ret
    exact ⟨rfl, B1.trans (hb.mono B1.size)⟩
  · rw [show (k == K && okV k n s) = false by simp [h]]
    go_enter Tryd.func26, Tryd.ntmps26
    go_wp2
    go_ret
    exact ⟨rfl, B1⟩

set_option maxRecDepth 100000 in
set_option maxHeartbeats 1000000 in
theorem joined_any (a b : ByteArray) (w : World) (ha : a.size ≤ 256) (hb0 : b.size ≤ 256) : Calls Tryd.prog 45 #[.string a, .string b] w fun e w' => e = .returned (.tuple #[.agg #[.int .i64 (textsS 3 a b).1, .int .i64 (textsS 3 a b).2.1, .string (textsS 3 a b).2.2.1], .int .i64 (textsS 3 a b).2.2.2]) ∧ Below w.heap.size w w' := by
  have B1 : Below w.heap.size w (w.alloc (.cells #[.int .i64 0, .int .i64 0, .string e0] 25)) := (Below.refl _ w).alloc (Nat.le_refl _) _
  by_cases h : 256 < a.size + b.size
  · rw [show textsS 3 a b = (0, 0, e0, 6) by unfold textsS; rw [if_pos rfl, if_pos h]]
    go_enter Tryd.func45, Tryd.ntmps45
    go_wp2
    exact bodyPost_ret (v := .tuple #[.agg #[.int .i64 0, .int .i64 0, .string e0], .int .i64 6]) (by simp [results, Tryd.results45, go_sem]) rfl ⟨rfl, B1⟩
  · rw [show textsS 3 a b = (3, 0, a ++ b, 0) by unfold textsS; rw [if_pos rfl, if_neg h]]
    go_enter Tryd.func45, Tryd.ntmps45
    go_wp2_with fail
    refine (clone_any _ _ (by rw [ByteArray.size_append]; omega)).mono ?_
    rintro e w1 ⟨rfl, hb⟩
    have m1 := (Box3.new w 0 0 e0 25).below hb (by simp)
    obtain ⟨⟨⟨q0, f0⟩, ⟨q1, f1⟩⟩, q2, f2⟩ := id m1
    have hB : Below w.heap.size w w1 := B1.trans (hb.mono B1.size)
    have B2 : Below w.heap.size w (put3 w1 w.heap.size (3) (0) (a ++ b)) := below_put3 hB (by omega) _ _ _
    have m2 := m1.put (3) (0) (a ++ b)
    go_wp2
    change bodyPost Tryd.prog _ _ _ _ (put3 w1 (w.heap.size) _ _ _)
    generalize put3 w1 (w.heap.size) (3) (0) (a ++ b) = X at B2 m2 ⊢
    obtain ⟨⟨⟨p0, -⟩, ⟨p1, -⟩⟩, p2, -⟩ := m2
    exact bodyPost_ret (v := .tuple #[.agg #[.int .i64 (3), .int .i64 (0), .string (a ++ b)], .int .i64 (0)]) (by simp [results, Tryd.results45, go_sem, p0, p1, p2]) rfl ⟨rfl, B2⟩

set_option maxRecDepth 100000 in
set_option maxHeartbeats 1000000 in
theorem ofInts_any (op a b : Int) (w : World) : Calls Tryd.prog 27 #[.int .i64 op, .int .i64 a, .int .i64 b] w fun e w' => e = .returned (.tuple #[.agg #[.int .i64 (intsS op a b).1, .int .i64 (intsS op a b).2.1, .string (intsS op a b).2.2.1], .int .i64 (intsS op a b).2.2.2]) ∧ Below w.heap.size w w' := by
  have B1 : Below w.heap.size w (w.alloc (.cells #[.int .i64 0, .int .i64 0, .string e0] 25)) := (Below.refl _ w).alloc (Nat.le_refl _) _
  by_cases h3 : op = 3
  · subst h3
    rw [show intsS 3 a b = (1, wrap64 (a + b), e0, 0) from rfl]
    go_enter Tryd.func27, Tryd.ntmps27
    go_wp2_with fail
    refine (number_any (wrap64 (a + b)) _).mono ?_
    rintro e w1 ⟨rfl, hb⟩
    have m1 := (Box3.new w 0 0 e0 25).below hb (by simp)
    obtain ⟨⟨⟨q0, f0⟩, ⟨q1, f1⟩⟩, q2, f2⟩ := id m1
    have hB : Below w.heap.size w w1 := B1.trans (hb.mono B1.size)
    have B2 : Below w.heap.size w (put3 w1 w.heap.size (1) (wrap64 (a + b)) (e0)) := below_put3 hB (by omega) _ _ _
    have m2 := m1.put (1) (wrap64 (a + b)) (e0)
    go_wp2
    change bodyPost Tryd.prog _ _ _ _ (put3 w1 (w.heap.size) _ _ _)
    generalize put3 w1 (w.heap.size) (1) (wrap64 (a + b)) (e0) = X at B2 m2 ⊢
    obtain ⟨⟨⟨p0, -⟩, ⟨p1, -⟩⟩, p2, -⟩ := m2
    exact bodyPost_ret (v := .tuple #[.agg #[.int .i64 (1), .int .i64 (wrap64 (a + b)), .string (e0)], .int .i64 (0)]) (by simp [results, Tryd.results27, go_sem, p0, p1, p2]) rfl ⟨rfl, B2⟩
  by_cases h4 : op = 4
  · subst h4
    rw [show intsS 4 a b = (1, wrap64 (a - b), e0, 0) from rfl]
    go_enter Tryd.func27, Tryd.ntmps27
    go_wp2_with fail
    refine (number_any (wrap64 (a - b)) _).mono ?_
    rintro e w1 ⟨rfl, hb⟩
    have m1 := (Box3.new w 0 0 e0 25).below hb (by simp)
    obtain ⟨⟨⟨q0, f0⟩, ⟨q1, f1⟩⟩, q2, f2⟩ := id m1
    have hB : Below w.heap.size w w1 := B1.trans (hb.mono B1.size)
    have B2 : Below w.heap.size w (put3 w1 w.heap.size (1) (wrap64 (a - b)) (e0)) := below_put3 hB (by omega) _ _ _
    have m2 := m1.put (1) (wrap64 (a - b)) (e0)
    go_wp2
    change bodyPost Tryd.prog _ _ _ _ (put3 w1 (w.heap.size) _ _ _)
    generalize put3 w1 (w.heap.size) (1) (wrap64 (a - b)) (e0) = X at B2 m2 ⊢
    obtain ⟨⟨⟨p0, -⟩, ⟨p1, -⟩⟩, p2, -⟩ := m2
    exact bodyPost_ret (v := .tuple #[.agg #[.int .i64 (1), .int .i64 (wrap64 (a - b)), .string (e0)], .int .i64 (0)]) (by simp [results, Tryd.results27, go_sem, p0, p1, p2]) rfl ⟨rfl, B2⟩
  by_cases h5 : op = 5
  · subst h5
    rw [show intsS 5 a b = (1, wrap64 (a * b), e0, 0) from rfl]
    go_enter Tryd.func27, Tryd.ntmps27
    go_wp2_with fail
    refine (number_any (wrap64 (a * b)) _).mono ?_
    rintro e w1 ⟨rfl, hb⟩
    have m1 := (Box3.new w 0 0 e0 25).below hb (by simp)
    obtain ⟨⟨⟨q0, f0⟩, ⟨q1, f1⟩⟩, q2, f2⟩ := id m1
    have hB : Below w.heap.size w w1 := B1.trans (hb.mono B1.size)
    have B2 : Below w.heap.size w (put3 w1 w.heap.size (1) (wrap64 (a * b)) (e0)) := below_put3 hB (by omega) _ _ _
    have m2 := m1.put (1) (wrap64 (a * b)) (e0)
    go_wp2
    change bodyPost Tryd.prog _ _ _ _ (put3 w1 (w.heap.size) _ _ _)
    generalize put3 w1 (w.heap.size) (1) (wrap64 (a * b)) (e0) = X at B2 m2 ⊢
    obtain ⟨⟨⟨p0, -⟩, ⟨p1, -⟩⟩, p2, -⟩ := m2
    exact bodyPost_ret (v := .tuple #[.agg #[.int .i64 (1), .int .i64 (wrap64 (a * b)), .string (e0)], .int .i64 (0)]) (by simp [results, Tryd.results27, go_sem, p0, p1, p2]) rfl ⟨rfl, B2⟩
  by_cases h6 : op = 6
  · subst h6
    by_cases z : b = 0
    · subst z
      rw [show intsS 6 a 0 = (0, 0, e0, 1) from rfl]
      go_enter Tryd.func27, Tryd.ntmps27
      go_wp2
      exact bodyPost_ret (v := .tuple #[.agg #[.int .i64 0, .int .i64 0, .string e0], .int .i64 1]) (by simp [results, Tryd.results27, go_sem]) rfl ⟨rfl, B1⟩
    rw [show intsS 6 a b = (1, wrap64 (a.tdiv b), e0, 0) by unfold intsS; simp [z, numS]]
    go_enter Tryd.func27, Tryd.ntmps27
    go_wp2_with fail
    refine (number_any (wrap64 (a.tdiv b)) _).mono ?_
    rintro e w1 ⟨rfl, hb⟩
    have m1 := (Box3.new w 0 0 e0 25).below hb (by simp)
    obtain ⟨⟨⟨q0, f0⟩, ⟨q1, f1⟩⟩, q2, f2⟩ := id m1
    have hB : Below w.heap.size w w1 := B1.trans (hb.mono B1.size)
    have B2 : Below w.heap.size w (put3 w1 w.heap.size (1) (wrap64 (a.tdiv b)) (e0)) := below_put3 hB (by omega) _ _ _
    have m2 := m1.put (1) (wrap64 (a.tdiv b)) (e0)
    go_wp2
    change bodyPost Tryd.prog _ _ _ _ (put3 w1 (w.heap.size) _ _ _)
    generalize put3 w1 (w.heap.size) (1) (wrap64 (a.tdiv b)) (e0) = X at B2 m2 ⊢
    obtain ⟨⟨⟨p0, -⟩, ⟨p1, -⟩⟩, p2, -⟩ := m2
    exact bodyPost_ret (v := .tuple #[.agg #[.int .i64 (1), .int .i64 (wrap64 (a.tdiv b)), .string (e0)], .int .i64 (0)]) (by simp [results, Tryd.results27, go_sem, p0, p1, p2]) rfl ⟨rfl, B2⟩
  by_cases h7 : op = 7
  · subst h7
    by_cases z : b = 0
    · subst z
      rw [show intsS 7 a 0 = (0, 0, e0, 1) from rfl]
      go_enter Tryd.func27, Tryd.ntmps27
      go_wp2
      exact bodyPost_ret (v := .tuple #[.agg #[.int .i64 0, .int .i64 0, .string e0], .int .i64 1]) (by simp [results, Tryd.results27, go_sem]) rfl ⟨rfl, B1⟩
    rw [show intsS 7 a b = (1, a.tmod b, e0, 0) by unfold intsS; simp [z, numS]]
    go_enter Tryd.func27, Tryd.ntmps27
    go_wp2_with fail
    refine (number_any (a.tmod b) _).mono ?_
    rintro e w1 ⟨rfl, hb⟩
    have m1 := (Box3.new w 0 0 e0 25).below hb (by simp)
    obtain ⟨⟨⟨q0, f0⟩, ⟨q1, f1⟩⟩, q2, f2⟩ := id m1
    have hB : Below w.heap.size w w1 := B1.trans (hb.mono B1.size)
    have B2 : Below w.heap.size w (put3 w1 w.heap.size (1) (a.tmod b) (e0)) := below_put3 hB (by omega) _ _ _
    have m2 := m1.put (1) (a.tmod b) (e0)
    go_wp2
    change bodyPost Tryd.prog _ _ _ _ (put3 w1 (w.heap.size) _ _ _)
    generalize put3 w1 (w.heap.size) (1) (a.tmod b) (e0) = X at B2 m2 ⊢
    obtain ⟨⟨⟨p0, -⟩, ⟨p1, -⟩⟩, p2, -⟩ := m2
    exact bodyPost_ret (v := .tuple #[.agg #[.int .i64 (1), .int .i64 (a.tmod b), .string (e0)], .int .i64 (0)]) (by simp [results, Tryd.results27, go_sem, p0, p1, p2]) rfl ⟨rfl, B2⟩
  rw [show intsS op a b = cmpS op (cmpI a b) by unfold intsS; rw [if_neg h3, if_neg h4, if_neg h5, if_neg h6, if_neg h7]]
  have c : ∀ W : World, Calls Tryd.prog 44 #[.int .i64 op, .int .i64 a, .int .i64 b] W fun e w' => e = .returned (.tuple #[.agg #[.int .i64 (cmpS op (cmpI a b)).1, .int .i64 (cmpS op (cmpI a b)).2.1, .string (cmpS op (cmpI a b)).2.2.1], .int .i64 (cmpS op (cmpI a b)).2.2.2]) ∧ Below W.heap.size W w' := comparedI_any op a b
  generalize cmpS op (cmpI a b) = r at c ⊢
  obtain ⟨K, N, S, T⟩ := r
  go_enter Tryd.func27, Tryd.ntmps27
  go_wp2_with fail
  refine (c _).mono ?_
  rintro e w1 ⟨rfl, hb⟩
  have m1 := (Box3.new w 0 0 e0 25).below hb (by simp)
  obtain ⟨⟨⟨q0, f0⟩, ⟨q1, f1⟩⟩, q2, f2⟩ := id m1
  have hB : Below w.heap.size w w1 := B1.trans (hb.mono B1.size)
  have B2 : Below w.heap.size w (put3 w1 w.heap.size (K) (N) (S)) := below_put3 hB (by omega) _ _ _
  have m2 := m1.put (K) (N) (S)
  go_wp2
  change bodyPost Tryd.prog _ _ _ _ (put3 w1 (w.heap.size) _ _ _)
  generalize put3 w1 (w.heap.size) (K) (N) (S) = X at B2 m2 ⊢
  obtain ⟨⟨⟨p0, -⟩, ⟨p1, -⟩⟩, p2, -⟩ := m2
  exact bodyPost_ret (v := .tuple #[.agg #[.int .i64 (K), .int .i64 (N), .string (S)], .int .i64 (T)]) (by simp [results, Tryd.results27, go_sem, p0, p1, p2]) rfl ⟨rfl, B2⟩

set_option maxRecDepth 100000 in
set_option maxHeartbeats 1000000 in
theorem ofTexts_any (op : Int) (a b : ByteArray) (w : World) (ha : a.size ≤ 256) (hb0 : b.size ≤ 256) : Calls Tryd.prog 28 #[.int .i64 op, .string a, .string b] w fun e w' => e = .returned (.tuple #[.agg #[.int .i64 (textsS op a b).1, .int .i64 (textsS op a b).2.1, .string (textsS op a b).2.2.1], .int .i64 (textsS op a b).2.2.2]) ∧ Below w.heap.size w w' := by
  have B1 : Below w.heap.size w (w.alloc (.cells #[.int .i64 0, .int .i64 0, .string e0] 25)) := (Below.refl _ w).alloc (Nat.le_refl _) _
  by_cases h3 : op = 3
  · subst h3
    have c : ∀ W : World, Calls Tryd.prog 45 #[.string a, .string b] W fun e w' => e = .returned (.tuple #[.agg #[.int .i64 (textsS 3 a b).1, .int .i64 (textsS 3 a b).2.1, .string (textsS 3 a b).2.2.1], .int .i64 (textsS 3 a b).2.2.2]) ∧ Below W.heap.size W w' := fun W => joined_any a b W ha hb0
    generalize textsS 3 a b = r at c ⊢
    obtain ⟨K, N, S, T⟩ := r
    go_enter Tryd.func28, Tryd.ntmps28
    go_wp2_with fail
    refine (c _).mono ?_
    rintro e w1 ⟨rfl, hb⟩
    have m1 := (Box3.new w 0 0 e0 25).below hb (by simp)
    obtain ⟨⟨⟨q0, f0⟩, ⟨q1, f1⟩⟩, q2, f2⟩ := id m1
    have hB : Below w.heap.size w w1 := B1.trans (hb.mono B1.size)
    have B2 : Below w.heap.size w (put3 w1 w.heap.size (K) (N) (S)) := below_put3 hB (by omega) _ _ _
    have m2 := m1.put (K) (N) (S)
    go_wp2
    change bodyPost Tryd.prog _ _ _ _ (put3 w1 (w.heap.size) _ _ _)
    generalize put3 w1 (w.heap.size) (K) (N) (S) = X at B2 m2 ⊢
    obtain ⟨⟨⟨p0, -⟩, ⟨p1, -⟩⟩, p2, -⟩ := m2
    exact bodyPost_ret (v := .tuple #[.agg #[.int .i64 (K), .int .i64 (N), .string (S)], .int .i64 (T)]) (by simp [results, Tryd.results28, go_sem, p0, p1, p2]) rfl ⟨rfl, B2⟩
  rw [show textsS op a b = cmpS op (cmpT a b) by unfold textsS; rw [if_neg h3]]
  have c : ∀ W : World, Calls Tryd.prog 46 #[.int .i64 op, .string a, .string b] W fun e w' => e = .returned (.tuple #[.agg #[.int .i64 (cmpS op (cmpT a b)).1, .int .i64 (cmpS op (cmpT a b)).2.1, .string (cmpS op (cmpT a b)).2.2.1], .int .i64 (cmpS op (cmpT a b)).2.2.2]) ∧ Below W.heap.size W w' := comparedT_any op a b
  generalize cmpS op (cmpT a b) = r at c ⊢
  obtain ⟨K, N, S, T⟩ := r
  go_enter Tryd.func28, Tryd.ntmps28
  go_wp2_with fail
  refine (c _).mono ?_
  rintro e w1 ⟨rfl, hb⟩
  have m1 := (Box3.new w 0 0 e0 25).below hb (by simp)
  obtain ⟨⟨⟨q0, f0⟩, ⟨q1, f1⟩⟩, q2, f2⟩ := id m1
  have hB : Below w.heap.size w w1 := B1.trans (hb.mono B1.size)
  have B2 : Below w.heap.size w (put3 w1 w.heap.size (K) (N) (S)) := below_put3 hB (by omega) _ _ _
  have m2 := m1.put (K) (N) (S)
  go_wp2
  change bodyPost Tryd.prog _ _ _ _ (put3 w1 (w.heap.size) _ _ _)
  generalize put3 w1 (w.heap.size) (K) (N) (S) = X at B2 m2 ⊢
  obtain ⟨⟨⟨p0, -⟩, ⟨p1, -⟩⟩, p2, -⟩ := m2
  exact bodyPost_ret (v := .tuple #[.agg #[.int .i64 (K), .int .i64 (N), .string (S)], .int .i64 (T)]) (by simp [results, Tryd.results28, go_sem, p0, p1, p2]) rfl ⟨rfl, B2⟩

set_option maxRecDepth 100000 in
set_option maxHeartbeats 1000000 in
theorem ofNames_any (op a b : Int) (w : World) : Calls Tryd.prog 29 #[.int .i64 op, .int .i64 a, .int .i64 b] w fun e w' => e = .returned (.tuple #[.agg #[.int .i64 (namesS op a b).1, .int .i64 (namesS op a b).2.1, .string (namesS op a b).2.2.1], .int .i64 (namesS op a b).2.2.2]) ∧ Below w.heap.size w w' := by
  have B1 : Below w.heap.size w (w.alloc (.cells #[.int .i64 0, .int .i64 0, .string e0] 25)) := (Below.refl _ w).alloc (Nat.le_refl _) _
  have c : ∀ W : World, Calls Tryd.prog 44 #[.int .i64 op, .int .i64 a, .int .i64 b] W fun e w' => e = .returned (.tuple #[.agg #[.int .i64 (cmpS op (cmpI a b)).1, .int .i64 (cmpS op (cmpI a b)).2.1, .string (cmpS op (cmpI a b)).2.2.1], .int .i64 (cmpS op (cmpI a b)).2.2.2]) ∧ Below W.heap.size W w' := comparedI_any op a b
  by_cases h8 : op = 8
  · subst h8
    rw [show namesS 8 a b = cmpS 8 (cmpI a b) from rfl]
    generalize cmpS 8 (cmpI a b) = r at c ⊢
    obtain ⟨K, N, S, T⟩ := r
    go_enter Tryd.func29, Tryd.ntmps29
    go_wp2_with fail
    refine (c _).mono ?_
    rintro e w1 ⟨rfl, hb⟩
    have m1 := (Box3.new w 0 0 e0 25).below hb (by simp)
    obtain ⟨⟨⟨q0, f0⟩, ⟨q1, f1⟩⟩, q2, f2⟩ := id m1
    have hB : Below w.heap.size w w1 := B1.trans (hb.mono B1.size)
    have B2 : Below w.heap.size w (put3 w1 w.heap.size (K) (N) (S)) := below_put3 hB (by omega) _ _ _
    have m2 := m1.put (K) (N) (S)
    go_wp2
    change bodyPost Tryd.prog _ _ _ _ (put3 w1 (w.heap.size) _ _ _)
    generalize put3 w1 (w.heap.size) (K) (N) (S) = X at B2 m2 ⊢
    obtain ⟨⟨⟨p0, -⟩, ⟨p1, -⟩⟩, p2, -⟩ := m2
    exact bodyPost_ret (v := .tuple #[.agg #[.int .i64 (K), .int .i64 (N), .string (S)], .int .i64 (T)]) (by simp [results, Tryd.results29, go_sem, p0, p1, p2]) rfl ⟨rfl, B2⟩
  by_cases h9 : op = 9
  · subst h9
    rw [show namesS 9 a b = cmpS 9 (cmpI a b) from rfl]
    generalize cmpS 9 (cmpI a b) = r at c ⊢
    obtain ⟨K, N, S, T⟩ := r
    go_enter Tryd.func29, Tryd.ntmps29
    go_wp2_with fail
    refine (c _).mono ?_
    rintro e w1 ⟨rfl, hb⟩
    have m1 := (Box3.new w 0 0 e0 25).below hb (by simp)
    obtain ⟨⟨⟨q0, f0⟩, ⟨q1, f1⟩⟩, q2, f2⟩ := id m1
    have hB : Below w.heap.size w w1 := B1.trans (hb.mono B1.size)
    have B2 : Below w.heap.size w (put3 w1 w.heap.size (K) (N) (S)) := below_put3 hB (by omega) _ _ _
    have m2 := m1.put (K) (N) (S)
    go_wp2
    change bodyPost Tryd.prog _ _ _ _ (put3 w1 (w.heap.size) _ _ _)
    generalize put3 w1 (w.heap.size) (K) (N) (S) = X at B2 m2 ⊢
    obtain ⟨⟨⟨p0, -⟩, ⟨p1, -⟩⟩, p2, -⟩ := m2
    exact bodyPost_ret (v := .tuple #[.agg #[.int .i64 (K), .int .i64 (N), .string (S)], .int .i64 (T)]) (by simp [results, Tryd.results29, go_sem, p0, p1, p2]) rfl ⟨rfl, B2⟩
  clear c
  rw [show namesS op a b = stuckS by unfold namesS; rw [if_neg (by simp [h8, h9])]]
  have e8 : (op == 8) = false := by simp [h8]
  have e9 : (op == 9) = false := by simp [h9]
  go_enter Tryd.func29, Tryd.ntmps29
  go_wp2
  exact bodyPost_ret (v := .tuple #[.agg #[.int .i64 0, .int .i64 0, .string e0], .int .i64 7]) (by simp [results, Tryd.results29, go_sem]) rfl ⟨rfl, B1⟩
end Go.Proofs.YtfghajokmmlijaaDoor
