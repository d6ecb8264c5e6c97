import Derived.Test.YtfghajokmmlijaaDoorCmp
import Derived.Test.YtfghajokmmlijaaDoorOfs
import Derived.Test.YtfghajokmmlijaaDoorOMath
namespace Go.Proofs.YtfghajokmmlijaaDoor
open Go.RowKit

set_option maxRecDepth 100000 in
set_option maxHeartbeats 1000000 in
theorem rvalid_any (k n : Int) (s : ByteArray) (w : World) (hs : s.size ≤ 9223372036854775807) : Calls Tryd.prog 15 #[.agg #[.int .i64 k, .int .i64 n, .string s]] w fun e w' => e = .returned (.bool (okV k n s)) ∧ Below w.heap.size w w' := by
  have B1 : Below w.heap.size w (w.alloc (.cells #[.int .i64 k, .int .i64 n, .string s] 25)) := (Below.refl _ w).alloc (Nat.le_refl _) _
  by_cases h0 : k = 0
  · subst h0
    rw [show okV 0 n s = (n == 0 && s.toList == []) from rfl]
    by_cases n0 : n = 0
    · subst n0
      go_enter Tryd.func15, Tryd.ntmps15
      go_wp2
      go_ret
      exact ⟨by simp, B1⟩
    · have nb : (n == 0) = false := by simp [n0]
      go_enter Tryd.func15, Tryd.ntmps15
      go_wp2
      go_ret
      exact ⟨by simp [n0], B1⟩
  by_cases h1 : k = 1
  · subst h1
    rw [show okV 1 n s = (s.toList == []) from rfl]
    go_enter Tryd.func15, Tryd.ntmps15
    go_wp2
    go_ret
    exact ⟨by simp, B1⟩
  by_cases h2 : k = 2
  · subst h2
    rw [show okV 2 n s = ((n == 0 || n == 1) && s.toList == []) from rfl]
    by_cases hs0 : s.toList = []
    · obtain rfl := eq_e0 hs0
      by_cases n0 : n = 0
      · subst n0
        go_enter Tryd.func15, Tryd.ntmps15
        go_wp2
        go_ret
        exact ⟨by simp, B1⟩
      · have nb : (n == 0) = false := by simp [n0]
        go_enter Tryd.func15, Tryd.ntmps15
        go_wp2
        go_ret
        exact ⟨by simp [n0], B1⟩
    · have sb : (s.toList == []) = false := by simp [hs0]
      have sb2 : s.toList.isEmpty = false := by simp [hs0]
      go_enter Tryd.func15, Tryd.ntmps15
      go_wp2
      go_ret
      exact ⟨by simp [hs0], B1⟩
  by_cases h3 : k = 3
  · subst h3
    rw [show okV 3 n s = (n == 0 && decide (s.size ≤ 256)) from rfl]
    by_cases n0 : n = 0
    · subst n0
      go_enter Tryd.func15, Tryd.ntmps15
      go_wp2
      go_ret
      exact ⟨by simp; omega, B1⟩
    · have nb : (n == 0) = false := by simp [n0]
      go_enter Tryd.func15, Tryd.ntmps15
      go_wp2
      go_ret
      exact ⟨by simp [n0], B1⟩
  by_cases h4 : k = 4
  · subst h4
    rw [show okV 4 n s = (decide (0 ≤ n) && s.toList == []) from rfl]
    by_cases hs0 : s.toList = []
    · obtain rfl := eq_e0 hs0
      go_enter Tryd.func15, Tryd.ntmps15
      go_wp2
      go_ret
      exact ⟨by simp, B1⟩
    · have sb : (s.toList == []) = false := by simp [hs0]
      have sb2 : s.toList.isEmpty = false := by simp [hs0]
      go_enter Tryd.func15, Tryd.ntmps15
      go_wp2
      go_ret
      exact ⟨by simp [hs0], B1⟩
  have hk : okV k n s = false := by unfold okV; rw [if_neg h0, if_neg h1, if_neg h2, if_neg h3, if_neg h4]
  rw [hk]
  go_enter Tryd.func15, Tryd.ntmps15
  go_wp2
  go_ret
  exact ⟨rfl, B1⟩

set_option maxHeartbeats 400000 in
theorem of_any (n : Int) (w : World) : Calls Tryd.prog 36 #[.int .i64 n] w fun e w' => e = .returned (.agg #[.int .i64 1, .int .i64 n, .string e0]) ∧ Below w.heap.size w w' := by
  go_enter Tryd.func36, Tryd.ntmps36
  go_wp2
  refine bodyPost_ret (v := .agg #[.int .i64 1, .int .i64 n, .string e0]) (by simp [results, Tryd.results36, go_sem]) rfl ⟨rfl, ?_⟩
  exact (Below.refl _ w).alloc (Nat.le_refl _) _

set_option maxHeartbeats 400000 in
theorem rtruth_any (b : Bool) (w : World) : Calls Tryd.prog 38 #[.bool b] w fun e w' => e = .returned (.agg #[.int .i64 2, .int .i64 (bit b), .string e0]) ∧ Below w.heap.size w w' := by
  cases b
  all_goals
    go_enter Tryd.func38, Tryd.ntmps38
    go_wp2
    refine bodyPost_ret (v := .agg #[.int .i64 2, _, .string e0]) (by simp [results, Tryd.results38, go_sem, bit]) rfl ⟨rfl, ?_⟩
    exact (Below.refl _ w).alloc (Nat.le_refl _) _

set_option maxRecDepth 100000 in
set_option maxHeartbeats 1000000 in
theorem operand_any (k n : Int) (s : ByteArray) (K : Int) (w : World) (hs : s.size ≤ 9223372036854775807) : Calls Tryd.prog 35 #[.agg #[.int .i64 k, .int .i64 n, .string s], .int .i64 K] w fun e w' => e = .returned (.bool (isS k n s K)) ∧ Below w.heap.size w w' := by
  have B1 : Below w.heap.size w (w.alloc (.cells #[.int .i64 k, .int .i64 n, .string s] 25)) := (Below.refl _ w).alloc (Nat.le_refl _) _
  unfold isS
  by_cases h : k = K
  · subst h
    rw [show (k == k && okV k n s) = okV k n s by simp]
    go_enter Tryd.func35, Tryd.ntmps35
    go_wp2_with fail
    refine (rvalid_any k n s _ hs).mono ?_
    rintro e w1 ⟨rfl, hb⟩
    go_wp2
    go_ret
    exact ⟨rfl, B1.trans (hb.mono B1.size)⟩
  · rw [show (k == K && okV k n s) = false by simp [h]]
    go_enter Tryd.func35, Tryd.ntmps35
    go_wp2
    go_ret
    exact ⟨rfl, B1⟩

set_option maxRecDepth 100000 in
set_option maxHeartbeats 1000000 in
theorem rzero_any (k : Int) (w : World) : Calls Tryd.prog 17 #[.int .i64 k] w fun e w' => e = .returned (.agg #[.int .i64 (if 0 ≤ k ∧ k ≤ 4 then k else 0), .int .i64 0, .string e0]) ∧ Below w.heap.size w w' := by
  by_cases h1 : k < 1
  · rw [show (if 0 ≤ k ∧ k ≤ 4 then k else 0) = 0 by split <;> omega]
    go_enter Tryd.func17, Tryd.ntmps17
    go_wp2
    refine bodyPost_ret (v := .agg #[.int .i64 0, .int .i64 0, .string e0]) (by simp [results, Tryd.results17, go_sem]) rfl ⟨rfl, ?_⟩
    exact (Below.refl _ w).alloc (Nat.le_refl _) _
  by_cases h2 : 4 < k
  · rw [show (if 0 ≤ k ∧ k ≤ 4 then k else 0) = 0 by split <;> omega]
    go_enter Tryd.func17, Tryd.ntmps17
    go_wp2
    refine bodyPost_ret (v := .agg #[.int .i64 0, .int .i64 0, .string e0]) (by simp [results, Tryd.results17, go_sem]) rfl ⟨rfl, ?_⟩
    exact (Below.refl _ w).alloc (Nat.le_refl _) _
  · rw [show (if 0 ≤ k ∧ k ≤ 4 then k else 0) = k by split <;> omega]
    go_enter Tryd.func17, Tryd.ntmps17
    go_wp2
    refine bodyPost_ret (v := .agg #[.int .i64 k, .int .i64 0, .string e0]) (by simp [results, Tryd.results17, go_sem]) rfl ⟨rfl, ?_⟩
    exact (Below.refl _ w).alloc (Nat.le_refl _) _

/-- The order that two answers tell. -/
def ordOf (less same : Bool) : Int := if less = true then -1 else if same = true then 0 else 1

set_option maxRecDepth 100000 in
set_option maxHeartbeats 1000000 in
theorem rcompared_any (op : Int) (less same : Bool) (w : World) (hls : less = true → same = false) : Calls Tryd.prog 31 #[.int .i64 op, .bool less, .bool same] w fun e w' =>
    e = .returned (.tuple #[.agg #[.int .i64 (cmpS op (ordOf less same)).1, .int .i64 (cmpS op (ordOf less same)).2.1, .string (cmpS op (ordOf less same)).2.2.1], .int .i64 (cmpS op (ordOf less same)).2.2.2]) ∧ Below w.heap.size w w' := by
  have B1 : Below w.heap.size w (w.alloc (.cells #[.int .i64 0, .int .i64 0, .string e0] 25)) := (Below.refl _ w).alloc (Nat.le_refl _) _
  by_cases h8 : op = 8
  · subst h8
    cases less with
    | true =>
      obtain rfl := hls rfl
      rw [show cmpS 8 (ordOf true false) = (2, 0, e0, 0) from rfl]
      go_enter Tryd.func31, Tryd.ntmps31
      go_wp2_with fail
      refine (rtruth_any false _).mono ?_
      rintro e w1 ⟨rfl, hb⟩
      rw [show bit false = 0 from rfl]
      have m1 := (Box3.new w 0 0 e0 25).below hb (by simp)
      obtain ⟨⟨⟨q0, f0⟩, ⟨q1, f1⟩⟩, q2, f2⟩ := id m1
      have B2 : Below w.heap.size w (put3 w1 w.heap.size 2 0 e0) := below_put3 (B1.trans (hb.mono B1.size)) (Nat.le_refl _) _ _ _
      have m2 := m1.put 2 0 e0
      go_wp2
      change bodyPost Tryd.prog _ _ _ _ (put3 w1 w.heap.size 2 0 e0)
      generalize put3 w1 w.heap.size 2 0 e0 = X at B2 m2 ⊢
      obtain ⟨⟨⟨p0, -⟩, ⟨p1, -⟩⟩, p2, -⟩ := m2
      exact bodyPost_ret (v := .tuple #[.agg #[.int .i64 2, .int .i64 0, .string e0], .int .i64 0]) (by simp [results, Tryd.results31, go_sem, p0, p1, p2]) rfl ⟨rfl, B2⟩
    | false =>
      cases same with
      | true =>
        rw [show cmpS 8 (ordOf false true) = (2, 1, e0, 0) from rfl]
        go_enter Tryd.func31, Tryd.ntmps31
        go_wp2_with fail
        refine (rtruth_any true _).mono ?_
        rintro e w1 ⟨rfl, hb⟩
        rw [show bit true = 1 from rfl]
        have m1 := (Box3.new w 0 0 e0 25).below hb (by simp)
        obtain ⟨⟨⟨q0, f0⟩, ⟨q1, f1⟩⟩, q2, f2⟩ := id m1
        have B2 : Below w.heap.size w (put3 w1 w.heap.size 2 1 e0) := below_put3 (B1.trans (hb.mono B1.size)) (Nat.le_refl _) _ _ _
        have m2 := m1.put 2 1 e0
        go_wp2
        change bodyPost Tryd.prog _ _ _ _ (put3 w1 w.heap.size 2 1 e0)
        generalize put3 w1 w.heap.size 2 1 e0 = X at B2 m2 ⊢
        obtain ⟨⟨⟨p0, -⟩, ⟨p1, -⟩⟩, p2, -⟩ := m2
        exact bodyPost_ret (v := .tuple #[.agg #[.int .i64 2, .int .i64 1, .string e0], .int .i64 0]) (by simp [results, Tryd.results31, go_sem, p0, p1, p2]) rfl ⟨rfl, B2⟩
      | false =>
        rw [show cmpS 8 (ordOf false false) = (2, 0, e0, 0) from rfl]
        go_enter Tryd.func31, Tryd.ntmps31
        go_wp2_with fail
        refine (rtruth_any false _).mono ?_
        rintro e w1 ⟨rfl, hb⟩
        rw [show bit false = 0 from rfl]
        have m1 := (Box3.new w 0 0 e0 25).below hb (by simp)
        obtain ⟨⟨⟨q0, f0⟩, ⟨q1, f1⟩⟩, q2, f2⟩ := id m1
        have B2 : Below w.heap.size w (put3 w1 w.heap.size 2 0 e0) := below_put3 (B1.trans (hb.mono B1.size)) (Nat.le_refl _) _ _ _
        have m2 := m1.put 2 0 e0
        go_wp2
        change bodyPost Tryd.prog _ _ _ _ (put3 w1 w.heap.size 2 0 e0)
        generalize put3 w1 w.heap.size 2 0 e0 = X at B2 m2 ⊢
        obtain ⟨⟨⟨p0, -⟩, ⟨p1, -⟩⟩, p2, -⟩ := m2
        exact bodyPost_ret (v := .tuple #[.agg #[.int .i64 2, .int .i64 0, .string e0], .int .i64 0]) (by simp [results, Tryd.results31, go_sem, p0, p1, p2]) rfl ⟨rfl, B2⟩
  by_cases h9 : op = 9
  · subst h9
    cases less with
    | true =>
      obtain rfl := hls rfl
      rw [show cmpS 9 (ordOf true false) = (2, 1, e0, 0) from rfl]
      go_enter Tryd.func31, Tryd.ntmps31
      go_wp2_with fail
      refine (rtruth_any true _).mono ?_
      rintro e w1 ⟨rfl, hb⟩
      rw [show bit true = 1 from rfl]
      have m1 := (Box3.new w 0 0 e0 25).below hb (by simp)
      obtain ⟨⟨⟨q0, f0⟩, ⟨q1, f1⟩⟩, q2, f2⟩ := id m1
      have B2 : Below w.heap.size w (put3 w1 w.heap.size 2 1 e0) := below_put3 (B1.trans (hb.mono B1.size)) (Nat.le_refl _) _ _ _
      have m2 := m1.put 2 1 e0
      go_wp2
      change bodyPost Tryd.prog _ _ _ _ (put3 w1 w.heap.size 2 1 e0)
      generalize put3 w1 w.heap.size 2 1 e0 = X at B2 m2 ⊢
      obtain ⟨⟨⟨p0, -⟩, ⟨p1, -⟩⟩, p2, -⟩ := m2
      exact bodyPost_ret (v := .tuple #[.agg #[.int .i64 2, .int .i64 1, .string e0], .int .i64 0]) (by simp [results, Tryd.results31, go_sem, p0, p1, p2]) rfl ⟨rfl, B2⟩
    | false =>
      cases same with
      | true =>
        rw [show cmpS 9 (ordOf false true) = (2, 0, e0, 0) from rfl]
        go_enter Tryd.func31, Tryd.ntmps31
        go_wp2_with fail
        refine (rtruth_any false _).mono ?_
        rintro e w1 ⟨rfl, hb⟩
        rw [show bit false = 0 from rfl]
        have m1 := (Box3.new w 0 0 e0 25).below hb (by simp)
        obtain ⟨⟨⟨q0, f0⟩, ⟨q1, f1⟩⟩, q2, f2⟩ := id m1
        have B2 : Below w.heap.size w (put3 w1 w.heap.size 2 0 e0) := below_put3 (B1.trans (hb.mono B1.size)) (Nat.le_refl _) _ _ _
        have m2 := m1.put 2 0 e0
        go_wp2
        change bodyPost Tryd.prog _ _ _ _ (put3 w1 w.heap.size 2 0 e0)
        generalize put3 w1 w.heap.size 2 0 e0 = X at B2 m2 ⊢
        obtain ⟨⟨⟨p0, -⟩, ⟨p1, -⟩⟩, p2, -⟩ := m2
        exact bodyPost_ret (v := .tuple #[.agg #[.int .i64 2, .int .i64 0, .string e0], .int .i64 0]) (by simp [results, Tryd.results31, go_sem, p0, p1, p2]) rfl ⟨rfl, B2⟩
      | false =>
        rw [show cmpS 9 (ordOf false false) = (2, 1, e0, 0) from rfl]
        go_enter Tryd.func31, Tryd.ntmps31
        go_wp2_with fail
        refine (rtruth_any true _).mono ?_
        rintro e w1 ⟨rfl, hb⟩
        rw [show bit true = 1 from rfl]
        have m1 := (Box3.new w 0 0 e0 25).below hb (by simp)
        obtain ⟨⟨⟨q0, f0⟩, ⟨q1, f1⟩⟩, q2, f2⟩ := id m1
        have B2 : Below w.heap.size w (put3 w1 w.heap.size 2 1 e0) := below_put3 (B1.trans (hb.mono B1.size)) (Nat.le_refl _) _ _ _
        have m2 := m1.put 2 1 e0
        go_wp2
        change bodyPost Tryd.prog _ _ _ _ (put3 w1 w.heap.size 2 1 e0)
        generalize put3 w1 w.heap.size 2 1 e0 = X at B2 m2 ⊢
        obtain ⟨⟨⟨p0, -⟩, ⟨p1, -⟩⟩, p2, -⟩ := m2
        exact bodyPost_ret (v := .tuple #[.agg #[.int .i64 2, .int .i64 1, .string e0], .int .i64 0]) (by simp [results, Tryd.results31, go_sem, p0, p1, p2]) rfl ⟨rfl, B2⟩
  by_cases h10 : op = 10
  · subst h10
    cases less with
    | true =>
      obtain rfl := hls rfl
      rw [show cmpS 10 (ordOf true false) = (2, 1, e0, 0) from rfl]
      go_enter Tryd.func31, Tryd.ntmps31
      go_wp2_with fail
      refine (rtruth_any true _).mono ?_
      rintro e w1 ⟨rfl, hb⟩
      rw [show bit true = 1 from rfl]
      have m1 := (Box3.new w 0 0 e0 25).below hb (by simp)
      obtain ⟨⟨⟨q0, f0⟩, ⟨q1, f1⟩⟩, q2, f2⟩ := id m1
      have B2 : Below w.heap.size w (put3 w1 w.heap.size 2 1 e0) := below_put3 (B1.trans (hb.mono B1.size)) (Nat.le_refl _) _ _ _
      have m2 := m1.put 2 1 e0
      go_wp2
      change bodyPost Tryd.prog _ _ _ _ (put3 w1 w.heap.size 2 1 e0)
      generalize put3 w1 w.heap.size 2 1 e0 = X at B2 m2 ⊢
      obtain ⟨⟨⟨p0, -⟩, ⟨p1, -⟩⟩, p2, -⟩ := m2
      exact bodyPost_ret (v := .tuple #[.agg #[.int .i64 2, .int .i64 1, .string e0], .int .i64 0]) (by simp [results, Tryd.results31, go_sem, p0, p1, p2]) rfl ⟨rfl, B2⟩
    | false =>
      cases same with
      | true =>
        rw [show cmpS 10 (ordOf false true) = (2, 0, e0, 0) from rfl]
        go_enter Tryd.func31, Tryd.ntmps31
        go_wp2_with fail
        refine (rtruth_any false _).mono ?_
        rintro e w1 ⟨rfl, hb⟩
        rw [show bit false = 0 from rfl]
        have m1 := (Box3.new w 0 0 e0 25).below hb (by simp)
        obtain ⟨⟨⟨q0, f0⟩, ⟨q1, f1⟩⟩, q2, f2⟩ := id m1
        have B2 : Below w.heap.size w (put3 w1 w.heap.size 2 0 e0) := below_put3 (B1.trans (hb.mono B1.size)) (Nat.le_refl _) _ _ _
        have m2 := m1.put 2 0 e0
        go_wp2
        change bodyPost Tryd.prog _ _ _ _ (put3 w1 w.heap.size 2 0 e0)
        generalize put3 w1 w.heap.size 2 0 e0 = X at B2 m2 ⊢
        obtain ⟨⟨⟨p0, -⟩, ⟨p1, -⟩⟩, p2, -⟩ := m2
        exact bodyPost_ret (v := .tuple #[.agg #[.int .i64 2, .int .i64 0, .string e0], .int .i64 0]) (by simp [results, Tryd.results31, go_sem, p0, p1, p2]) rfl ⟨rfl, B2⟩
      | false =>
        rw [show cmpS 10 (ordOf false false) = (2, 0, e0, 0) from rfl]
        go_enter Tryd.func31, Tryd.ntmps31
        go_wp2_with fail
        refine (rtruth_any false _).mono ?_
        rintro e w1 ⟨rfl, hb⟩
        rw [show bit false = 0 from rfl]
        have m1 := (Box3.new w 0 0 e0 25).below hb (by simp)
        obtain ⟨⟨⟨q0, f0⟩, ⟨q1, f1⟩⟩, q2, f2⟩ := id m1
        have B2 : Below w.heap.size w (put3 w1 w.heap.size 2 0 e0) := below_put3 (B1.trans (hb.mono B1.size)) (Nat.le_refl _) _ _ _
        have m2 := m1.put 2 0 e0
        go_wp2
        change bodyPost Tryd.prog _ _ _ _ (put3 w1 w.heap.size 2 0 e0)
        generalize put3 w1 w.heap.size 2 0 e0 = X at B2 m2 ⊢
        obtain ⟨⟨⟨p0, -⟩, ⟨p1, -⟩⟩, p2, -⟩ := m2
        exact bodyPost_ret (v := .tuple #[.agg #[.int .i64 2, .int .i64 0, .string e0], .int .i64 0]) (by simp [results, Tryd.results31, go_sem, p0, p1, p2]) rfl ⟨rfl, B2⟩
  by_cases h11 : op = 11
  · subst h11
    cases less with
    | true =>
      obtain rfl := hls rfl
      rw [show cmpS 11 (ordOf true false) = (2, 1, e0, 0) from rfl]
      go_enter Tryd.func31, Tryd.ntmps31
      go_wp2_with fail
      refine (rtruth_any true _).mono ?_
      rintro e w1 ⟨rfl, hb⟩
      rw [show bit true = 1 from rfl]
      have m1 := (Box3.new w 0 0 e0 25).below hb (by simp)
      obtain ⟨⟨⟨q0, f0⟩, ⟨q1, f1⟩⟩, q2, f2⟩ := id m1
      have B2 : Below w.heap.size w (put3 w1 w.heap.size 2 1 e0) := below_put3 (B1.trans (hb.mono B1.size)) (Nat.le_refl _) _ _ _
      have m2 := m1.put 2 1 e0
      go_wp2
      change bodyPost Tryd.prog _ _ _ _ (put3 w1 w.heap.size 2 1 e0)
      generalize put3 w1 w.heap.size 2 1 e0 = X at B2 m2 ⊢
      obtain ⟨⟨⟨p0, -⟩, ⟨p1, -⟩⟩, p2, -⟩ := m2
      exact bodyPost_ret (v := .tuple #[.agg #[.int .i64 2, .int .i64 1, .string e0], .int .i64 0]) (by simp [results, Tryd.results31, go_sem, p0, p1, p2]) rfl ⟨rfl, B2⟩
    | false =>
      cases same with
      | true =>
        rw [show cmpS 11 (ordOf false true) = (2, 1, e0, 0) from rfl]
        go_enter Tryd.func31, Tryd.ntmps31
        go_wp2_with fail
        refine (rtruth_any true _).mono ?_
        rintro e w1 ⟨rfl, hb⟩
        rw [show bit true = 1 from rfl]
        have m1 := (Box3.new w 0 0 e0 25).below hb (by simp)
        obtain ⟨⟨⟨q0, f0⟩, ⟨q1, f1⟩⟩, q2, f2⟩ := id m1
        have B2 : Below w.heap.size w (put3 w1 w.heap.size 2 1 e0) := below_put3 (B1.trans (hb.mono B1.size)) (Nat.le_refl _) _ _ _
        have m2 := m1.put 2 1 e0
        go_wp2
        change bodyPost Tryd.prog _ _ _ _ (put3 w1 w.heap.size 2 1 e0)
        generalize put3 w1 w.heap.size 2 1 e0 = X at B2 m2 ⊢
        obtain ⟨⟨⟨p0, -⟩, ⟨p1, -⟩⟩, p2, -⟩ := m2
        exact bodyPost_ret (v := .tuple #[.agg #[.int .i64 2, .int .i64 1, .string e0], .int .i64 0]) (by simp [results, Tryd.results31, go_sem, p0, p1, p2]) rfl ⟨rfl, B2⟩
      | false =>
        rw [show cmpS 11 (ordOf false false) = (2, 0, e0, 0) from rfl]
        go_enter Tryd.func31, Tryd.ntmps31
        go_wp2_with fail
        refine (rtruth_any false _).mono ?_
        rintro e w1 ⟨rfl, hb⟩
        rw [show bit false = 0 from rfl]
        have m1 := (Box3.new w 0 0 e0 25).below hb (by simp)
        obtain ⟨⟨⟨q0, f0⟩, ⟨q1, f1⟩⟩, q2, f2⟩ := id m1
        have B2 : Below w.heap.size w (put3 w1 w.heap.size 2 0 e0) := below_put3 (B1.trans (hb.mono B1.size)) (Nat.le_refl _) _ _ _
        have m2 := m1.put 2 0 e0
        go_wp2
        change bodyPost Tryd.prog _ _ _ _ (put3 w1 w.heap.size 2 0 e0)
        generalize put3 w1 w.heap.size 2 0 e0 = X at B2 m2 ⊢
        obtain ⟨⟨⟨p0, -⟩, ⟨p1, -⟩⟩, p2, -⟩ := m2
        exact bodyPost_ret (v := .tuple #[.agg #[.int .i64 2, .int .i64 0, .string e0], .int .i64 0]) (by simp [results, Tryd.results31, go_sem, p0, p1, p2]) rfl ⟨rfl, B2⟩
  by_cases h12 : op = 12
  · subst h12
    cases less with
    | true =>
      obtain rfl := hls rfl
      rw [show cmpS 12 (ordOf true false) = (2, 0, e0, 0) from rfl]
      go_enter Tryd.func31, Tryd.ntmps31
      go_wp2_with fail
      refine (rtruth_any false _).mono ?_
      rintro e w1 ⟨rfl, hb⟩
      rw [show bit false = 0 from rfl]
      have m1 := (Box3.new w 0 0 e0 25).below hb (by simp)
      obtain ⟨⟨⟨q0, f0⟩, ⟨q1, f1⟩⟩, q2, f2⟩ := id m1
      have B2 : Below w.heap.size w (put3 w1 w.heap.size 2 0 e0) := below_put3 (B1.trans (hb.mono B1.size)) (Nat.le_refl _) _ _ _
      have m2 := m1.put 2 0 e0
      go_wp2
      change bodyPost Tryd.prog _ _ _ _ (put3 w1 w.heap.size 2 0 e0)
      generalize put3 w1 w.heap.size 2 0 e0 = X at B2 m2 ⊢
      obtain ⟨⟨⟨p0, -⟩, ⟨p1, -⟩⟩, p2, -⟩ := m2
      exact bodyPost_ret (v := .tuple #[.agg #[.int .i64 2, .int .i64 0, .string e0], .int .i64 0]) (by simp [results, Tryd.results31, go_sem, p0, p1, p2]) rfl ⟨rfl, B2⟩
    | false =>
      cases same with
      | true =>
        rw [show cmpS 12 (ordOf false true) = (2, 0, e0, 0) from rfl]
        go_enter Tryd.func31, Tryd.ntmps31
        go_wp2_with fail
        refine (rtruth_any false _).mono ?_
        rintro e w1 ⟨rfl, hb⟩
        rw [show bit false = 0 from rfl]
        have m1 := (Box3.new w 0 0 e0 25).below hb (by simp)
        obtain ⟨⟨⟨q0, f0⟩, ⟨q1, f1⟩⟩, q2, f2⟩ := id m1
        have B2 : Below w.heap.size w (put3 w1 w.heap.size 2 0 e0) := below_put3 (B1.trans (hb.mono B1.size)) (Nat.le_refl _) _ _ _
        have m2 := m1.put 2 0 e0
        go_wp2
        change bodyPost Tryd.prog _ _ _ _ (put3 w1 w.heap.size 2 0 e0)
        generalize put3 w1 w.heap.size 2 0 e0 = X at B2 m2 ⊢
        obtain ⟨⟨⟨p0, -⟩, ⟨p1, -⟩⟩, p2, -⟩ := m2
        exact bodyPost_ret (v := .tuple #[.agg #[.int .i64 2, .int .i64 0, .string e0], .int .i64 0]) (by simp [results, Tryd.results31, go_sem, p0, p1, p2]) rfl ⟨rfl, B2⟩
      | false =>
        rw [show cmpS 12 (ordOf false false) = (2, 1, e0, 0) from rfl]
        go_enter Tryd.func31, Tryd.ntmps31
        go_wp2_with fail
        refine (rtruth_any true _).mono ?_
        rintro e w1 ⟨rfl, hb⟩
        rw [show bit true = 1 from rfl]
        have m1 := (Box3.new w 0 0 e0 25).below hb (by simp)
        obtain ⟨⟨⟨q0, f0⟩, ⟨q1, f1⟩⟩, q2, f2⟩ := id m1
        have B2 : Below w.heap.size w (put3 w1 w.heap.size 2 1 e0) := below_put3 (B1.trans (hb.mono B1.size)) (Nat.le_refl _) _ _ _
        have m2 := m1.put 2 1 e0
        go_wp2
        change bodyPost Tryd.prog _ _ _ _ (put3 w1 w.heap.size 2 1 e0)
        generalize put3 w1 w.heap.size 2 1 e0 = X at B2 m2 ⊢
        obtain ⟨⟨⟨p0, -⟩, ⟨p1, -⟩⟩, p2, -⟩ := m2
        exact bodyPost_ret (v := .tuple #[.agg #[.int .i64 2, .int .i64 1, .string e0], .int .i64 0]) (by simp [results, Tryd.results31, go_sem, p0, p1, p2]) rfl ⟨rfl, B2⟩
  by_cases h13 : op = 13
  · subst h13
    cases less with
    | true =>
      obtain rfl := hls rfl
      rw [show cmpS 13 (ordOf true false) = (2, 0, e0, 0) from rfl]
      go_enter Tryd.func31, Tryd.ntmps31
      go_wp2_with fail
      refine (rtruth_any false _).mono ?_
      rintro e w1 ⟨rfl, hb⟩
      rw [show bit false = 0 from rfl]
      have m1 := (Box3.new w 0 0 e0 25).below hb (by simp)
      obtain ⟨⟨⟨q0, f0⟩, ⟨q1, f1⟩⟩, q2, f2⟩ := id m1
      have B2 : Below w.heap.size w (put3 w1 w.heap.size 2 0 e0) := below_put3 (B1.trans (hb.mono B1.size)) (Nat.le_refl _) _ _ _
      have m2 := m1.put 2 0 e0
      go_wp2
      change bodyPost Tryd.prog _ _ _ _ (put3 w1 w.heap.size 2 0 e0)
      generalize put3 w1 w.heap.size 2 0 e0 = X at B2 m2 ⊢
      obtain ⟨⟨⟨p0, -⟩, ⟨p1, -⟩⟩, p2, -⟩ := m2
      exact bodyPost_ret (v := .tuple #[.agg #[.int .i64 2, .int .i64 0, .string e0], .int .i64 0]) (by simp [results, Tryd.results31, go_sem, p0, p1, p2]) rfl ⟨rfl, B2⟩
    | false =>
      cases same with
      | true =>
        rw [show cmpS 13 (ordOf false true) = (2, 1, e0, 0) from rfl]
        go_enter Tryd.func31, Tryd.ntmps31
        go_wp2_with fail
        refine (rtruth_any true _).mono ?_
        rintro e w1 ⟨rfl, hb⟩
        rw [show bit true = 1 from rfl]
        have m1 := (Box3.new w 0 0 e0 25).below hb (by simp)
        obtain ⟨⟨⟨q0, f0⟩, ⟨q1, f1⟩⟩, q2, f2⟩ := id m1
        have B2 : Below w.heap.size w (put3 w1 w.heap.size 2 1 e0) := below_put3 (B1.trans (hb.mono B1.size)) (Nat.le_refl _) _ _ _
        have m2 := m1.put 2 1 e0
        go_wp2
        change bodyPost Tryd.prog _ _ _ _ (put3 w1 w.heap.size 2 1 e0)
        generalize put3 w1 w.heap.size 2 1 e0 = X at B2 m2 ⊢
        obtain ⟨⟨⟨p0, -⟩, ⟨p1, -⟩⟩, p2, -⟩ := m2
        exact bodyPost_ret (v := .tuple #[.agg #[.int .i64 2, .int .i64 1, .string e0], .int .i64 0]) (by simp [results, Tryd.results31, go_sem, p0, p1, p2]) rfl ⟨rfl, B2⟩
      | false =>
        rw [show cmpS 13 (ordOf false false) = (2, 1, e0, 0) from rfl]
        go_enter Tryd.func31, Tryd.ntmps31
        go_wp2_with fail
        refine (rtruth_any true _).mono ?_
        rintro e w1 ⟨rfl, hb⟩
        rw [show bit true = 1 from rfl]
        have m1 := (Box3.new w 0 0 e0 25).below hb (by simp)
        obtain ⟨⟨⟨q0, f0⟩, ⟨q1, f1⟩⟩, q2, f2⟩ := id m1
        have B2 : Below w.heap.size w (put3 w1 w.heap.size 2 1 e0) := below_put3 (B1.trans (hb.mono B1.size)) (Nat.le_refl _) _ _ _
        have m2 := m1.put 2 1 e0
        go_wp2
        change bodyPost Tryd.prog _ _ _ _ (put3 w1 w.heap.size 2 1 e0)
        generalize put3 w1 w.heap.size 2 1 e0 = X at B2 m2 ⊢
        obtain ⟨⟨⟨p0, -⟩, ⟨p1, -⟩⟩, p2, -⟩ := m2
        exact bodyPost_ret (v := .tuple #[.agg #[.int .i64 2, .int .i64 1, .string e0], .int .i64 0]) (by simp [results, Tryd.results31, go_sem, p0, p1, p2]) rfl ⟨rfl, B2⟩
  rw [show cmpS op (ordOf less same) = stuckS by unfold cmpS; rw [if_neg h8, if_neg h9, if_neg h10, if_neg h11, if_neg h12, if_neg h13]]
  go_enter Tryd.func31, Tryd.ntmps31
  go_wp2
  exact bodyPost_ret (v := .tuple #[.agg #[.int .i64 0, .int .i64 0, .string e0], .int .i64 7]) (by simp [results, Tryd.results31, go_sem]) rfl ⟨rfl, B1⟩
end Go.Proofs.YtfghajokmmlijaaDoor
