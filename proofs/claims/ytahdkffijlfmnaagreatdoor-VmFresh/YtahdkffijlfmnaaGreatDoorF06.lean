import Derived.Test.YtahdkffijlfmnaaGreatDoorF05
namespace Go.Proofs.YtahdkffijlfmnaaGreatDoor.Hp
open Go.RowKit

set_option maxRecDepth 100000 in
set_option maxHeartbeats 1000000 in
theorem comparedI_any (op : Int) (a b : Int) (w : World) : Calls Tryz.prog 137 #[.int .i64 op, .int .i64 a, .int .i64 b] w fun e w' =>
    e = .returned (.tuple #[.agg #[.int .i64 (cmpS op (cmpI a b)).1, .int .i64 (cmpS op (cmpI a b)).2.1, .string (cmpS op (cmpI a b)).2.2.1], .int .i64 (cmpS op (cmpI a b)).2.2.2]) ∧ Below w.heap.size w w' := by
  have c0 : ∀ W : World, Calls Tryz.prog 142 #[.int .i64 a, .int .i64 b] W fun e w' => e = .returned (.int .i64 (cmpI a b)) ∧ w' = W := cmpI_any a b
  generalize cmpI a b = o at c0 ⊢
  have C0 : Hid (∀ W : World, Calls Tryz.prog 142 #[.int .i64 a, .int .i64 b] W fun e w' => e = .returned (.int .i64 o) ∧ w' = W) := c0
  clear c0
  have B1 : Below w.heap.size w (w.alloc (.cells #[.int .i64 0, .int .i64 0, .string e0] 52)) := (Below.refl _ w).alloc (Nat.le_refl _) _
  by_cases h8 : op = 8
  · subst h8
    rw [show cmpS 8 o = (2, bit (o == 0), e0, 0) from rfl]
    go_enter Tryz.func137, Tryz.ntmps137
    go_wp2_with (go_at_call 142; refine (C0.out _).mono ?_; rintro e _ ⟨rfl, rfl⟩)
    refine (truth_any _ _).mono ?_
    rintro e w1 ⟨rfl, hb⟩
    have m1 := (Box3.new w 0 0 e0 52).below hb (by simp)
    obtain ⟨⟨⟨q0, f0⟩, ⟨q1, f1⟩⟩, q2, f2⟩ := id m1
    have B2 : Below w.heap.size w (put3 w1 w.heap.size 2 (bit (o == 0)) e0) := below_put3 (B1.trans (hb.mono B1.size)) (Nat.le_refl _) _ _ _
    have m2 := m1.put 2 (bit (o == 0)) e0
    go_wp2
    change bodyPost Tryz.prog _ _ _ _ (put3 w1 w.heap.size 2 _ e0)
    generalize put3 w1 w.heap.size 2 (bit (o == 0)) e0 = X at B2 m2 ⊢
    obtain ⟨⟨⟨p0, -⟩, ⟨p1, -⟩⟩, p2, -⟩ := m2
    exact bodyPost_ret (v := .tuple #[.agg #[.int .i64 2, .int .i64 (bit (o == 0)), .string e0], .int .i64 0]) (by simp [results, Tryz.results137, go_sem, p0, p1, p2]) rfl ⟨rfl, B2⟩
  by_cases h9 : op = 9
  · subst h9
    rw [show cmpS 9 o = (2, bit (o != 0), e0, 0) from rfl]
    go_enter Tryz.func137, Tryz.ntmps137
    go_wp2_with (go_at_call 142; refine (C0.out _).mono ?_; rintro e _ ⟨rfl, rfl⟩)
    refine (truth_any _ _).mono ?_
    rintro e w1 ⟨rfl, hb⟩
    have m1 := (Box3.new w 0 0 e0 52).below hb (by simp)
    obtain ⟨⟨⟨q0, f0⟩, ⟨q1, f1⟩⟩, q2, f2⟩ := id m1
    have B2 : Below w.heap.size w (put3 w1 w.heap.size 2 (bit (o != 0)) e0) := below_put3 (B1.trans (hb.mono B1.size)) (Nat.le_refl _) _ _ _
    have m2 := m1.put 2 (bit (o != 0)) e0
    go_wp2
    change bodyPost Tryz.prog _ _ _ _ (put3 w1 w.heap.size 2 _ e0)
    generalize put3 w1 w.heap.size 2 (bit (o != 0)) e0 = X at B2 m2 ⊢
    obtain ⟨⟨⟨p0, -⟩, ⟨p1, -⟩⟩, p2, -⟩ := m2
    exact bodyPost_ret (v := .tuple #[.agg #[.int .i64 2, .int .i64 (bit (o != 0)), .string e0], .int .i64 0]) (by simp [results, Tryz.results137, go_sem, p0, p1, p2]) rfl ⟨rfl, B2⟩
  by_cases h10 : op = 10
  · subst h10
    rw [show cmpS 10 o = (2, bit (decide (o < 0)), e0, 0) from rfl]
    go_enter Tryz.func137, Tryz.ntmps137
    go_wp2_with (go_at_call 142; refine (C0.out _).mono ?_; rintro e _ ⟨rfl, rfl⟩)
    refine (truth_any _ _).mono ?_
    rintro e w1 ⟨rfl, hb⟩
    have m1 := (Box3.new w 0 0 e0 52).below hb (by simp)
    obtain ⟨⟨⟨q0, f0⟩, ⟨q1, f1⟩⟩, q2, f2⟩ := id m1
    have B2 : Below w.heap.size w (put3 w1 w.heap.size 2 (bit (decide (o < 0))) e0) := below_put3 (B1.trans (hb.mono B1.size)) (Nat.le_refl _) _ _ _
    have m2 := m1.put 2 (bit (decide (o < 0))) e0
    go_wp2
    change bodyPost Tryz.prog _ _ _ _ (put3 w1 w.heap.size 2 _ e0)
    generalize put3 w1 w.heap.size 2 (bit (decide (o < 0))) e0 = X at B2 m2 ⊢
    obtain ⟨⟨⟨p0, -⟩, ⟨p1, -⟩⟩, p2, -⟩ := m2
    exact bodyPost_ret (v := .tuple #[.agg #[.int .i64 2, .int .i64 (bit (decide (o < 0))), .string e0], .int .i64 0]) (by simp [results, Tryz.results137, go_sem, p0, p1, p2]) rfl ⟨rfl, B2⟩
  by_cases h11 : op = 11
  · subst h11
    rw [show cmpS 11 o = (2, bit (decide (o ≤ 0)), e0, 0) from rfl]
    go_enter Tryz.func137, Tryz.ntmps137
    go_wp2_with (go_at_call 142; refine (C0.out _).mono ?_; rintro e _ ⟨rfl, rfl⟩)
    refine (truth_any _ _).mono ?_
    rintro e w1 ⟨rfl, hb⟩
    have m1 := (Box3.new w 0 0 e0 52).below hb (by simp)
    obtain ⟨⟨⟨q0, f0⟩, ⟨q1, f1⟩⟩, q2, f2⟩ := id m1
    have B2 : Below w.heap.size w (put3 w1 w.heap.size 2 (bit (decide (o ≤ 0))) e0) := below_put3 (B1.trans (hb.mono B1.size)) (Nat.le_refl _) _ _ _
    have m2 := m1.put 2 (bit (decide (o ≤ 0))) e0
    go_wp2
    change bodyPost Tryz.prog _ _ _ _ (put3 w1 w.heap.size 2 _ e0)
    generalize put3 w1 w.heap.size 2 (bit (decide (o ≤ 0))) e0 = X at B2 m2 ⊢
    obtain ⟨⟨⟨p0, -⟩, ⟨p1, -⟩⟩, p2, -⟩ := m2
    exact bodyPost_ret (v := .tuple #[.agg #[.int .i64 2, .int .i64 (bit (decide (o ≤ 0))), .string e0], .int .i64 0]) (by simp [results, Tryz.results137, go_sem, p0, p1, p2]) rfl ⟨rfl, B2⟩
  by_cases h12 : op = 12
  · subst h12
    rw [show cmpS 12 o = (2, bit (decide (0 < o)), e0, 0) from rfl]
    go_enter Tryz.func137, Tryz.ntmps137
    go_wp2_with (go_at_call 142; refine (C0.out _).mono ?_; rintro e _ ⟨rfl, rfl⟩)
    refine (truth_any _ _).mono ?_
    rintro e w1 ⟨rfl, hb⟩
    have m1 := (Box3.new w 0 0 e0 52).below hb (by simp)
    obtain ⟨⟨⟨q0, f0⟩, ⟨q1, f1⟩⟩, q2, f2⟩ := id m1
    have B2 : Below w.heap.size w (put3 w1 w.heap.size 2 (bit (decide (0 < o))) e0) := below_put3 (B1.trans (hb.mono B1.size)) (Nat.le_refl _) _ _ _
    have m2 := m1.put 2 (bit (decide (0 < o))) e0
    go_wp2
    change bodyPost Tryz.prog _ _ _ _ (put3 w1 w.heap.size 2 _ e0)
    generalize put3 w1 w.heap.size 2 (bit (decide (0 < o))) e0 = X at B2 m2 ⊢
    obtain ⟨⟨⟨p0, -⟩, ⟨p1, -⟩⟩, p2, -⟩ := m2
    exact bodyPost_ret (v := .tuple #[.agg #[.int .i64 2, .int .i64 (bit (decide (0 < o))), .string e0], .int .i64 0]) (by simp [results, Tryz.results137, go_sem, p0, p1, p2]) rfl ⟨rfl, B2⟩
  by_cases h13 : op = 13
  · subst h13
    rw [show cmpS 13 o = (2, bit (decide (0 ≤ o)), e0, 0) from rfl]
    go_enter Tryz.func137, Tryz.ntmps137
    go_wp2_with (go_at_call 142; refine (C0.out _).mono ?_; rintro e _ ⟨rfl, rfl⟩)
    refine (truth_any _ _).mono ?_
    rintro e w1 ⟨rfl, hb⟩
    have m1 := (Box3.new w 0 0 e0 52).below hb (by simp)
    obtain ⟨⟨⟨q0, f0⟩, ⟨q1, f1⟩⟩, q2, f2⟩ := id m1
    have B2 : Below w.heap.size w (put3 w1 w.heap.size 2 (bit (decide (0 ≤ o))) e0) := below_put3 (B1.trans (hb.mono B1.size)) (Nat.le_refl _) _ _ _
    have m2 := m1.put 2 (bit (decide (0 ≤ o))) e0
    go_wp2
    change bodyPost Tryz.prog _ _ _ _ (put3 w1 w.heap.size 2 _ e0)
    generalize put3 w1 w.heap.size 2 (bit (decide (0 ≤ o))) e0 = X at B2 m2 ⊢
    obtain ⟨⟨⟨p0, -⟩, ⟨p1, -⟩⟩, p2, -⟩ := m2
    exact bodyPost_ret (v := .tuple #[.agg #[.int .i64 2, .int .i64 (bit (decide (0 ≤ o))), .string e0], .int .i64 0]) (by simp [results, Tryz.results137, go_sem, p0, p1, p2]) rfl ⟨rfl, B2⟩
  rw [show cmpS op o = stuckS by unfold cmpS; rw [if_neg h8, if_neg h9, if_neg h10, if_neg h11, if_neg h12, if_neg h13]]
  go_enter Tryz.func137, Tryz.ntmps137
  go_wp2_with (go_at_call 142; refine (C0.out _).mono ?_; rintro e _ ⟨rfl, rfl⟩)
  exact bodyPost_ret (v := .tuple #[.agg #[.int .i64 0, .int .i64 0, .string e0], .int .i64 7]) (by simp [results, Tryz.results137, go_sem]) rfl ⟨rfl, B1⟩

set_option maxRecDepth 100000 in
set_option maxHeartbeats 1000000 in
theorem comparedT_any (op : Int) (a b : ByteArray) (w : World) : Calls Tryz.prog 139 #[.int .i64 op, .string a, .string b] w fun e w' =>
    e = .returned (.tuple #[.agg #[.int .i64 (cmpS op (cmpT a b)).1, .int .i64 (cmpS op (cmpT a b)).2.1, .string (cmpS op (cmpT a b)).2.2.1], .int .i64 (cmpS op (cmpT a b)).2.2.2]) ∧ Below w.heap.size w w' := by
  have c0 : ∀ W : World, Calls Tryz.prog 143 #[.string a, .string b] W fun e w' => e = .returned (.int .i64 (cmpT a b)) ∧ w' = W := cmpT_any a b
  generalize cmpT a b = o at c0 ⊢
  have C0 : Hid (∀ W : World, Calls Tryz.prog 143 #[.string a, .string b] W fun e w' => e = .returned (.int .i64 o) ∧ w' = W) := c0
  clear c0
  have B1 : Below w.heap.size w (w.alloc (.cells #[.int .i64 0, .int .i64 0, .string e0] 52)) := (Below.refl _ w).alloc (Nat.le_refl _) _
  by_cases h8 : op = 8
  · subst h8
    rw [show cmpS 8 o = (2, bit (o == 0), e0, 0) from rfl]
    go_enter Tryz.func139, Tryz.ntmps139
    go_wp2_with (go_at_call 143; refine (C0.out _).mono ?_; rintro e _ ⟨rfl, rfl⟩)
    refine (truth_any _ _).mono ?_
    rintro e w1 ⟨rfl, hb⟩
    have m1 := (Box3.new w 0 0 e0 52).below hb (by simp)
    obtain ⟨⟨⟨q0, f0⟩, ⟨q1, f1⟩⟩, q2, f2⟩ := id m1
    have B2 : Below w.heap.size w (put3 w1 w.heap.size 2 (bit (o == 0)) e0) := below_put3 (B1.trans (hb.mono B1.size)) (Nat.le_refl _) _ _ _
    have m2 := m1.put 2 (bit (o == 0)) e0
    go_wp2
    change bodyPost Tryz.prog _ _ _ _ (put3 w1 w.heap.size 2 _ e0)
    generalize put3 w1 w.heap.size 2 (bit (o == 0)) e0 = X at B2 m2 ⊢
    obtain ⟨⟨⟨p0, -⟩, ⟨p1, -⟩⟩, p2, -⟩ := m2
    exact bodyPost_ret (v := .tuple #[.agg #[.int .i64 2, .int .i64 (bit (o == 0)), .string e0], .int .i64 0]) (by simp [results, Tryz.results139, go_sem, p0, p1, p2]) rfl ⟨rfl, B2⟩
  by_cases h9 : op = 9
  · subst h9
    rw [show cmpS 9 o = (2, bit (o != 0), e0, 0) from rfl]
    go_enter Tryz.func139, Tryz.ntmps139
    go_wp2_with (go_at_call 143; refine (C0.out _).mono ?_; rintro e _ ⟨rfl, rfl⟩)
    refine (truth_any _ _).mono ?_
    rintro e w1 ⟨rfl, hb⟩
    have m1 := (Box3.new w 0 0 e0 52).below hb (by simp)
    obtain ⟨⟨⟨q0, f0⟩, ⟨q1, f1⟩⟩, q2, f2⟩ := id m1
    have B2 : Below w.heap.size w (put3 w1 w.heap.size 2 (bit (o != 0)) e0) := below_put3 (B1.trans (hb.mono B1.size)) (Nat.le_refl _) _ _ _
    have m2 := m1.put 2 (bit (o != 0)) e0
    go_wp2
    change bodyPost Tryz.prog _ _ _ _ (put3 w1 w.heap.size 2 _ e0)
    generalize put3 w1 w.heap.size 2 (bit (o != 0)) e0 = X at B2 m2 ⊢
    obtain ⟨⟨⟨p0, -⟩, ⟨p1, -⟩⟩, p2, -⟩ := m2
    exact bodyPost_ret (v := .tuple #[.agg #[.int .i64 2, .int .i64 (bit (o != 0)), .string e0], .int .i64 0]) (by simp [results, Tryz.results139, go_sem, p0, p1, p2]) rfl ⟨rfl, B2⟩
  by_cases h10 : op = 10
  · subst h10
    rw [show cmpS 10 o = (2, bit (decide (o < 0)), e0, 0) from rfl]
    go_enter Tryz.func139, Tryz.ntmps139
    go_wp2_with (go_at_call 143; refine (C0.out _).mono ?_; rintro e _ ⟨rfl, rfl⟩)
    refine (truth_any _ _).mono ?_
    rintro e w1 ⟨rfl, hb⟩
    have m1 := (Box3.new w 0 0 e0 52).below hb (by simp)
    obtain ⟨⟨⟨q0, f0⟩, ⟨q1, f1⟩⟩, q2, f2⟩ := id m1
    have B2 : Below w.heap.size w (put3 w1 w.heap.size 2 (bit (decide (o < 0))) e0) := below_put3 (B1.trans (hb.mono B1.size)) (Nat.le_refl _) _ _ _
    have m2 := m1.put 2 (bit (decide (o < 0))) e0
    go_wp2
    change bodyPost Tryz.prog _ _ _ _ (put3 w1 w.heap.size 2 _ e0)
    generalize put3 w1 w.heap.size 2 (bit (decide (o < 0))) e0 = X at B2 m2 ⊢
    obtain ⟨⟨⟨p0, -⟩, ⟨p1, -⟩⟩, p2, -⟩ := m2
    exact bodyPost_ret (v := .tuple #[.agg #[.int .i64 2, .int .i64 (bit (decide (o < 0))), .string e0], .int .i64 0]) (by simp [results, Tryz.results139, go_sem, p0, p1, p2]) rfl ⟨rfl, B2⟩
  by_cases h11 : op = 11
  · subst h11
    rw [show cmpS 11 o = (2, bit (decide (o ≤ 0)), e0, 0) from rfl]
    go_enter Tryz.func139, Tryz.ntmps139
    go_wp2_with (go_at_call 143; refine (C0.out _).mono ?_; rintro e _ ⟨rfl, rfl⟩)
    refine (truth_any _ _).mono ?_
    rintro e w1 ⟨rfl, hb⟩
    have m1 := (Box3.new w 0 0 e0 52).below hb (by simp)
    obtain ⟨⟨⟨q0, f0⟩, ⟨q1, f1⟩⟩, q2, f2⟩ := id m1
    have B2 : Below w.heap.size w (put3 w1 w.heap.size 2 (bit (decide (o ≤ 0))) e0) := below_put3 (B1.trans (hb.mono B1.size)) (Nat.le_refl _) _ _ _
    have m2 := m1.put 2 (bit (decide (o ≤ 0))) e0
    go_wp2
    change bodyPost Tryz.prog _ _ _ _ (put3 w1 w.heap.size 2 _ e0)
    generalize put3 w1 w.heap.size 2 (bit (decide (o ≤ 0))) e0 = X at B2 m2 ⊢
    obtain ⟨⟨⟨p0, -⟩, ⟨p1, -⟩⟩, p2, -⟩ := m2
    exact bodyPost_ret (v := .tuple #[.agg #[.int .i64 2, .int .i64 (bit (decide (o ≤ 0))), .string e0], .int .i64 0]) (by simp [results, Tryz.results139, go_sem, p0, p1, p2]) rfl ⟨rfl, B2⟩
  by_cases h12 : op = 12
  · subst h12
    rw [show cmpS 12 o = (2, bit (decide (0 < o)), e0, 0) from rfl]
    go_enter Tryz.func139, Tryz.ntmps139
    go_wp2_with (go_at_call 143; refine (C0.out _).mono ?_; rintro e _ ⟨rfl, rfl⟩)
    refine (truth_any _ _).mono ?_
    rintro e w1 ⟨rfl, hb⟩
    have m1 := (Box3.new w 0 0 e0 52).below hb (by simp)
    obtain ⟨⟨⟨q0, f0⟩, ⟨q1, f1⟩⟩, q2, f2⟩ := id m1
    have B2 : Below w.heap.size w (put3 w1 w.heap.size 2 (bit (decide (0 < o))) e0) := below_put3 (B1.trans (hb.mono B1.size)) (Nat.le_refl _) _ _ _
    have m2 := m1.put 2 (bit (decide (0 < o))) e0
    go_wp2
    change bodyPost Tryz.prog _ _ _ _ (put3 w1 w.heap.size 2 _ e0)
    generalize put3 w1 w.heap.size 2 (bit (decide (0 < o))) e0 = X at B2 m2 ⊢
    obtain ⟨⟨⟨p0, -⟩, ⟨p1, -⟩⟩, p2, -⟩ := m2
    exact bodyPost_ret (v := .tuple #[.agg #[.int .i64 2, .int .i64 (bit (decide (0 < o))), .string e0], .int .i64 0]) (by simp [results, Tryz.results139, go_sem, p0, p1, p2]) rfl ⟨rfl, B2⟩
  by_cases h13 : op = 13
  · subst h13
    rw [show cmpS 13 o = (2, bit (decide (0 ≤ o)), e0, 0) from rfl]
    go_enter Tryz.func139, Tryz.ntmps139
    go_wp2_with (go_at_call 143; refine (C0.out _).mono ?_; rintro e _ ⟨rfl, rfl⟩)
    refine (truth_any _ _).mono ?_
    rintro e w1 ⟨rfl, hb⟩
    have m1 := (Box3.new w 0 0 e0 52).below hb (by simp)
    obtain ⟨⟨⟨q0, f0⟩, ⟨q1, f1⟩⟩, q2, f2⟩ := id m1
    have B2 : Below w.heap.size w (put3 w1 w.heap.size 2 (bit (decide (0 ≤ o))) e0) := below_put3 (B1.trans (hb.mono B1.size)) (Nat.le_refl _) _ _ _
    have m2 := m1.put 2 (bit (decide (0 ≤ o))) e0
    go_wp2
    change bodyPost Tryz.prog _ _ _ _ (put3 w1 w.heap.size 2 _ e0)
    generalize put3 w1 w.heap.size 2 (bit (decide (0 ≤ o))) e0 = X at B2 m2 ⊢
    obtain ⟨⟨⟨p0, -⟩, ⟨p1, -⟩⟩, p2, -⟩ := m2
    exact bodyPost_ret (v := .tuple #[.agg #[.int .i64 2, .int .i64 (bit (decide (0 ≤ o))), .string e0], .int .i64 0]) (by simp [results, Tryz.results139, go_sem, p0, p1, p2]) rfl ⟨rfl, B2⟩
  rw [show cmpS op o = stuckS by unfold cmpS; rw [if_neg h8, if_neg h9, if_neg h10, if_neg h11, if_neg h12, if_neg h13]]
  go_enter Tryz.func139, Tryz.ntmps139
  go_wp2_with (go_at_call 143; refine (C0.out _).mono ?_; rintro e _ ⟨rfl, rfl⟩)
  exact bodyPost_ret (v := .tuple #[.agg #[.int .i64 0, .int .i64 0, .string e0], .int .i64 7]) (by simp [results, Tryz.results139, go_sem]) rfl ⟨rfl, B1⟩
end Go.Proofs.YtahdkffijlfmnaaGreatDoor.Hp
