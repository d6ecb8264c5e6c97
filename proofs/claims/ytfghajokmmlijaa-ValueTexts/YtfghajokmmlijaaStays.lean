import Derived.Test.YtfghajokmmlijaaHelp
import Derived.Test.YtfghajokmmlijaaAt
namespace Go.Proofs.Ytfghajokmmlijaa
open Go.RowKit

/-- An Ask in memory. -/
def AskAt (W : World) (B : Nat) (op kd k n : Int) (s : ByteArray) (k' n' : Int) (s' : ByteArray) (k2 n2 : Int) (s2 : ByteArray) : Prop :=
  W.cell? ⟨B, 0, none⟩ = some (.int .i64 op) ∧ W.cell? ⟨B, 1, none⟩ = some (.int .i64 kd) ∧ W.cell? ⟨B, 2, none⟩ = some (.int .i64 k) ∧ W.cell? ⟨B, 3, none⟩ = some (.int .i64 n) ∧ W.cell? ⟨B, 4, none⟩ = some (.string s) ∧ W.cell? ⟨B, 5, none⟩ = some (.int .i64 k') ∧ W.cell? ⟨B, 6, none⟩ = some (.int .i64 n') ∧ W.cell? ⟨B, 7, none⟩ = some (.string s') ∧ W.cell? ⟨B, 8, none⟩ = some (.int .i64 k2) ∧ W.cell? ⟨B, 9, none⟩ = some (.int .i64 n2) ∧ W.cell? ⟨B, 10, none⟩ = some (.string s2)
theorem AskAt.new (W : World) (op kd k n : Int) (s : ByteArray) (k' n' : Int) (s' : ByteArray) (k2 n2 : Int) (s2 : ByteArray) (t : TypeId) : AskAt (W.alloc (.cells #[.int .i64 op, .int .i64 kd, .int .i64 k, .int .i64 n, .string s, .int .i64 k', .int .i64 n', .string s', .int .i64 k2, .int .i64 n2, .string s2] t)) W.heap.size op kd k n s k' n' s' k2 n2 s2 := by
  have h := World.alloc_heap_new W (.cells #[.int .i64 op, .int .i64 kd, .int .i64 k, .int .i64 n, .string s, .int .i64 k', .int .i64 n', .string s', .int .i64 k2, .int .i64 n2, .string s2] t)
  refine ⟨?_, ?_, ?_, ?_, ?_, ?_, ?_, ?_, ?_, ?_, ?_⟩
  all_goals (unfold World.cell?; rw [h]; rfl)
theorem AskAt.below {W W' : World} {B D : Nat} {op kd k n : Int} {s : ByteArray} {k' n' : Int} {s' : ByteArray} {k2 n2 : Int} {s2 : ByteArray} (h : AskAt W B op kd k n s k' n' s' k2 n2 s2) (hb : Below D W W') (hB : B < D) : AskAt W' B op kd k n s k' n' s' k2 n2 s2 := by
  obtain ⟨h0, h1, h2, h3, h4, h5, h6, h7, h8, h9, h10⟩ := h
  exact ⟨(hb.cell (p := ⟨B, 0, none⟩) hB).trans h0, (hb.cell (p := ⟨B, 1, none⟩) hB).trans h1, (hb.cell (p := ⟨B, 2, none⟩) hB).trans h2, (hb.cell (p := ⟨B, 3, none⟩) hB).trans h3, (hb.cell (p := ⟨B, 4, none⟩) hB).trans h4, (hb.cell (p := ⟨B, 5, none⟩) hB).trans h5, (hb.cell (p := ⟨B, 6, none⟩) hB).trans h6, (hb.cell (p := ⟨B, 7, none⟩) hB).trans h7, (hb.cell (p := ⟨B, 8, none⟩) hB).trans h8, (hb.cell (p := ⟨B, 9, none⟩) hB).trans h9, (hb.cell (p := ⟨B, 10, none⟩) hB).trans h10⟩
theorem AskAt.alloc {W : World} {B : Nat} {op kd k n : Int} {s : ByteArray} {k' n' : Int} {s' : ByteArray} {k2 n2 : Int} {s2 : ByteArray} (h : AskAt W B op kd k n s k' n' s' k2 n2 s2) (o : Obj) : AskAt (W.alloc o) B op kd k n s k' n' s' k2 n2 s2 := by
  obtain ⟨h0, h1, h2, h3, h4, h5, h6, h7, h8, h9, h10⟩ := h
  exact ⟨cell_alloc_l o h0, cell_alloc_l o h1, cell_alloc_l o h2, cell_alloc_l o h3, cell_alloc_l o h4, cell_alloc_l o h5, cell_alloc_l o h6, cell_alloc_l o h7, cell_alloc_l o h8, cell_alloc_l o h9, cell_alloc_l o h10⟩

/-- A value that may be; with a trap the zero value. -/
def Fit (r : VT) : Prop := okV r.1 r.2.1 r.2.2.1 = true ∧ ((r.1 == 0 && r.2.1 == 0) && r.2.2.1.toList == []) = (r.2.2.2 != 0)
theorem fit_stuck : Fit stuckS := ⟨by unfold stuckS okV; simp, by unfold stuckS; simp⟩
theorem fit_zero (t : Int) (h : t ≠ 0) : Fit (0, 0, e0, t) := ⟨by unfold okV; simp, by simp [h]⟩
theorem fit_num (n : Int) : Fit (numS n) := ⟨okInt n, by unfold numS; simp⟩
theorem fit_tru (b : Bool) : Fit (truS b) := by cases b <;> exact ⟨by unfold truS okV bit; simp, by unfold truS; simp⟩
theorem fit_cmp (op o : Int) : Fit (cmpS op o) := by
  unfold cmpS
  repeat' split
  all_goals first | exact fit_tru _ | exact fit_stuck
theorem fit_ints (op a b : Int) : Fit (intsS op a b) := by
  unfold intsS
  repeat' split
  all_goals first | exact fit_num _ | exact fit_cmp _ _ | exact fit_zero 1 (by decide)
theorem fit_texts (op : Int) (a b : ByteArray) : Fit (textsS op a b) := by
  unfold textsS
  repeat' split
  · exact fit_zero 6 (by decide)
  · refine ⟨okText _ (by rw [ByteArray.size_append]; omega), by simp⟩
  · exact fit_cmp _ _
theorem fit_names (op a b : Int) : Fit (namesS op a b) := by
  unfold namesS
  split
  · exact fit_cmp _ _
  · exact fit_stuck
theorem fit_bin (op k n : Int) (s : ByteArray) (k' n' : Int) (s' : ByteArray) : Fit (binS op k n s k' n' s') := by
  unfold binS
  repeat' split
  all_goals first | exact fit_ints _ _ _ | exact fit_texts _ _ _ | exact fit_names _ _ _ | exact fit_stuck
theorem fit_un (op k n : Int) (s : ByteArray) : Fit (unS op k n s) := by
  unfold unS
  repeat' split
  all_goals first | exact fit_num _ | exact fit_tru _ | exact fit_stuck
theorem fit_at (k n : Int) (s : ByteArray) (k' n' : Int) (s' : ByteArray) : Fit (atS k n s k' n' s') := by
  unfold atS
  repeat' split
  all_goals first | exact fit_num _ | exact fit_zero 2 (by decide) | exact fit_stuck

theorem ok_size {k n : Int} {s : ByteArray} (h : okV k n s = true) : s.size ≤ 9223372036854775807 := by
  have h0 : s.toList = [] → s.size ≤ 9223372036854775807 := fun e => by rw [eq_e0 e]; decide
  unfold okV at h
  repeat' split at h
  all_goals simp at h
  · exact h0 h.2
  · exact h0 h
  · exact h0 h.2
  · omega
  · exact h0 h.2

theorem ok_zero (k : Int) (h : 0 ≤ k ∧ k ≤ 4) : okV k 0 e0 = true := by
  have : k = 0 ∨ k = 1 ∨ k = 2 ∨ k = 3 ∨ k = 4 := by omega
  unfold okV
  rw [e0_list]
  rcases this with rfl | rfl | rfl | rfl | rfl <;> rfl

/-- What a value that fits is met as. -/
theorem fit_runs {K N : Int} {S : ByteArray} {T : Int} (h : Fit (K, N, S, T)) : ∀ w : World, (binOp BinOp.eql 25 (.agg #[.int .i64 K, .int .i64 N, .string S]) (.agg #[.int .i64 0, .int .i64 0, .string e0])).run Try.prog w = .ok (.bool (T != 0)) w := by
  intro w
  rw [eqlV, e0_list]
  exact congrArg (fun b => Result.ok (Value.bool b) w) h.2

set_option maxRecDepth 100000 in
set_option maxHeartbeats 2000000 in
theorem stays_any (op kd k n : Int) (s : ByteArray) (k' n' : Int) (s' : ByteArray) (k2 n2 : Int) (s2 : ByteArray) (w : World) (hs : s.size ≤ 9223372036854775807) (hs' : s'.size ≤ 9223372036854775807) :
    Calls Try.prog 4 #[.agg #[.int .i64 op, .int .i64 kd, .int .i64 k, .int .i64 n, .string s, .int .i64 k', .int .i64 n', .string s', .int .i64 k2, .int .i64 n2, .string s2]] w fun e w' => e = .returned (.bool true) ∧ Below w.heap.size w w' := by
  have c1 := fun W : World => binary_any op k n s k' n' s' W hs hs'
  have c2 := fun W : World => unary_any op k n s W hs
  have c3 := fun W : World => at_any k n s k' n' s' W hs hs'
  have g1 := fit_bin op k n s k' n' s'
  have g2 := fit_un op k n s
  have g3 := fit_at k n s k' n' s'
  have z1 := ok_size g1.1
  have z2 := ok_size g2.1
  have z3 := ok_size g3.1
  generalize binS op k n s k' n' s' = r1 at c1 g1 z1
  generalize unS op k n s = r2 at c2 g2 z2
  generalize atS k n s k' n' s' = r3 at c3 g3 z3
  obtain ⟨K1, N1, S1, T1⟩ := r1
  obtain ⟨K2, N2, S2, T2⟩ := r2
  obtain ⟨K3, N3, S3, T3⟩ := r3
  have v1 := fun W : World => valid_any K1 N1 S1 W z1
  have v2 := fun W : World => valid_any K2 N2 S2 W z2
  have v3 := fun W : World => valid_any K3 N3 S3 W z3
  rw [show okV K1 N1 S1 = true from g1.1] at v1
  rw [show okV K2 N2 S2 = true from g2.1] at v2
  rw [show okV K3 N3 S3 = true from g3.1] at v3
  have e1 := fit_runs g1
  have e2 := fit_runs g2
  have e3 := fit_runs g3
  clear g1 g2 g3 z1 z2 z3
  have m := AskAt.new w op kd k n s k' n' s' k2 n2 s2 27
  have B : Below w.heap.size w (w.alloc (.cells #[.int .i64 op, .int .i64 kd, .int .i64 k, .int .i64 n, .string s, .int .i64 k', .int .i64 n', .string s', .int .i64 k2, .int .i64 n2, .string s2] 27)) := (Below.refl _ w).alloc (Nat.le_refl _) _
  have l : w.heap.size < (w.alloc (.cells #[.int .i64 op, .int .i64 kd, .int .i64 k, .int .i64 n, .string s, .int .i64 k', .int .i64 n', .string s', .int .i64 k2, .int .i64 n2, .string s2] 27)).heap.size := by simp
  go_enter Try.func4, Try.ntmps4
  go_wp2_with fail
  refine (works_any _).mono ?_
  rintro e w1 ⟨rfl, hb⟩
  replace m := m.below hb l
  replace l := Nat.lt_of_lt_of_le l hb.size
  replace B := B.trans (hb.mono B.size)
  clear hb
  obtain ⟨x0, x1, x2, x3, x4, x5, x6, x7, x8, x9, x10⟩ := id m
  go_wp2_with fail
  refine (c1 _).mono ?_
  rintro e w2 ⟨rfl, hb⟩
  replace m := (m.below hb l).alloc (.cells #[.int .i64 K1, .int .i64 N1, .string S1] 25)
  replace l := Nat.lt_of_lt_of_le l hb.size
  replace B := B.trans (hb.mono B.size)
  have p := Box3.new w2 K1 N1 S1 25
  have lp : w2.heap.size < (w2.alloc (.cells #[.int .i64 K1, .int .i64 N1, .string S1] 25)).heap.size := by simp
  replace l := Nat.lt_trans l lp
  replace B := B.alloc B.size (.cells #[.int .i64 K1, .int .i64 N1, .string S1] 25)
  generalize hX : w2.alloc (.cells #[.int .i64 K1, .int .i64 N1, .string S1] 25) = X at m p l lp B
  clear hb c1
  clear x0 x1 x2 x3 x4 x5 x6 x7 x8 x9 x10
  obtain ⟨x0, x1, x2, x3, x4, x5, x6, x7, x8, x9, x10⟩ := id m
  go_wp2_with fail
  refine (c2 _).mono ?_
  rintro e w3 ⟨rfl, hb⟩
  replace m := (m.below hb l).alloc (.cells #[.int .i64 K2, .int .i64 N2, .string S2] 25)
  replace p := (p.below hb lp).alloc (.cells #[.int .i64 K2, .int .i64 N2, .string S2] 25)
  replace l := Nat.lt_of_lt_of_le l hb.size
  replace lp := Nat.lt_of_lt_of_le lp hb.size
  replace B := B.trans (hb.mono B.size)
  have q := Box3.new w3 K2 N2 S2 25
  have lq : w3.heap.size < (w3.alloc (.cells #[.int .i64 K2, .int .i64 N2, .string S2] 25)).heap.size := by simp
  replace l := Nat.lt_trans l lq
  replace lp := Nat.lt_trans lp lq
  replace B := B.alloc B.size (.cells #[.int .i64 K2, .int .i64 N2, .string S2] 25)
  generalize hX2 : w3.alloc (.cells #[.int .i64 K2, .int .i64 N2, .string S2] 25) = X2 at m p lp q lq l B
  clear hb c2
  clear x0 x1 x2 x3 x4 x5 x6 x7 x8 x9 x10
  obtain ⟨x0, x1, x2, x3, x4, x5, x6, x7, x8, x9, x10⟩ := id m
  go_wp2_with fail
  refine (c3 _).mono ?_
  rintro e w4 ⟨rfl, hb⟩
  replace m := (m.below hb l).alloc (.cells #[.int .i64 K3, .int .i64 N3, .string S3] 25)
  replace p := (p.below hb lp).alloc (.cells #[.int .i64 K3, .int .i64 N3, .string S3] 25)
  replace q := (q.below hb lq).alloc (.cells #[.int .i64 K3, .int .i64 N3, .string S3] 25)
  replace l := Nat.lt_of_lt_of_le l hb.size
  replace lp := Nat.lt_of_lt_of_le lp hb.size
  replace lq := Nat.lt_of_lt_of_le lq hb.size
  replace B := B.trans (hb.mono B.size)
  have r := Box3.new w4 K3 N3 S3 25
  have lr : w4.heap.size < (w4.alloc (.cells #[.int .i64 K3, .int .i64 N3, .string S3] 25)).heap.size := by simp
  replace l := Nat.lt_trans l lr
  replace lp := Nat.lt_trans lp lr
  replace lq := Nat.lt_trans lq lr
  replace B := B.alloc B.size (.cells #[.int .i64 K3, .int .i64 N3, .string S3] 25)
  generalize hX3 : w4.alloc (.cells #[.int .i64 K3, .int .i64 N3, .string S3] 25) = X3 at m p lp q lq r lr l B
  clear hb c3
  clear x0 x1 x2 x3 x4 x5 x6 x7 x8 x9 x10
  obtain ⟨x0, x1, x2, x3, x4, x5, x6, x7, x8, x9, x10⟩ := id m
  obtain ⟨⟨⟨p0, pf0⟩, ⟨p1, pf1⟩⟩, p2, pf2⟩ := id p
  obtain ⟨⟨⟨q0, qf0⟩, ⟨q1, qf1⟩⟩, q2, qf2⟩ := id q
  obtain ⟨⟨⟨r0, rf0⟩, ⟨r1, rf1⟩⟩, r2, rf2⟩ := id r
  go_wp2_with fail
  refine (v1 _).mono ?_
  rintro e w5 ⟨rfl, hb⟩
  replace m := m.below hb l
  replace p := p.below hb lp
  replace q := q.below hb lq
  replace r := r.below hb lr
  replace l := Nat.lt_of_lt_of_le l hb.size
  replace lp := Nat.lt_of_lt_of_le lp hb.size
  replace lq := Nat.lt_of_lt_of_le lq hb.size
  replace lr := Nat.lt_of_lt_of_le lr hb.size
  replace B := B.trans (hb.mono B.size)
  clear hb v1
  clear p0 pf0 p1 pf1 p2 pf2 q0 qf0 q1 qf1 q2 qf2 r0 rf0 r1 rf1 r2 rf2
  clear x0 x1 x2 x3 x4 x5 x6 x7 x8 x9 x10
  obtain ⟨x0, x1, x2, x3, x4, x5, x6, x7, x8, x9, x10⟩ := id m
  obtain ⟨⟨⟨p0, pf0⟩, ⟨p1, pf1⟩⟩, p2, pf2⟩ := id p
  obtain ⟨⟨⟨q0, qf0⟩, ⟨q1, qf1⟩⟩, q2, qf2⟩ := id q
  obtain ⟨⟨⟨r0, rf0⟩, ⟨r1, rf1⟩⟩, r2, rf2⟩ := id r
  go_wp2_with fail
  refine (v2 _).mono ?_
  rintro e w6 ⟨rfl, hb⟩
  replace m := m.below hb l
  replace p := p.below hb lp
  replace q := q.below hb lq
  replace r := r.below hb lr
  replace l := Nat.lt_of_lt_of_le l hb.size
  replace lp := Nat.lt_of_lt_of_le lp hb.size
  replace lq := Nat.lt_of_lt_of_le lq hb.size
  replace lr := Nat.lt_of_lt_of_le lr hb.size
  replace B := B.trans (hb.mono B.size)
  clear hb v2
  clear p0 pf0 p1 pf1 p2 pf2 q0 qf0 q1 qf1 q2 qf2 r0 rf0 r1 rf1 r2 rf2
  clear x0 x1 x2 x3 x4 x5 x6 x7 x8 x9 x10
  obtain ⟨x0, x1, x2, x3, x4, x5, x6, x7, x8, x9, x10⟩ := id m
  obtain ⟨⟨⟨p0, pf0⟩, ⟨p1, pf1⟩⟩, p2, pf2⟩ := id p
  obtain ⟨⟨⟨q0, qf0⟩, ⟨q1, qf1⟩⟩, q2, qf2⟩ := id q
  obtain ⟨⟨⟨r0, rf0⟩, ⟨r1, rf1⟩⟩, r2, rf2⟩ := id r
  go_wp2_with fail
  refine (v3 _).mono ?_
  rintro e w7 ⟨rfl, hb⟩
  replace m := m.below hb l
  replace p := p.below hb lp
  replace q := q.below hb lq
  replace r := r.below hb lr
  replace l := Nat.lt_of_lt_of_le l hb.size
  replace B := B.trans (hb.mono B.size)
  clear hb v3 lp lq lr
  clear p0 pf0 p1 pf1 p2 pf2 q0 qf0 q1 qf1 q2 qf2 r0 rf0 r1 rf1 r2 rf2
  clear x0 x1 x2 x3 x4 x5 x6 x7 x8 x9 x10
  obtain ⟨x0, x1, x2, x3, x4, x5, x6, x7, x8, x9, x10⟩ := id m
  obtain ⟨⟨⟨p0, pf0⟩, ⟨p1, pf1⟩⟩, p2, pf2⟩ := id p
  obtain ⟨⟨⟨q0, qf0⟩, ⟨q1, qf1⟩⟩, q2, qf2⟩ := id q
  obtain ⟨⟨⟨r0, rf0⟩, ⟨r1, rf1⟩⟩, r2, rf2⟩ := id r
  go_wp2_with fail
  have cz := zero_any kd w7
  clear e1 e2 e3 p q r
  clear p0 pf0 p1 pf1 p2 pf2 q0 qf0 q1 qf1 q2 qf2 r0 rf0 r1 rf1 r2 rf2
  by_cases hk : 0 ≤ kd ∧ kd ≤ 4
  · rw [if_pos hk] at cz
    have v4 := fun W : World => valid_any kd 0 e0 W (by decide)
    rw [ok_zero kd hk] at v4
    refine cz.mono ?_
    rintro e w8 ⟨rfl, hb⟩
    replace m := (m.below hb l).alloc (.cells #[.int .i64 kd, .int .i64 0, .string e0] 25)
    have p := Box3.new w8 kd 0 e0 25
    replace l := Nat.lt_of_lt_of_le l hb.size
    replace B := B.trans (hb.mono B.size)
    have lp : w8.heap.size < (w8.alloc (.cells #[.int .i64 kd, .int .i64 0, .string e0] 25)).heap.size := by simp
    replace l := Nat.lt_trans l lp
    replace B := B.alloc B.size (.cells #[.int .i64 kd, .int .i64 0, .string e0] 25)
    clear hb cz hk
    clear x0 x1 x2 x3 x4 x5 x6 x7 x8 x9 x10
    obtain ⟨x0, x1, x2, x3, x4, x5, x6, x7, x8, x9, x10⟩ := id m
    obtain ⟨⟨⟨p0, pf0⟩, ⟨p1, pf1⟩⟩, p2, pf2⟩ := id p
    go_wp2_with fail
    refine (v4 _).mono ?_
    rintro e w9 ⟨rfl, hb⟩
    replace m := m.below hb l
    replace p := p.below hb lp
    replace B := B.trans (hb.mono B.size)
    clear hb v4 l lp p0 p1 p2 pf0 pf1 pf2
    clear x0 x1 x2 x3 x4 x5 x6 x7 x8 x9 x10
    obtain ⟨x0, x1, x2, x3, x4, x5, x6, x7, x8, x9, x10⟩ := id m
    obtain ⟨⟨⟨p0, pf0⟩, ⟨p1, pf1⟩⟩, p2, pf2⟩ := id p
    go_wp2
    go_ret
    exact ⟨rfl, B⟩
  · rw [if_neg hk] at cz
    have v4 := fun W : World => valid_any 0 0 e0 W (by decide)
    rw [show okV 0 0 e0 = true by simp [okV]] at v4
    refine cz.mono ?_
    rintro e w8 ⟨rfl, hb⟩
    replace m := (m.below hb l).alloc (.cells #[.int .i64 0, .int .i64 0, .string e0] 25)
    have p := Box3.new w8 0 0 e0 25
    replace l := Nat.lt_of_lt_of_le l hb.size
    replace B := B.trans (hb.mono B.size)
    have lp : w8.heap.size < (w8.alloc (.cells #[.int .i64 0, .int .i64 0, .string e0] 25)).heap.size := by simp
    replace l := Nat.lt_trans l lp
    replace B := B.alloc B.size (.cells #[.int .i64 0, .int .i64 0, .string e0] 25)
    clear hb cz
    clear x0 x1 x2 x3 x4 x5 x6 x7 x8 x9 x10
    obtain ⟨x0, x1, x2, x3, x4, x5, x6, x7, x8, x9, x10⟩ := id m
    obtain ⟨⟨⟨p0, pf0⟩, ⟨p1, pf1⟩⟩, p2, pf2⟩ := id p
    go_wp2_with fail
    refine (v4 _).mono ?_
    rintro e w9 ⟨rfl, hb⟩
    replace m := m.below hb l
    replace p := p.below hb lp
    replace B := B.trans (hb.mono B.size)
    clear hb v4 l lp p0 p1 p2 pf0 pf1 pf2
    clear x0 x1 x2 x3 x4 x5 x6 x7 x8 x9 x10
    obtain ⟨x0, x1, x2, x3, x4, x5, x6, x7, x8, x9, x10⟩ := id m
    obtain ⟨⟨⟨p0, pf0⟩, ⟨p1, pf1⟩⟩, p2, pf2⟩ := id p
    have hne : (0 == kd) = false := by simp; omega
    by_cases h0 : kd < 0
    · go_wp2
      go_ret
      exact ⟨rfl, B⟩
    · have h4 : 4 < kd := by omega
      go_wp2
      go_ret
      exact ⟨rfl, B⟩
end Go.Proofs.Ytfghajokmmlijaa
