import Derived.Test.YtfghajokmmlijaaDoorHelp
import Derived.Test.YtfghajokmmlijaaDoorAskAt
import Derived.Test.YtfghajokmmlijaaDoorAt
import Derived.Test.YtfghajokmmlijaaDoorEUn
import Derived.Test.YtfghajokmmlijaaDoorEAt
import Derived.Test.YtfghajokmmlijaaDoorEBin
import Derived.Test.YtfghajokmmlijaaDoorEShow
namespace Go.Proofs.YtfghajokmmlijaaDoor
open Go.RowKit

theorem Box3.far {W : World} {A B : Nat} {k n : Int} {s : ByteArray} (h : Box3 W A k n s) (hne : A ≠ B) (k' n' : Int) (s' : ByteArray) : Box3 (put3 W B k' n' s') A k n s := by
  obtain ⟨⟨⟨h0, f0⟩, ⟨h1, f1⟩⟩, h2, f2⟩ := h
  have hq : ∀ i j : Nat, (⟨B, j, none⟩ : Addr) ≠ ⟨A, i, none⟩ := fun i j e => hne (by cases e; rfl)
  unfold put3
  refine ⟨⟨⟨?_, ?_⟩, ?_, ?_⟩, ?_, ?_⟩
  · rw [World.cell?_setCell_other _ _ _ _ (hq _ _), World.cell?_setCell_other _ _ _ _ (hq _ _), World.cell?_setCell_other _ _ _ _ (hq _ _)]; exact h0
  · rw [World.frozen?_setCell, World.frozen?_setCell, World.frozen?_setCell]; exact f0
  · rw [World.cell?_setCell_other _ _ _ _ (hq _ _), World.cell?_setCell_other _ _ _ _ (hq _ _), World.cell?_setCell_other _ _ _ _ (hq _ _)]; exact h1
  · rw [World.frozen?_setCell, World.frozen?_setCell, World.frozen?_setCell]; exact f1
  · rw [World.cell?_setCell_other _ _ _ _ (hq _ _), World.cell?_setCell_other _ _ _ _ (hq _ _), World.cell?_setCell_other _ _ _ _ (hq _ _)]; exact h2
  · rw [World.frozen?_setCell, World.frozen?_setCell, World.frozen?_setCell]; exact f2
theorem AskAt.far {W : World} {A B : Nat} {op kd k n : Int} {s : ByteArray} {k' n' : Int} {s' : ByteArray} {k2 n2 : Int} {s2 : ByteArray} (h : AskAt W A op kd k n s k' n' s' k2 n2 s2) (hne : A ≠ B) (kk nn : Int) (ss : ByteArray) : AskAt (put3 W B kk nn ss) A op kd k n s k' n' s' k2 n2 s2 := by
  have hq : ∀ i j : Nat, (⟨B, j, none⟩ : Addr) ≠ ⟨A, i, none⟩ := fun i j e => hne (by cases e; rfl)
  have key : ∀ (i : Nat) (v : Value), W.cell? ⟨A, i, none⟩ = some v → (put3 W B kk nn ss).cell? ⟨A, i, none⟩ = some v := fun i v hv => by
    unfold put3
    rw [World.cell?_setCell_other _ _ _ _ (hq _ _), World.cell?_setCell_other _ _ _ _ (hq _ _), World.cell?_setCell_other _ _ _ _ (hq _ _)]; exact hv
  obtain ⟨h0, h1, h2, h3, h4, h5, h6, h7, h8, h9, h10⟩ := h
  exact ⟨key 0 _ h0, key 1 _ h1, key 2 _ h2, key 3 _ h3, key 4 _ h4, key 5 _ h5, key 6 _ h6, key 7 _ h7, key 8 _ h8, key 9 _ h9, key 10 _ h10⟩
theorem ltp {W : World} {a : Nat} (h : a < W.heap.size) (B : Nat) (k n : Int) (s : ByteArray) : a < (put3 W B k n s).heap.size := by unfold put3; simpa using h

set_option maxRecDepth 100000 in
set_option maxHeartbeats 4000000 in
theorem exact_any (op kd k n : Int) (s : ByteArray) (k' n' : Int) (s' : ByteArray) (k2 n2 : Int) (s2 : ByteArray) (w : World) (hs : s.size ≤ 9223372036854775807) (hs' : s'.size ≤ 9223372036854775807) (hn : -9223372036854775808 ≤ n ∧ n ≤ 9223372036854775807) (hn' : -9223372036854775808 ≤ n' ∧ n' ≤ 9223372036854775807) (ht : Tab10 w) :
    Calls Tryd.prog 4 #[.agg #[.int .i64 op, .int .i64 kd, .int .i64 k, .int .i64 n, .string s, .int .i64 k', .int .i64 n', .string s', .int .i64 k2, .int .i64 n2, .string s2]] w fun e w' => e = .returned (.bool true) ∧ Below w.heap.size w w' := by
  have c1 := fun W : World => binary_any op k n s k' n' s' W hs hs'
  have r1 := fun W : World => rbinary_any op k n s k' n' s' W hs hs' hn hn'
  generalize binS op k n s k' n' s' = v1 at c1 r1
  obtain ⟨K1, N1, S1, T1⟩ := v1
  have ne1 := neSame K1 N1 S1
  have c2 := fun W : World => unary_any op k n s W hs
  have r2 := fun W : World => runary_any op k n s W hs
  generalize unS op k n s = v2 at c2 r2
  obtain ⟨K2, N2, S2, T2⟩ := v2
  have ne2 := neSame K2 N2 S2
  have c3 := fun W : World => at_any k n s k' n' s' W hs hs'
  have r3 := fun W : World => rat_any k n s k' n' s' W hs hs'
  generalize atS k n s k' n' s' = v3 at c3 r3
  obtain ⟨K3, N3, S3, T3⟩ := v3
  have ne3 := neSame K3 N3 S3
  have zc := fun W : World => zero_any kd W
  have zr := fun W : World => rzero_any kd W
  generalize (if 0 ≤ kd ∧ kd ≤ 4 then kd else 0) = zk at zc zr
  have qz := eqSame zk 0 e0
  have vc := fun W : World => valid_any k n s W hs
  have vr := fun W : World => rvalid_any k n s W hs
  generalize okV k n s = va at vc vr
  have tc := fun (W : World) (hT : Tab10 W) => str_any k n s W hs hn hT
  have tr := fun (W : World) (hT : Tab10 W) => rstr_any k n s W hs hn hT
  generalize strS k n s = SS at tc tr
  have hc := fun (W : World) (hT : Tab10 W) => show_any k n s W hs hn hT
  have hr := fun (W : World) (hT : Tab10 W) => rshow_any k n s W hs hn hT
  generalize showS k n s = HH at hc hr
  have m := AskAt.new w op kd k n s k' n' s' k2 n2 s2 27
  have B : Below w.heap.size w (w.alloc (.cells #[.int .i64 op, .int .i64 kd, .int .i64 k, .int .i64 n, .string s, .int .i64 k', .int .i64 n', .string s', .int .i64 k2, .int .i64 n2, .string s2] 27)) := (Below.refl _ w).alloc (Nat.le_refl _) _
  have l : w.heap.size < (w.alloc (.cells #[.int .i64 op, .int .i64 kd, .int .i64 k, .int .i64 n, .string s, .int .i64 k', .int .i64 n', .string s', .int .i64 k2, .int .i64 n2, .string s2] 27)).heap.size := by simp
  have HT : Hid (Tab10 w) := ht
  clear ht hs hs' hn hn'
  go_enter Tryd.func4, Tryd.ntmps4
  go_wp2_with fail
  refine (works_any _).mono ?_
  rintro e w1 ⟨rfl, hb⟩
  replace m := m.below hb l
  replace l := Nat.lt_of_lt_of_le l hb.size
  replace B := B.trans (hb.mono B.size)
  clear hb
  obtain ⟨x0, x1, x2, x3, x4, x5, x6, x7, x8, x9, x10⟩ := id m
  go_wp2_with fail
  refine (c1 _).mono ?_
  rintro e w2 ⟨rfl, hb⟩
  replace m := m.below hb l
  replace l := Nat.lt_of_lt_of_le l hb.size
  replace B := B.trans (hb.mono B.size)
  clear hb
  replace m := m.alloc (.cells #[.int .i64 K1, .int .i64 N1, .string S1] 25)
  have p := Box3.new w2 K1 N1 S1 25
  have lp : w2.heap.size < (w2.alloc (.cells #[.int .i64 K1, .int .i64 N1, .string S1] 25)).heap.size := by simp
  have dp : w.heap.size < w2.heap.size := l
  replace l := Nat.lt_trans l lp
  replace B := B.alloc B.size (.cells #[.int .i64 K1, .int .i64 N1, .string S1] 25)
  clear x0 x1 x2 x3 x4 x5 x6 x7 x8 x9 x10
  obtain ⟨x0, x1, x2, x3, x4, x5, x6, x7, x8, x9, x10⟩ := id m
  obtain ⟨⟨⟨p0, pf0⟩, ⟨p1, pf1⟩⟩, p2, pf2⟩ := id p
  go_wp2_with fail
  refine (r1 _).mono ?_
  rintro e w3 ⟨rfl, hb⟩
  replace m := m.below hb l
  replace p := p.below hb lp
  replace l := Nat.lt_of_lt_of_le l hb.size
  replace lp := Nat.lt_of_lt_of_le lp hb.size
  replace B := B.trans (hb.mono B.size)
  clear hb
  replace m := m.alloc (.cells #[.int .i64 K1, .int .i64 N1, .string S1] 25)
  replace p := p.alloc (.cells #[.int .i64 K1, .int .i64 N1, .string S1] 25)
  have q := Box3.new w3 K1 N1 S1 25
  have lq : w3.heap.size < (w3.alloc (.cells #[.int .i64 K1, .int .i64 N1, .string S1] 25)).heap.size := by simp
  have dq : w.heap.size < w3.heap.size := l
  have dpq := lp
  replace l := Nat.lt_trans l lq
  replace lp := Nat.lt_trans lp lq
  replace B := B.alloc B.size (.cells #[.int .i64 K1, .int .i64 N1, .string S1] 25)
  clear x0 x1 x2 x3 x4 x5 x6 x7 x8 x9 x10 p0 p1 p2 pf0 pf1 pf2
  obtain ⟨x0, x1, x2, x3, x4, x5, x6, x7, x8, x9, x10⟩ := id m
  obtain ⟨⟨⟨p0, pf0⟩, ⟨p1, pf1⟩⟩, p2, pf2⟩ := id p
  obtain ⟨⟨⟨q0, qf0⟩, ⟨q1, qf1⟩⟩, q2, qf2⟩ := id q
  go_wp2_with fail
  refine (c2 _).mono ?_
  rintro e u2 ⟨rfl, hb⟩
  replace m := m.below hb l
  replace p := p.below hb lp
  replace q := q.below hb lq
  replace l := Nat.lt_of_lt_of_le l hb.size
  replace lp := Nat.lt_of_lt_of_le lp hb.size
  replace lq := Nat.lt_of_lt_of_le lq hb.size
  replace B := B.trans (hb.mono B.size)
  clear hb
  clear x0 x1 x2 x3 x4 x5 x6 x7 x8 x9 x10 p0 p1 p2 pf0 pf1 pf2 q0 q1 q2 qf0 qf1 qf2
  obtain ⟨x0, x1, x2, x3, x4, x5, x6, x7, x8, x9, x10⟩ := id m
  obtain ⟨⟨⟨p0, pf0⟩, ⟨p1, pf1⟩⟩, p2, pf2⟩ := id p
  obtain ⟨⟨⟨q0, qf0⟩, ⟨q1, qf1⟩⟩, q2, qf2⟩ := id q
  go_wp2_with fail
  replace p := p.put K2 N2 S2
  replace q := q.far (B := w2.heap.size) (by omega) K2 N2 S2
  replace m := m.far (B := w2.heap.size) (by omega) K2 N2 S2
  replace B := below_put3 (B := w2.heap.size) B (by omega) K2 N2 S2
  replace l := ltp l w2.heap.size K2 N2 S2
  replace lp := ltp lp w2.heap.size K2 N2 S2
  replace lq := ltp lq w2.heap.size K2 N2 S2
  change Calls Tryd.prog _ _ (put3 u2 w2.heap.size K2 N2 S2) _
  generalize put3 u2 w2.heap.size K2 N2 S2 = X2 at m p q B l lp lq ⊢
  clear x0 x1 x2 x3 x4 x5 x6 x7 x8 x9 x10 p0 p1 p2 pf0 pf1 pf2 q0 q1 q2 qf0 qf1 qf2
  obtain ⟨x0, x1, x2, x3, x4, x5, x6, x7, x8, x9, x10⟩ := id m
  obtain ⟨⟨⟨p0, pf0⟩, ⟨p1, pf1⟩⟩, p2, pf2⟩ := id p
  obtain ⟨⟨⟨q0, qf0⟩, ⟨q1, qf1⟩⟩, q2, qf2⟩ := id q
  refine (r2 _).mono ?_
  rintro e y2 ⟨rfl, hb⟩
  replace m := m.below hb l
  replace p := p.below hb lp
  replace q := q.below hb lq
  replace l := Nat.lt_of_lt_of_le l hb.size
  replace lp := Nat.lt_of_lt_of_le lp hb.size
  replace lq := Nat.lt_of_lt_of_le lq hb.size
  replace B := B.trans (hb.mono B.size)
  clear hb
  clear x0 x1 x2 x3 x4 x5 x6 x7 x8 x9 x10 p0 p1 p2 pf0 pf1 pf2 q0 q1 q2 qf0 qf1 qf2
  obtain ⟨x0, x1, x2, x3, x4, x5, x6, x7, x8, x9, x10⟩ := id m
  obtain ⟨⟨⟨p0, pf0⟩, ⟨p1, pf1⟩⟩, p2, pf2⟩ := id p
  obtain ⟨⟨⟨q0, qf0⟩, ⟨q1, qf1⟩⟩, q2, qf2⟩ := id q
  go_wp2_with fail
  replace q := q.put K2 N2 S2
  replace p := p.far (B := w3.heap.size) (by omega) K2 N2 S2
  replace m := m.far (B := w3.heap.size) (by omega) K2 N2 S2
  replace B := below_put3 (B := w3.heap.size) B (by omega) K2 N2 S2
  replace l := ltp l w3.heap.size K2 N2 S2
  replace lp := ltp lp w3.heap.size K2 N2 S2
  replace lq := ltp lq w3.heap.size K2 N2 S2
  change Calls Tryd.prog _ _ (put3 y2 w3.heap.size K2 N2 S2) _
  generalize put3 y2 w3.heap.size K2 N2 S2 = Z2 at m p q B l lp lq ⊢
  clear x0 x1 x2 x3 x4 x5 x6 x7 x8 x9 x10 p0 p1 p2 pf0 pf1 pf2 q0 q1 q2 qf0 qf1 qf2
  obtain ⟨x0, x1, x2, x3, x4, x5, x6, x7, x8, x9, x10⟩ := id m
  obtain ⟨⟨⟨p0, pf0⟩, ⟨p1, pf1⟩⟩, p2, pf2⟩ := id p
  obtain ⟨⟨⟨q0, qf0⟩, ⟨q1, qf1⟩⟩, q2, qf2⟩ := id q
  refine (c3 _).mono ?_
  rintro e u3 ⟨rfl, hb⟩
  replace m := m.below hb l
  replace p := p.below hb lp
  replace q := q.below hb lq
  replace l := Nat.lt_of_lt_of_le l hb.size
  replace lp := Nat.lt_of_lt_of_le lp hb.size
  replace lq := Nat.lt_of_lt_of_le lq hb.size
  replace B := B.trans (hb.mono B.size)
  clear hb
  clear x0 x1 x2 x3 x4 x5 x6 x7 x8 x9 x10 p0 p1 p2 pf0 pf1 pf2 q0 q1 q2 qf0 qf1 qf2
  obtain ⟨x0, x1, x2, x3, x4, x5, x6, x7, x8, x9, x10⟩ := id m
  obtain ⟨⟨⟨p0, pf0⟩, ⟨p1, pf1⟩⟩, p2, pf2⟩ := id p
  obtain ⟨⟨⟨q0, qf0⟩, ⟨q1, qf1⟩⟩, q2, qf2⟩ := id q
  go_wp2_with fail
  replace p := p.put K3 N3 S3
  replace q := q.far (B := w2.heap.size) (by omega) K3 N3 S3
  replace m := m.far (B := w2.heap.size) (by omega) K3 N3 S3
  replace B := below_put3 (B := w2.heap.size) B (by omega) K3 N3 S3
  replace l := ltp l w2.heap.size K3 N3 S3
  replace lp := ltp lp w2.heap.size K3 N3 S3
  replace lq := ltp lq w2.heap.size K3 N3 S3
  change Calls Tryd.prog _ _ (put3 u3 w2.heap.size K3 N3 S3) _
  generalize put3 u3 w2.heap.size K3 N3 S3 = X3 at m p q B l lp lq ⊢
  clear x0 x1 x2 x3 x4 x5 x6 x7 x8 x9 x10 p0 p1 p2 pf0 pf1 pf2 q0 q1 q2 qf0 qf1 qf2
  obtain ⟨x0, x1, x2, x3, x4, x5, x6, x7, x8, x9, x10⟩ := id m
  obtain ⟨⟨⟨p0, pf0⟩, ⟨p1, pf1⟩⟩, p2, pf2⟩ := id p
  obtain ⟨⟨⟨q0, qf0⟩, ⟨q1, qf1⟩⟩, q2, qf2⟩ := id q
  refine (r3 _).mono ?_
  rintro e y3 ⟨rfl, hb⟩
  replace m := m.below hb l
  replace p := p.below hb lp
  replace q := q.below hb lq
  replace l := Nat.lt_of_lt_of_le l hb.size
  replace lp := Nat.lt_of_lt_of_le lp hb.size
  replace lq := Nat.lt_of_lt_of_le lq hb.size
  replace B := B.trans (hb.mono B.size)
  clear hb
  clear x0 x1 x2 x3 x4 x5 x6 x7 x8 x9 x10 p0 p1 p2 pf0 pf1 pf2 q0 q1 q2 qf0 qf1 qf2
  obtain ⟨x0, x1, x2, x3, x4, x5, x6, x7, x8, x9, x10⟩ := id m
  obtain ⟨⟨⟨p0, pf0⟩, ⟨p1, pf1⟩⟩, p2, pf2⟩ := id p
  obtain ⟨⟨⟨q0, qf0⟩, ⟨q1, qf1⟩⟩, q2, qf2⟩ := id q
  go_wp2_with fail
  replace q := q.put K3 N3 S3
  replace p := p.far (B := w3.heap.size) (by omega) K3 N3 S3
  replace m := m.far (B := w3.heap.size) (by omega) K3 N3 S3
  replace B := below_put3 (B := w3.heap.size) B (by omega) K3 N3 S3
  replace l := ltp l w3.heap.size K3 N3 S3
  replace lp := ltp lp w3.heap.size K3 N3 S3
  replace lq := ltp lq w3.heap.size K3 N3 S3
  change Code.wp Tryd.prog _ _ _ (put3 y3 w3.heap.size K3 N3 S3)
  generalize put3 y3 w3.heap.size K3 N3 S3 = Z3 at m p q B l lp lq ⊢
  clear x0 x1 x2 x3 x4 x5 x6 x7 x8 x9 x10 p0 p1 p2 pf0 pf1 pf2 q0 q1 q2 qf0 qf1 qf2
  obtain ⟨x0, x1, x2, x3, x4, x5, x6, x7, x8, x9, x10⟩ := id m
  obtain ⟨⟨⟨p0, pf0⟩, ⟨p1, pf1⟩⟩, p2, pf2⟩ := id p
  obtain ⟨⟨⟨q0, qf0⟩, ⟨q1, qf1⟩⟩, q2, qf2⟩ := id q
  have T := HT.out.next B
  have g1 := cell_regrown x1
  have g2 := cell_regrown x2
  have g3 := cell_regrown x3
  have g4 := cell_regrown x4
  have d1 : ∀ d os, Calls Tryd.prog 7 #[.agg #[.int .i64 k, .int .i64 n, .string s]] (Sort.grow (redrawn Z3 d) os) fun e w'' => e = .returned (.bool va) ∧ ∃ p : Regrown, w'' = Sort.grow (redrawn Z3 p.d) p.os := fun d os => Calls.regrown_of (vc _)
  have d2 : ∀ d os, Calls Tryd.prog 15 #[.agg #[.int .i64 k, .int .i64 n, .string s]] (Sort.grow (redrawn Z3 d) os) fun e w'' => e = .returned (.bool va) ∧ ∃ p : Regrown, w'' = Sort.grow (redrawn Z3 p.d) p.os := fun d os => Calls.regrown_of (vr _)
  have d3 : ∀ d os, Calls Tryd.prog 16 #[.int .i64 kd] (Sort.grow (redrawn Z3 d) os) fun e w'' => e = .returned (.agg #[.int .i64 zk, .int .i64 0, .string e0]) ∧ ∃ p : Regrown, w'' = Sort.grow (redrawn Z3 p.d) p.os := fun d os => Calls.regrown_of (zc _)
  have d4 : ∀ d os, Calls Tryd.prog 17 #[.int .i64 kd] (Sort.grow (redrawn Z3 d) os) fun e w'' => e = .returned (.agg #[.int .i64 zk, .int .i64 0, .string e0]) ∧ ∃ p : Regrown, w'' = Sort.grow (redrawn Z3 p.d) p.os := fun d os => Calls.regrown_of (zr _)
  have d5 : ∀ d os, Calls Tryd.prog 8 #[.agg #[.int .i64 k, .int .i64 n, .string s]] (Sort.grow (redrawn Z3 d) os) fun e w'' => e = .returned (.string SS) ∧ ∃ p : Regrown, w'' = Sort.grow (redrawn Z3 p.d) p.os := fun d os => Calls.regrown_of (tc _ (T.next (below_regrown Z3 d os)))
  have d6 : ∀ d os, Calls Tryd.prog 18 #[.agg #[.int .i64 k, .int .i64 n, .string s]] (Sort.grow (redrawn Z3 d) os) fun e w'' => e = .returned (.string SS) ∧ ∃ p : Regrown, w'' = Sort.grow (redrawn Z3 p.d) p.os := fun d os => Calls.regrown_of (tr _ (T.next (below_regrown Z3 d os)))
  have d7 : ∀ d os, Calls Tryd.prog 6 #[.agg #[.int .i64 k, .int .i64 n, .string s]] (Sort.grow (redrawn Z3 d) os) fun e w'' => e = .returned (.string HH) ∧ ∃ p : Regrown, w'' = Sort.grow (redrawn Z3 p.d) p.os := fun d os => Calls.regrown_of (hc _ (T.next (below_regrown Z3 d os)))
  have d8 : ∀ d os, Calls Tryd.prog 19 #[.agg #[.int .i64 k, .int .i64 n, .string s]] (Sort.grow (redrawn Z3 d) os) fun e w'' => e = .returned (.string HH) ∧ ∃ p : Regrown, w'' = Sort.grow (redrawn Z3 p.d) p.os := fun d os => Calls.regrown_of (hr _ (T.next (below_regrown Z3 d os)))
  refine wp_region_quiet_below (by kernel_rfl) (by kernel_rfl) ?_
  repeat (first | go_big_quiet_step (first | with_reducible exact d1 _ _ | with_reducible exact d2 _ _ | with_reducible exact d3 _ _ | with_reducible exact d4 _ _ | with_reducible exact d5 _ _ | with_reducible exact d6 _ _ | with_reducible exact d7 _ _ | with_reducible exact d8 _ _) | quiet_step (first | with_reducible exact d1 _ _ | with_reducible exact d2 _ _ | with_reducible exact d3 _ _ | with_reducible exact d4 _ _ | with_reducible exact d5 _ _ | with_reducible exact d6 _ _ | with_reducible exact d7 _ _ | with_reducible exact d8 _ _))
  refine wpQuiet_nil ?_
  intro _ hw'
  obtain ⟨⟨dq, osq⟩, hw''⟩ := hw'
  subst hw''
  have hY := below_regrown Z3 dq osq
  change Exit.then _ _ Exit.normal _ (Sort.grow (redrawn Z3 dq) osq)
  generalize Sort.grow (redrawn Z3 dq) osq = Y at hY ⊢
  replace B := B.trans (hY.mono B.size)
  go_wp2
  go_ret
  exact ⟨rfl, B⟩
end Go.Proofs.YtfghajokmmlijaaDoor
