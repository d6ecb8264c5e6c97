import Derived.Test.YtdcaonfnhdjibaaDoorVWd
namespace Go.Proofs.YtdcaonfnhdjibaaDoor
open Go.RowKit

/-! Of the reference: further, gives. -/
def FuP (fn : Nat) (w : World) (iq eq tq : Option Addr) (ia ea ta : Nat) (c : Cd) (f : Nat) (k A Bb : Int) (u : Value) (r : Value) : Prop :=
  Calls Tryd.prog fn #[codeV iq eq tq ia ea ta c, .int .i64 (f : Int), .agg #[.int .i64 k, .int .i64 A, .int .i64 Bb], u] w fun z w' => z = .returned r ∧ Below w.heap.size w w'
section
variable {w : World} {B : Nat} {iq eq tq : Option Addr} {Es : List Em} {c : Cd}

set_option maxRecDepth 100000 in
set_option maxHeartbeats 4000000 in
theorem fu8 (ia ea ta f : Nat) (A Bb : Int) (g o cap : Nat) (a b : Int) (hg : g < w.heap.size) (hr : w.rangeAt g o (sv [a, b])) : FuP 35 w iq eq tq ia ea ta c f 8 A Bb (.slice (some ⟨g, o, none⟩) 2 cap) (.bool (decide (a = b) && (opR A a).1)) := by
  obtain ⟨Y, hYe⟩ : ∃ Y, ((w.alloc (.cells #[.slice iq c.ins.length ia, .slice eq c.ens.length ea, .slice tq c.txs.length ta, .int .i64 c.main] 26)).alloc (.cells #[.int .i64 8, .int .i64 A, .int .i64 Bb] 38)) = Y := ⟨_, rfl⟩
  have hb := bx2_new w iq eq tq ia ea ta c 8 A Bb
  rw [hYe] at hb
  have y0 := (hb.g.cell 0 _ rfl).1
  have y1 := (hb.g.cell 1 _ rfl).1
  have HB : Hid (Below w.heap.size w Y) := hb.b
  have hr2 := range_same hr (hb.b.block g hg)
  have s0 : Y.cell? ⟨g, o + 0, none⟩ = some (.int .i64 a) := hr2 0 _ rfl
  have s1 : Y.cell? ⟨g, o + 1, none⟩ = some (.int .i64 b) := hr2 1 _ rfl
  rw [Nat.add_zero] at s0
  have cO : ∀ dd os, Calls Tryd.prog 47 #[.int .i64 A, .int .i64 a] (Sort.grow (redrawn Y dd) os) fun e w'' => e = .returned (.tuple #[.bool (opR A a).1, .int .i64 (opR A a).2]) ∧ ∃ z : Regrown, w'' = Sort.grow (redrawn Y z.d) z.os := fun dd os => (operator_any _ A a).mono fun _ _ ⟨e1, e2⟩ => ⟨e1, ⟨dd, os⟩, e2⟩
  obtain ⟨P, hP⟩ : ∃ P, opR A a = P := ⟨_, rfl⟩
  rw [hP] at cO ⊢
  obtain ⟨p1, p2⟩ := P
  simp only at cO ⊢
  clear hb hr2 hP
  unfold FuP codeV
  go_enter Tryd.func35, Tryd.ntmps35
  go_upto_region 3 with fail
  have u1 := cell_regrown y1
  have u2 := cell_regrown s0
  refine wp_region_quiet_below (by kernel_rfl) (by kernel_rfl) ?_
  repeat (first | go_big_quiet_step (first | with_reducible exact cO _ _) | quiet_step (first | with_reducible exact cO _ _))
  refine wpQuiet_nil ?_
  intro _ hw'
  obtain ⟨⟨dq, osq⟩, hw''⟩ := hw'
  subst hw''
  have hY := below_regrown Y dq osq
  first | (change Exit.then _ _ Exit.normal _ (Sort.grow (redrawn Y dq) osq)) | skip
  generalize Sort.grow (redrawn Y dq) osq = Y3 at hY ⊢
  clear cO
  clear u1 u2
  have t0 := (hY.cell (p := ⟨g, o, none⟩) (Nat.lt_of_lt_of_le hg HB.out.size)).trans s0
  have t1 := (hY.cell (p := ⟨g, o + 1, none⟩) (Nat.lt_of_lt_of_le hg HB.out.size)).trans s1
  have HB3 : Hid (Below w.heap.size w Y3) := below2 HB.out hY
  go_upto_region 4 with fail
  by_cases hab : a = b
  · subst hab
    have u1 := cell_regrown t0
    have u2 := cell_regrown t1
    refine wp_region_quiet_below (by kernel_rfl) (by kernel_rfl) ?_
    repeat (first | go_big_quiet_step (first | fail) | quiet_step (first | fail))
    refine wpQuiet_nil ?_
    intro _ hw'
    obtain ⟨⟨dq, osq⟩, hw''⟩ := hw'
    subst hw''
    have hY := below_regrown Y3 dq osq
    first | (change Exit.then _ _ Exit.normal _ (Sort.grow (redrawn Y3 dq) osq)) | skip
    generalize Sort.grow (redrawn Y3 dq) osq = Y4 at hY ⊢
    clear u1 u2
    have HB4 : Hid (Below w.heap.size w Y4) := below2 HB3.out hY
    go_wp2
    go_ret
    exact ⟨by simp, HB4.out⟩
  · have eab : (a == b) = false := by rw [beq_eq_false_iff_ne]; exact hab
    have u1 := cell_regrown t0
    have u2 := cell_regrown t1
    refine wp_region_quiet_below (by kernel_rfl) (by kernel_rfl) ?_
    repeat (first | go_big_quiet_step (first | fail) | quiet_step (first | fail))
    refine wpQuiet_nil ?_
    intro _ hw'
    obtain ⟨⟨dq, osq⟩, hw''⟩ := hw'
    subst hw''
    have hY := below_regrown Y3 dq osq
    first | (change Exit.then _ _ Exit.normal _ (Sort.grow (redrawn Y3 dq) osq)) | skip
    generalize Sort.grow (redrawn Y3 dq) osq = Y4 at hY ⊢
    clear u1 u2
    have HB4 : Hid (Below w.heap.size w Y4) := below2 HB3.out hY
    go_wp2
    go_ret
    exact ⟨by simp [hab], HB4.out⟩

set_option maxRecDepth 100000 in
set_option maxHeartbeats 4000000 in
theorem fu15 (ia ea ta f : Nat) (A Bb : Int) (g o cap : Nat) (a b : Int) (hg : g < w.heap.size) (hr : w.rangeAt g o (sv [a, b])) : FuP 35 w iq eq tq ia ea ta c f 15 A Bb (.slice (some ⟨g, o, none⟩) 2 cap) (.bool (decide (5 ≤ a) || a == 3)) := by
  obtain ⟨Y, hYe⟩ : ∃ Y, ((w.alloc (.cells #[.slice iq c.ins.length ia, .slice eq c.ens.length ea, .slice tq c.txs.length ta, .int .i64 c.main] 26)).alloc (.cells #[.int .i64 15, .int .i64 A, .int .i64 Bb] 38)) = Y := ⟨_, rfl⟩
  have hb := bx2_new w iq eq tq ia ea ta c 15 A Bb
  rw [hYe] at hb
  have y0 := (hb.g.cell 0 _ rfl).1
  have y1 := (hb.g.cell 1 _ rfl).1
  have HB : Hid (Below w.heap.size w Y) := hb.b
  have hr2 := range_same hr (hb.b.block g hg)
  have s0 : Y.cell? ⟨g, o + 0, none⟩ = some (.int .i64 a) := hr2 0 _ rfl
  have s1 : Y.cell? ⟨g, o + 1, none⟩ = some (.int .i64 b) := hr2 1 _ rfl
  rw [Nat.add_zero] at s0
  clear hb hr2
  by_cases h5 : 5 ≤ a
  · unfold FuP codeV
    go_enter Tryd.func35, Tryd.ntmps35
    go_wp2
    go_ret
    exact ⟨by simp [h5], HB.out⟩
  · unfold FuP codeV
    go_enter Tryd.func35, Tryd.ntmps35
    go_wp2
    go_ret
    exact ⟨by rw [decide_eq_false (show ¬ (5 : Int) ≤ a by omega), Bool.false_or]; rfl, HB.out⟩

set_option maxRecDepth 100000 in
set_option maxHeartbeats 4000000 in
theorem fu17 (ia ea ta f : Nat) (A Bb : Int) (g o cap : Nat) (a : Int) (hg : g < w.heap.size) (hr : w.rangeAt g o (sv [a])) : FuP 35 w iq eq tq ia ea ta c f 17 A Bb (.slice (some ⟨g, o, none⟩) 1 cap) (.bool (decide (5 ≤ a) || a == 3)) := by
  obtain ⟨Y, hYe⟩ : ∃ Y, ((w.alloc (.cells #[.slice iq c.ins.length ia, .slice eq c.ens.length ea, .slice tq c.txs.length ta, .int .i64 c.main] 26)).alloc (.cells #[.int .i64 17, .int .i64 A, .int .i64 Bb] 38)) = Y := ⟨_, rfl⟩
  have hb := bx2_new w iq eq tq ia ea ta c 17 A Bb
  rw [hYe] at hb
  have y0 := (hb.g.cell 0 _ rfl).1
  have y1 := (hb.g.cell 1 _ rfl).1
  have HB : Hid (Below w.heap.size w Y) := hb.b
  have hr2 := range_same hr (hb.b.block g hg)
  have s0 : Y.cell? ⟨g, o + 0, none⟩ = some (.int .i64 a) := hr2 0 _ rfl
  rw [Nat.add_zero] at s0
  clear hb hr2
  by_cases h5 : 5 ≤ a
  · unfold FuP codeV
    go_enter Tryd.func35, Tryd.ntmps35
    go_wp2
    go_ret
    exact ⟨by simp [h5], HB.out⟩
  · unfold FuP codeV
    go_enter Tryd.func35, Tryd.ntmps35
    go_wp2
    go_ret
    exact ⟨by rw [decide_eq_false (show ¬ (5 : Int) ≤ a by omega), Bool.false_or]; rfl, HB.out⟩

set_option maxRecDepth 100000 in
set_option maxHeartbeats 4000000 in
theorem fu16 (ia ea ta f : Nat) (A Bb : Int) (g o cap : Nat) (a b d : Int) (hg : g < w.heap.size) (hr : w.rangeAt g o (sv [a, b, d])) (ha : -9223372036854775804 ≤ a ∧ a ≤ 9223372036854775807) : FuP 35 w iq eq tq ia ea ta c f 16 A Bb (.slice (some ⟨g, o, none⟩) 3 cap) (.bool (decide (d = a - 4))) := by
  obtain ⟨Y, hYe⟩ : ∃ Y, ((w.alloc (.cells #[.slice iq c.ins.length ia, .slice eq c.ens.length ea, .slice tq c.txs.length ta, .int .i64 c.main] 26)).alloc (.cells #[.int .i64 16, .int .i64 A, .int .i64 Bb] 38)) = Y := ⟨_, rfl⟩
  have hb := bx2_new w iq eq tq ia ea ta c 16 A Bb
  rw [hYe] at hb
  have y0 := (hb.g.cell 0 _ rfl).1
  have y1 := (hb.g.cell 1 _ rfl).1
  have HB : Hid (Below w.heap.size w Y) := hb.b
  have hr2 := range_same hr (hb.b.block g hg)
  have s0 : Y.cell? ⟨g, o + 0, none⟩ = some (.int .i64 a) := hr2 0 _ rfl
  have s1 : Y.cell? ⟨g, o + 1, none⟩ = some (.int .i64 b) := hr2 1 _ rfl
  have s2 : Y.cell? ⟨g, o + 2, none⟩ = some (.int .i64 d) := hr2 2 _ rfl
  rw [Nat.add_zero] at s0
  have hw : IntKind.i64.wrap (a - 4) = a - 4 := by rw [IntKind.wrap_i64]; omega
  obtain ⟨a4, ha4⟩ : ∃ a4, a - 4 = a4 := ⟨_, rfl⟩
  rw [ha4] at hw ⊢
  have hw2 : IntKind.i64.wrap (a - 4) = a4 := by rw [ha4]; exact hw
  clear hb hr2 ha4 hw
  unfold FuP codeV
  go_enter Tryd.func35, Tryd.ntmps35
  go_upto_region 9 with fail
  have u1 := cell_regrown s2
  have u2 := cell_regrown s0
  refine wp_region_quiet_below (by kernel_rfl) (by kernel_rfl) ?_
  repeat (first | go_big_quiet_step (first | fail) | quiet_step (first | fail))
  refine wpQuiet_nil ?_
  intro _ hw'
  obtain ⟨⟨dq, osq⟩, hw''⟩ := hw'
  subst hw''
  have hY := below_regrown Y dq osq
  first | (change Exit.then _ _ Exit.normal _ (Sort.grow (redrawn Y dq) osq)) | skip
  generalize Sort.grow (redrawn Y dq) osq = Y3 at hY ⊢
  clear u1 u2
  have HB3 : Hid (Below w.heap.size w Y3) := below2 HB.out hY
  go_wp2
  go_ret
  exact ⟨by first | rfl | simp, HB3.out⟩

set_option maxRecDepth 100000 in
set_option maxHeartbeats 4000000 in
theorem fu13 (m : CodeM w B iq eq tq Es c) (ia ea ta : Nat) (hB : B ≤ w.heap.size) (f : Nat) (hf : f < c.ens.length) (A Bb : Int) (u : Value) : FuP 35 w iq eq tq ia ea ta c f 13 A Bb u (.bool (decide ((enAt c.ens f).result = 0))) := by
  obtain ⟨Y, hYe⟩ : ∃ Y, ((w.alloc (.cells #[.slice iq c.ins.length ia, .slice eq c.ens.length ea, .slice tq c.txs.length ta, .int .i64 c.main] 26)).alloc (.cells #[.int .i64 13, .int .i64 A, .int .i64 Bb] 38)) = Y := ⟨_, rfl⟩
  have hb := bx2_new w iq eq tq ia ea ta c 13 A Bb
  rw [hYe] at hb
  have y0 := (hb.g.cell 0 _ rfl).1
  have y1 := (hb.g.cell 1 _ rfl).1
  have HB : Hid (Below w.heap.size w Y) := hb.b
  obtain ⟨g, o, dq, dc, hq, hg, hr, hrow, -⟩ := code_ent (m.below hb.b hB) f hf
  have x1 := (hb.f.cell 1 _ rfl).1
  rw [hq] at x1
  have r4 := hr 4 _ rfl
  have a0 : (0 : Int) ≤ (f : Int) := by omega
  have a1 : (f : Int) < (c.ens.length : Int) := by omega
  generalize (enAt c.ens f).result = t at *
  clear hb m hr hrow hg hB hf
  subst hq
  unfold FuP codeV
  go_enter Tryd.func35, Tryd.ntmps35
  go_wp2
  go_ret
  exact ⟨by first | rfl | simp, HB.out⟩

set_option maxRecDepth 100000 in
set_option maxHeartbeats 4000000 in
theorem fuOther (ia ea ta f : Nat) (k A Bb : Int) (u : Value) (h8 : k ≠ 8) (h15 : k ≠ 15) (h17 : k ≠ 17) (h16 : k ≠ 16) (h13 : k ≠ 13) : FuP 35 w iq eq tq ia ea ta c f k A Bb u (.bool true) := by
  obtain ⟨Y, hYe⟩ : ∃ Y, ((w.alloc (.cells #[.slice iq c.ins.length ia, .slice eq c.ens.length ea, .slice tq c.txs.length ta, .int .i64 c.main] 26)).alloc (.cells #[.int .i64 k, .int .i64 A, .int .i64 Bb] 38)) = Y := ⟨_, rfl⟩
  have hb := bx2_new w iq eq tq ia ea ta c k A Bb
  rw [hYe] at hb
  have y0 := (hb.g.cell 0 _ rfl).1
  have y1 := (hb.g.cell 1 _ rfl).1
  have HB : Hid (Below w.heap.size w Y) := hb.b
  have e8 : (k == 8) = false := by rw [beq_eq_false_iff_ne]; exact h8
  have e15 : (k == 15) = false := by rw [beq_eq_false_iff_ne]; exact h15
  have e17 : (k == 17) = false := by rw [beq_eq_false_iff_ne]; exact h17
  have e16 : (k == 16) = false := by rw [beq_eq_false_iff_ne]; exact h16
  have e13 : (k == 13) = false := by rw [beq_eq_false_iff_ne]; exact h13
  clear h8 h15 h17 h16 h13 hb
  unfold FuP codeV
  go_enter Tryd.func35, Tryd.ntmps35
  go_wp2
  go_ret
  exact ⟨rfl, HB.out⟩

set_option maxRecDepth 100000 in
set_option maxHeartbeats 4000000 in
theorem gv1 (ia ea ta f : Nat) (A Bb : Int) (u : Value) : FuP 36 w iq eq tq ia ea ta c f 1 A Bb u (.int .i64 1) := by
  obtain ⟨Y, hYe⟩ : ∃ Y, ((w.alloc (.cells #[.slice iq c.ins.length ia, .slice eq c.ens.length ea, .slice tq c.txs.length ta, .int .i64 c.main] 26)).alloc (.cells #[.int .i64 1, .int .i64 A, .int .i64 Bb] 38)) = Y := ⟨_, rfl⟩
  have hb := bx2_new w iq eq tq ia ea ta c 1 A Bb
  rw [hYe] at hb
  have y0 := (hb.g.cell 0 _ rfl).1
  have y1 := (hb.g.cell 1 _ rfl).1
  have HB : Hid (Below w.heap.size w Y) := hb.b
  clear hb
  unfold FuP codeV
  go_enter Tryd.func36, Tryd.ntmps36
  go_wp2
  go_ret
  exact ⟨rfl, HB.out⟩

set_option maxRecDepth 100000 in
set_option maxHeartbeats 4000000 in
theorem gv20 (ia ea ta f : Nat) (A Bb : Int) (u : Value) : FuP 36 w iq eq tq ia ea ta c f 20 A Bb u (.int .i64 1) := by
  obtain ⟨Y, hYe⟩ : ∃ Y, ((w.alloc (.cells #[.slice iq c.ins.length ia, .slice eq c.ens.length ea, .slice tq c.txs.length ta, .int .i64 c.main] 26)).alloc (.cells #[.int .i64 20, .int .i64 A, .int .i64 Bb] 38)) = Y := ⟨_, rfl⟩
  have hb := bx2_new w iq eq tq ia ea ta c 20 A Bb
  rw [hYe] at hb
  have y0 := (hb.g.cell 0 _ rfl).1
  have y1 := (hb.g.cell 1 _ rfl).1
  have HB : Hid (Below w.heap.size w Y) := hb.b
  clear hb
  unfold FuP codeV
  go_enter Tryd.func36, Tryd.ntmps36
  go_wp2
  go_ret
  exact ⟨rfl, HB.out⟩

set_option maxRecDepth 100000 in
set_option maxHeartbeats 4000000 in
theorem gv17 (ia ea ta f : Nat) (A Bb : Int) (u : Value) : FuP 36 w iq eq tq ia ea ta c f 17 A Bb u (.int .i64 1) := by
  obtain ⟨Y, hYe⟩ : ∃ Y, ((w.alloc (.cells #[.slice iq c.ins.length ia, .slice eq c.ens.length ea, .slice tq c.txs.length ta, .int .i64 c.main] 26)).alloc (.cells #[.int .i64 17, .int .i64 A, .int .i64 Bb] 38)) = Y := ⟨_, rfl⟩
  have hb := bx2_new w iq eq tq ia ea ta c 17 A Bb
  rw [hYe] at hb
  have y0 := (hb.g.cell 0 _ rfl).1
  have y1 := (hb.g.cell 1 _ rfl).1
  have HB : Hid (Below w.heap.size w Y) := hb.b
  clear hb
  unfold FuP codeV
  go_enter Tryd.func36, Tryd.ntmps36
  go_wp2
  go_ret
  exact ⟨rfl, HB.out⟩

set_option maxRecDepth 100000 in
set_option maxHeartbeats 4000000 in
theorem gv2 (ia ea ta f : Nat) (A Bb : Int) (u : Value) : FuP 36 w iq eq tq ia ea ta c f 2 A Bb u (.int .i64 2) := by
  obtain ⟨Y, hYe⟩ : ∃ Y, ((w.alloc (.cells #[.slice iq c.ins.length ia, .slice eq c.ens.length ea, .slice tq c.txs.length ta, .int .i64 c.main] 26)).alloc (.cells #[.int .i64 2, .int .i64 A, .int .i64 Bb] 38)) = Y := ⟨_, rfl⟩
  have hb := bx2_new w iq eq tq ia ea ta c 2 A Bb
  rw [hYe] at hb
  have y0 := (hb.g.cell 0 _ rfl).1
  have y1 := (hb.g.cell 1 _ rfl).1
  have HB : Hid (Below w.heap.size w Y) := hb.b
  clear hb
  unfold FuP codeV
  go_enter Tryd.func36, Tryd.ntmps36
  go_wp2
  go_ret
  exact ⟨rfl, HB.out⟩

set_option maxRecDepth 100000 in
set_option maxHeartbeats 4000000 in
theorem gv3 (ia ea ta f : Nat) (A Bb : Int) (u : Value) : FuP 36 w iq eq tq ia ea ta c f 3 A Bb u (.int .i64 3) := by
  obtain ⟨Y, hYe⟩ : ∃ Y, ((w.alloc (.cells #[.slice iq c.ins.length ia, .slice eq c.ens.length ea, .slice tq c.txs.length ta, .int .i64 c.main] 26)).alloc (.cells #[.int .i64 3, .int .i64 A, .int .i64 Bb] 38)) = Y := ⟨_, rfl⟩
  have hb := bx2_new w iq eq tq ia ea ta c 3 A Bb
  rw [hYe] at hb
  have y0 := (hb.g.cell 0 _ rfl).1
  have y1 := (hb.g.cell 1 _ rfl).1
  have HB : Hid (Below w.heap.size w Y) := hb.b
  clear hb
  unfold FuP codeV
  go_enter Tryd.func36, Tryd.ntmps36
  go_wp2
  go_ret
  exact ⟨rfl, HB.out⟩

set_option maxRecDepth 100000 in
set_option maxHeartbeats 4000000 in
theorem gv18 (ia ea ta f : Nat) (A Bb : Int) (u : Value) : FuP 36 w iq eq tq ia ea ta c f 18 A Bb u (.int .i64 3) := by
  obtain ⟨Y, hYe⟩ : ∃ Y, ((w.alloc (.cells #[.slice iq c.ins.length ia, .slice eq c.ens.length ea, .slice tq c.txs.length ta, .int .i64 c.main] 26)).alloc (.cells #[.int .i64 18, .int .i64 A, .int .i64 Bb] 38)) = Y := ⟨_, rfl⟩
  have hb := bx2_new w iq eq tq ia ea ta c 18 A Bb
  rw [hYe] at hb
  have y0 := (hb.g.cell 0 _ rfl).1
  have y1 := (hb.g.cell 1 _ rfl).1
  have HB : Hid (Below w.heap.size w Y) := hb.b
  clear hb
  unfold FuP codeV
  go_enter Tryd.func36, Tryd.ntmps36
  go_wp2
  go_ret
  exact ⟨rfl, HB.out⟩

set_option maxRecDepth 100000 in
set_option maxHeartbeats 4000000 in
theorem gv7 (ia ea ta f : Nat) (A Bb : Int) (g o cap : Nat) (a : Int) (hg : g < w.heap.size) (hr : w.rangeAt g o (sv [a])) : FuP 36 w iq eq tq ia ea ta c f 7 A Bb (.slice (some ⟨g, o, none⟩) 1 cap) (.int .i64 a) := by
  obtain ⟨Y, hYe⟩ : ∃ Y, ((w.alloc (.cells #[.slice iq c.ins.length ia, .slice eq c.ens.length ea, .slice tq c.txs.length ta, .int .i64 c.main] 26)).alloc (.cells #[.int .i64 7, .int .i64 A, .int .i64 Bb] 38)) = Y := ⟨_, rfl⟩
  have hb := bx2_new w iq eq tq ia ea ta c 7 A Bb
  rw [hYe] at hb
  have y0 := (hb.g.cell 0 _ rfl).1
  have y1 := (hb.g.cell 1 _ rfl).1
  have HB : Hid (Below w.heap.size w Y) := hb.b
  have hr2 := range_same hr (hb.b.block g hg)
  have s0 : Y.cell? ⟨g, o + 0, none⟩ = some (.int .i64 a) := hr2 0 _ rfl
  rw [Nat.add_zero] at s0
  clear hb hr2
  unfold FuP codeV
  go_enter Tryd.func36, Tryd.ntmps36
  go_wp2
  go_ret
  exact ⟨rfl, HB.out⟩

set_option maxRecDepth 100000 in
set_option maxHeartbeats 4000000 in
theorem gv23 (ia ea ta f : Nat) (A Bb : Int) (g o cap : Nat) (a : Int) (hg : g < w.heap.size) (hr : w.rangeAt g o (sv [a])) : FuP 36 w iq eq tq ia ea ta c f 23 A Bb (.slice (some ⟨g, o, none⟩) 1 cap) (.int .i64 a) := by
  obtain ⟨Y, hYe⟩ : ∃ Y, ((w.alloc (.cells #[.slice iq c.ins.length ia, .slice eq c.ens.length ea, .slice tq c.txs.length ta, .int .i64 c.main] 26)).alloc (.cells #[.int .i64 23, .int .i64 A, .int .i64 Bb] 38)) = Y := ⟨_, rfl⟩
  have hb := bx2_new w iq eq tq ia ea ta c 23 A Bb
  rw [hYe] at hb
  have y0 := (hb.g.cell 0 _ rfl).1
  have y1 := (hb.g.cell 1 _ rfl).1
  have HB : Hid (Below w.heap.size w Y) := hb.b
  have hr2 := range_same hr (hb.b.block g hg)
  have s0 : Y.cell? ⟨g, o + 0, none⟩ = some (.int .i64 a) := hr2 0 _ rfl
  rw [Nat.add_zero] at s0
  clear hb hr2
  unfold FuP codeV
  go_enter Tryd.func36, Tryd.ntmps36
  go_wp2
  go_ret
  exact ⟨rfl, HB.out⟩

set_option maxRecDepth 100000 in
set_option maxHeartbeats 4000000 in
theorem gv8 (ia ea ta f : Nat) (A Bb : Int) (g o cap : Nat) (a b : Int) (hg : g < w.heap.size) (hr : w.rangeAt g o (sv [a, b])) : FuP 36 w iq eq tq ia ea ta c f 8 A Bb (.slice (some ⟨g, o, none⟩) 2 cap) (.int .i64 (opR A a).2) := by
  obtain ⟨Y, hYe⟩ : ∃ Y, ((w.alloc (.cells #[.slice iq c.ins.length ia, .slice eq c.ens.length ea, .slice tq c.txs.length ta, .int .i64 c.main] 26)).alloc (.cells #[.int .i64 8, .int .i64 A, .int .i64 Bb] 38)) = Y := ⟨_, rfl⟩
  have hb := bx2_new w iq eq tq ia ea ta c 8 A Bb
  rw [hYe] at hb
  have y0 := (hb.g.cell 0 _ rfl).1
  have y1 := (hb.g.cell 1 _ rfl).1
  have HB : Hid (Below w.heap.size w Y) := hb.b
  have hr2 := range_same hr (hb.b.block g hg)
  have s0 : Y.cell? ⟨g, o + 0, none⟩ = some (.int .i64 a) := hr2 0 _ rfl
  have s1 : Y.cell? ⟨g, o + 1, none⟩ = some (.int .i64 b) := hr2 1 _ rfl
  rw [Nat.add_zero] at s0
  have cO : ∀ dd os, Calls Tryd.prog 47 #[.int .i64 A, .int .i64 a] (Sort.grow (redrawn Y dd) os) fun e w'' => e = .returned (.tuple #[.bool (opR A a).1, .int .i64 (opR A a).2]) ∧ ∃ z : Regrown, w'' = Sort.grow (redrawn Y z.d) z.os := fun dd os => (operator_any _ A a).mono fun _ _ ⟨e1, e2⟩ => ⟨e1, ⟨dd, os⟩, e2⟩
  obtain ⟨P, hP⟩ : ∃ P, opR A a = P := ⟨_, rfl⟩
  rw [hP] at cO ⊢
  obtain ⟨p1, p2⟩ := P
  simp only at cO ⊢
  clear hb hr2 hP
  unfold FuP codeV
  go_enter Tryd.func36, Tryd.ntmps36
  go_upto_region 17 with fail
  have u1 := cell_regrown y1
  have u2 := cell_regrown s0
  refine wp_region_quiet_below (by kernel_rfl) (by kernel_rfl) ?_
  repeat (first | go_big_quiet_step (first | with_reducible exact cO _ _) | quiet_step (first | with_reducible exact cO _ _))
  refine wpQuiet_nil ?_
  intro _ hw'
  obtain ⟨⟨dq, osq⟩, hw''⟩ := hw'
  subst hw''
  have hY := below_regrown Y dq osq
  first | (change Exit.then _ _ Exit.normal _ (Sort.grow (redrawn Y dq) osq)) | skip
  generalize Sort.grow (redrawn Y dq) osq = Y3 at hY ⊢
  clear cO
  clear u1 u2
  have HB3 : Hid (Below w.heap.size w Y3) := below2 HB.out hY
  go_wp2
  go_ret
  exact ⟨rfl, HB3.out⟩

set_option maxRecDepth 100000 in
set_option maxHeartbeats 4000000 in
theorem gv4 (m : CodeM w B iq eq tq Es c) (ia ea ta : Nat) (hB : B ≤ w.heap.size) (f : Nat) (hf : f < c.ens.length) (A Bb : Int) (u : Value) (hA0 : 0 ≤ A) (hA1 : A < ((enAt c.ens f).sorts.length : Int)) : FuP 36 w iq eq tq ia ea ta c f 4 A Bb u (.int .i64 ((enAt c.ens f).sorts.getD A.toNat 0)) := by
  obtain ⟨a, rfl⟩ : ∃ a : Nat, A = (a : Int) := ⟨A.toNat, by omega⟩
  rw [Int.toNat_natCast]
  obtain ⟨Y, hYe⟩ : ∃ Y, ((w.alloc (.cells #[.slice iq c.ins.length ia, .slice eq c.ens.length ea, .slice tq c.txs.length ta, .int .i64 c.main] 26)).alloc (.cells #[.int .i64 4, .int .i64 (a : Int), .int .i64 Bb] 38)) = Y := ⟨_, rfl⟩
  have hb := bx2_new w iq eq tq ia ea ta c 4 (a : Int) Bb
  rw [hYe] at hb
  have y0 := (hb.g.cell 0 _ rfl).1
  have y1 := (hb.g.cell 1 _ rfl).1
  have HB : Hid (Below w.heap.size w Y) := hb.b
  obtain ⟨g, o, dq, dc, hq, hg, hr, hrow, -⟩ := code_ent (m.below hb.b hB) f hf
  obtain ⟨g2, o2, rfl, hg2, hr2⟩ := row_get hrow a (by omega)
  have x1 := (hb.f.cell 1 _ rfl).1
  rw [hq] at x1
  have r3 := hr 3 _ rfl
  have s0 := hr2 a (.int .i64 ((enAt c.ens f).sorts.getD a 0)) (sv_get (by omega))
  have a0 : (0 : Int) ≤ (f : Int) := by omega
  have a1 : (f : Int) < (c.ens.length : Int) := by omega
  generalize (enAt c.ens f).sorts.getD a 0 = t at *
  generalize (enAt c.ens f).sorts.length = sl at *
  clear hb m hr hrow hg hg2 hr2 hB hf
  subst hq
  unfold FuP codeV
  go_enter Tryd.func36, Tryd.ntmps36
  go_upto_region 12 with fail
  have u1 := cell_regrown y1
  have u2 := cell_regrown s0
  have u3 := cell_regrown x1
  have u4 := cell_regrown r3
  refine wp_region_quiet_below (by kernel_rfl) (by kernel_rfl) ?_
  repeat (first | go_big_quiet_step (first | fail) | quiet_step (first | fail))
  refine wpQuiet_nil ?_
  intro _ hw'
  obtain ⟨⟨dq, osq⟩, hw''⟩ := hw'
  subst hw''
  have hY := below_regrown Y dq osq
  first | (change Exit.then _ _ Exit.normal _ (Sort.grow (redrawn Y dq) osq)) | skip
  generalize Sort.grow (redrawn Y dq) osq = Y3 at hY ⊢
  clear u1 u2 u3 u4
  have HB3 : Hid (Below w.heap.size w Y3) := below2 HB.out hY
  go_wp2
  go_ret
  exact ⟨rfl, HB3.out⟩

set_option maxRecDepth 100000 in
set_option maxHeartbeats 4000000 in
theorem gv11 (m : CodeM w B iq eq tq Es c) (ia ea ta : Nat) (hB : B ≤ w.heap.size) (f : Nat) (A Bb : Int) (u : Value) (hA0 : 0 ≤ A) (hA1 : A < (c.ens.length : Int)) : FuP 36 w iq eq tq ia ea ta c f 11 A Bb u (.int .i64 (enAt c.ens A.toNat).result) := by
  obtain ⟨a, rfl⟩ : ∃ a : Nat, A = (a : Int) := ⟨A.toNat, by omega⟩
  rw [Int.toNat_natCast]
  obtain ⟨Y, hYe⟩ : ∃ Y, ((w.alloc (.cells #[.slice iq c.ins.length ia, .slice eq c.ens.length ea, .slice tq c.txs.length ta, .int .i64 c.main] 26)).alloc (.cells #[.int .i64 11, .int .i64 (a : Int), .int .i64 Bb] 38)) = Y := ⟨_, rfl⟩
  have hb := bx2_new w iq eq tq ia ea ta c 11 (a : Int) Bb
  rw [hYe] at hb
  have y0 := (hb.g.cell 0 _ rfl).1
  have y1 := (hb.g.cell 1 _ rfl).1
  have HB : Hid (Below w.heap.size w Y) := hb.b
  obtain ⟨g, o, dq, dc, hq, hg, hr, hrow, -⟩ := code_ent (m.below hb.b hB) a (by omega)
  have x1 := (hb.f.cell 1 _ rfl).1
  rw [hq] at x1
  have r4 := hr 4 _ rfl
  have a0 : (0 : Int) ≤ (a : Int) := by omega
  generalize (enAt c.ens a).result = t at *
  clear hb m hr hrow hg hB
  subst hq
  unfold FuP codeV
  go_enter Tryd.func36, Tryd.ntmps36
  go_wp2
  go_ret
  exact ⟨rfl, HB.out⟩

set_option maxRecDepth 100000 in
set_option maxHeartbeats 4000000 in
theorem gv14 (ia ea ta f : Nat) (A Bb : Int) (u : Value) (hA : -9223372036854775808 ≤ A ∧ A ≤ 9223372036854775803) : FuP 36 w iq eq tq ia ea ta c f 14 A Bb u (.int .i64 (A + 4)) := by
  obtain ⟨Y, hYe⟩ : ∃ Y, ((w.alloc (.cells #[.slice iq c.ins.length ia, .slice eq c.ens.length ea, .slice tq c.txs.length ta, .int .i64 c.main] 26)).alloc (.cells #[.int .i64 14, .int .i64 A, .int .i64 Bb] 38)) = Y := ⟨_, rfl⟩
  have hb := bx2_new w iq eq tq ia ea ta c 14 A Bb
  rw [hYe] at hb
  have y0 := (hb.g.cell 0 _ rfl).1
  have y1 := (hb.g.cell 1 _ rfl).1
  have HB : Hid (Below w.heap.size w Y) := hb.b
  have hw : IntKind.i64.wrap (A + 4) = A + 4 := by rw [IntKind.wrap_i64]; omega
  clear hb hA
  unfold FuP codeV
  go_enter Tryd.func36, Tryd.ntmps36
  go_wp2
  go_ret
  exact ⟨rfl, HB.out⟩

set_option maxRecDepth 100000 in
set_option maxHeartbeats 4000000 in
theorem gv15 (ia ea ta f : Nat) (A Bb : Int) (g o cap : Nat) (a b : Int) (hg : g < w.heap.size) (hr : w.rangeAt g o (sv [a, b])) (ha : -9223372036854775804 ≤ a ∧ a ≤ 9223372036854775807) : FuP 36 w iq eq tq ia ea ta c f 15 A Bb (.slice (some ⟨g, o, none⟩) 2 cap) (.int .i64 (if a = 3 then 1 else a - 4)) := by
  obtain ⟨Y, hYe⟩ : ∃ Y, ((w.alloc (.cells #[.slice iq c.ins.length ia, .slice eq c.ens.length ea, .slice tq c.txs.length ta, .int .i64 c.main] 26)).alloc (.cells #[.int .i64 15, .int .i64 A, .int .i64 Bb] 38)) = Y := ⟨_, rfl⟩
  have hb := bx2_new w iq eq tq ia ea ta c 15 A Bb
  rw [hYe] at hb
  have y0 := (hb.g.cell 0 _ rfl).1
  have y1 := (hb.g.cell 1 _ rfl).1
  have HB : Hid (Below w.heap.size w Y) := hb.b
  have hr2 := range_same hr (hb.b.block g hg)
  have s0 : Y.cell? ⟨g, o + 0, none⟩ = some (.int .i64 a) := hr2 0 _ rfl
  have s1 : Y.cell? ⟨g, o + 1, none⟩ = some (.int .i64 b) := hr2 1 _ rfl
  rw [Nat.add_zero] at s0
  clear hb hr2
  by_cases h3 : a = 3
  · subst h3
    rw [if_pos rfl]
    unfold FuP codeV
    go_enter Tryd.func36, Tryd.ntmps36
    go_wp2
    go_ret
    exact ⟨rfl, HB.out⟩
  · rw [if_neg h3]
    have e3 : (a == 3) = false := by rw [beq_eq_false_iff_ne]; exact h3
    have hw : IntKind.i64.wrap (a - 4) = a - 4 := by rw [IntKind.wrap_i64]; omega
    clear h3 ha
    unfold FuP codeV
    go_enter Tryd.func36, Tryd.ntmps36
    go_wp2
    go_ret
    exact ⟨rfl, HB.out⟩

set_option maxRecDepth 100000 in
set_option maxHeartbeats 4000000 in
theorem gvOther (ia ea ta f : Nat) (k A Bb : Int) (u : Value) (h1 : k ≠ 1) (h20 : k ≠ 20) (h17 : k ≠ 17) (h2 : k ≠ 2) (h3 : k ≠ 3) (h18 : k ≠ 18) (h4 : k ≠ 4) (h7 : k ≠ 7) (h23 : k ≠ 23) (h8 : k ≠ 8) (h11 : k ≠ 11) (h14 : k ≠ 14) (h15 : k ≠ 15) : FuP 36 w iq eq tq ia ea ta c f k A Bb u (.int .i64 0) := by
  obtain ⟨Y, hYe⟩ : ∃ Y, ((w.alloc (.cells #[.slice iq c.ins.length ia, .slice eq c.ens.length ea, .slice tq c.txs.length ta, .int .i64 c.main] 26)).alloc (.cells #[.int .i64 k, .int .i64 A, .int .i64 Bb] 38)) = Y := ⟨_, rfl⟩
  have hb := bx2_new w iq eq tq ia ea ta c k A Bb
  rw [hYe] at hb
  have y0 := (hb.g.cell 0 _ rfl).1
  have y1 := (hb.g.cell 1 _ rfl).1
  have HB : Hid (Below w.heap.size w Y) := hb.b
  have e1 : (k == 1) = false := by rw [beq_eq_false_iff_ne]; exact h1
  have e20 : (k == 20) = false := by rw [beq_eq_false_iff_ne]; exact h20
  have e17 : (k == 17) = false := by rw [beq_eq_false_iff_ne]; exact h17
  have e2 : (k == 2) = false := by rw [beq_eq_false_iff_ne]; exact h2
  have e3 : (k == 3) = false := by rw [beq_eq_false_iff_ne]; exact h3
  have e18 : (k == 18) = false := by rw [beq_eq_false_iff_ne]; exact h18
  have e4 : (k == 4) = false := by rw [beq_eq_false_iff_ne]; exact h4
  have e7 : (k == 7) = false := by rw [beq_eq_false_iff_ne]; exact h7
  have e23 : (k == 23) = false := by rw [beq_eq_false_iff_ne]; exact h23
  have e8 : (k == 8) = false := by rw [beq_eq_false_iff_ne]; exact h8
  have e11 : (k == 11) = false := by rw [beq_eq_false_iff_ne]; exact h11
  have e14 : (k == 14) = false := by rw [beq_eq_false_iff_ne]; exact h14
  have e15 : (k == 15) = false := by rw [beq_eq_false_iff_ne]; exact h15
  clear h1 h20 h17 h2 h3 h18 h4 h7 h23 h8 h11 h14 h15 hb
  unfold FuP codeV
  go_enter Tryd.func36, Tryd.ntmps36
  go_wp2
  go_ret
  exact ⟨rfl, HB.out⟩

/-- What is taken off a stack, in memory. -/
def TkM (w : World) (u : Value) (v : List Int) : Prop := ∀ a r, v = a :: r → ∃ g o cap, u = .slice (some ⟨g, o, none⟩) v.length cap ∧ g < w.heap.size ∧ w.rangeAt g o (sv v)
theorem further_any (m : CodeM w B iq eq tq Es c) (ia ea ta : Nat) (hB : B ≤ w.heap.size) (f : Nat) (hf : f < c.ens.length) (x : In) (u : Value) (v : List Int) (hl : v.length = (takR c (enAt c.ens f) x).length) (hu : TkM w u v) (h16 : x.1 = 16 → -9223372036854775804 ≤ v.getD 0 0 ∧ v.getD 0 0 ≤ 9223372036854775807) :
    Calls Tryd.prog 35 #[codeV iq eq tq ia ea ta c, .int .i64 (f : Int), .agg #[.int .i64 x.1, .int .i64 x.2.1, .int .i64 x.2.2], u] w fun z w' => z = .returned (.bool (furR (enAt c.ens f) x v)) ∧ Below w.heap.size w w' := by
  obtain ⟨k, A, Bb⟩ := x
  show FuP 35 w iq eq tq ia ea ta c f k A Bb u (.bool (furR (enAt c.ens f) (k, A, Bb) v))
  by_cases h8 : k = 8
  · subst h8
    obtain ⟨a, b, rfl⟩ := len2 (show v.length = 2 from hl)
    obtain ⟨g, o, cap, rfl, hg, hr⟩ := hu a [b] rfl
    exact fu8 ia ea ta f A Bb g o cap a b hg hr
  by_cases h15 : k = 15
  · subst h15
    obtain ⟨a, b, rfl⟩ := len2 (show v.length = 2 from hl)
    obtain ⟨g, o, cap, rfl, hg, hr⟩ := hu a [b] rfl
    exact fu15 ia ea ta f A Bb g o cap a b hg hr
  by_cases h17 : k = 17
  · subst h17
    obtain ⟨a, rfl⟩ := len1 (show v.length = 1 from hl)
    obtain ⟨g, o, cap, rfl, hg, hr⟩ := hu a [] rfl
    exact fu17 ia ea ta f A Bb g o cap a hg hr
  by_cases h16' : k = 16
  · subst h16'
    obtain ⟨a, b, d, rfl⟩ := len3 (show v.length = 3 from hl)
    obtain ⟨g, o, cap, rfl, hg, hr⟩ := hu a [b, d] rfl
    exact fu16 ia ea ta f A Bb g o cap a b d hg hr (h16 rfl)
  by_cases h13 : k = 13
  · subst h13
    exact fu13 m ia ea ta hB f hf A Bb u
  have e : furR (enAt c.ens f) (k, A, Bb) v = true := by unfold furR; simp only [h8, h15, h17, h16', h13, if_false, or_self]
  rw [e]
  exact fuOther ia ea ta f k A Bb u h8 h15 h17 h16' h13
theorem gives_any (m : CodeM w B iq eq tq Es c) (ia ea ta : Nat) (hB : B ≤ w.heap.size) (f : Nat) (hf : f < c.ens.length) (x : In) (hx : insS x = true) (hn : namedS c (enAt c.ens f) x = true) (u : Value) (v : List Int) (hl : v.length = (takR c (enAt c.ens f) x).length) (hu : TkM w u v) (h15 : x.1 = 15 → -9223372036854775804 ≤ v.getD 0 0 ∧ v.getD 0 0 ≤ 9223372036854775807) :
    Calls Tryd.prog 36 #[codeV iq eq tq ia ea ta c, .int .i64 (f : Int), .agg #[.int .i64 x.1, .int .i64 x.2.1, .int .i64 x.2.2], u] w fun z w' => z = .returned (.int .i64 (givR c (enAt c.ens f) x v)) ∧ Below w.heap.size w w' := by
  obtain ⟨k, A, Bb⟩ := x
  show FuP 36 w iq eq tq ia ea ta c f k A Bb u (.int .i64 (givR c (enAt c.ens f) (k, A, Bb) v))
  obtain ⟨-, hm⟩ := ins_op hx
  have hlo := may_lo hm
  simp only at hlo
  unfold namedS at hn
  simp only at hn
  by_cases h1 : k = 1
  · subst h1; exact gv1 ia ea ta f A Bb u
  by_cases h20 : k = 20
  · subst h20; exact gv20 ia ea ta f A Bb u
  by_cases h17 : k = 17
  · subst h17; exact gv17 ia ea ta f A Bb u
  by_cases h2 : k = 2
  · subst h2; exact gv2 ia ea ta f A Bb u
  by_cases h3 : k = 3
  · subst h3; exact gv3 ia ea ta f A Bb u
  by_cases h18 : k = 18
  · subst h18; exact gv18 ia ea ta f A Bb u
  by_cases h4 : k = 4
  · subst h4
    exact gv4 m ia ea ta hB f hf A Bb u hlo.1 (by simpa using hn)
  by_cases h7 : k = 7
  · subst h7
    obtain ⟨a, rfl⟩ := len1 (show v.length = 1 by
      have h7l : takR c (enAt c.ens f) (7, A, Bb) = if A = 1 then [1] else [2] := rfl
      rw [hl, h7l]
      split <;> rfl)
    obtain ⟨g, o, cap, rfl, hg, hr⟩ := hu a [] rfl
    exact gv7 ia ea ta f A Bb g o cap a hg hr
  by_cases h23 : k = 23
  · subst h23
    obtain ⟨a, rfl⟩ := len1 (show v.length = 1 from hl)
    obtain ⟨g, o, cap, rfl, hg, hr⟩ := hu a [] rfl
    exact gv23 ia ea ta f A Bb g o cap a hg hr
  by_cases h8 : k = 8
  · subst h8
    obtain ⟨a, b, rfl⟩ := len2 (show v.length = 2 from hl)
    obtain ⟨g, o, cap, rfl, hg, hr⟩ := hu a [b] rfl
    exact gv8 ia ea ta f A Bb g o cap a b hg hr
  by_cases h11 : k = 11
  · subst h11
    exact gv11 m ia ea ta hB f A Bb u hlo.1 (by simpa using hn)
  by_cases h14 : k = 14
  · subst h14
    have h9 := sort_ok (hlo.2.2 rfl)
    exact gv14 ia ea ta f A Bb u ⟨by omega, by omega⟩
  by_cases h15' : k = 15
  · subst h15'
    obtain ⟨a, b, rfl⟩ := len2 (show v.length = 2 from hl)
    obtain ⟨g, o, cap, rfl, hg, hr⟩ := hu a [b] rfl
    exact gv15 ia ea ta f A Bb g o cap a b hg hr (h15 rfl)
  have e : givR c (enAt c.ens f) (k, A, Bb) v = 0 := by unfold givR; simp only [h1, h20, h17, h2, h3, h18, h4, h7, h23, h8, h11, h14, h15', if_false, or_self]
  rw [e]
  exact gvOther ia ea ta f k A Bb u h1 h20 h17 h2 h3 h18 h4 h7 h23 h8 h11 h14 h15'
end
end Go.Proofs.YtdcaonfnhdjibaaDoor
