import Derived.Lib.QuietBelow
import Derived.BigQuiet
import Derived.Test.YtlocaalipjjnpaaDoorN13
namespace Go.Proofs.YtlocaalipjjnpaaDoor
open Go.RowKit

set_option maxRecDepth 100000 in
set_option maxHeartbeats 1000000 in
theorem isProgram_any (w : World) (p : Option Addr) (n cap : Nat) (L : List Nd) (h : Reads w p n L) (hk : KwAt w) :
    Calls Tryd.prog 21 #[.agg #[.slice p n cap]] w fun e w' => e = .returned (.bool (progS nameS typeS L)) ∧ Below w.heap.size w w' := by
  obtain ⟨w1, hw1⟩ : ∃ w1, w.alloc (.cells #[.slice p n cap] 24) = w1 := ⟨_, rfl⟩
  have B1 : Hid (Below w.heap.size w w1) := by show Below _ _ _; rw [← hw1]; exact (Below.refl _ w).alloc (Nat.le_refl _) _
  have c1 : w1.cell? ⟨w.heap.size, 0, none⟩ = some (.slice p n cap) := by rw [← hw1]; exact cell_new _ _ _ _ _ rfl
  have z1 : w.heap.size < w1.heap.size := by rw [← hw1]; simp
  have RD : Hid (Reads w1 p n L) := h.next B1.out
  have HV : Hid (Calls Tryd.prog 34 #[.agg #[.slice p n cap]] w1 fun e w' => e = .returned (.int .i64 (if treeS nameS typeS L then 0 else 30)) ∧ Below w1.heap.size w1 w') := valid_any w1 p n cap L RD.out (hk.next B1.out)
  obtain ⟨b, hb⟩ : ∃ b, treeS nameS typeS L = b := ⟨_, rfl⟩
  have HP : Hid (progS nameS typeS L = (b && (nd L 0).kind == 1)) := by show progS _ _ _ = _; unfold progS; rw [hb]
  rw [hb] at HV
  rw [HP.out]
  clear h hk
  cases b with
  | false =>
    clear hb RD HP
    have HV' : Hid (Calls Tryd.prog 34 #[.agg #[.slice p n cap]] w1 fun e w' => e = .returned (.int .i64 30) ∧ Below w1.heap.size w1 w') := HV
    clear HV
    go_enter Tryd.func21, Tryd.ntmps21
    go_wp2_with (first
      | (go_at_call 34; refine HV'.out.mono ?_; rintro e w2 ⟨rfl, hb2⟩)
      | go_in)
    go_ret
    exact ⟨rfl, B1.out.trans (hb2.mono B1.out.size)⟩
  | true =>
    have hpos := (tr_of hb).pos
    obtain ⟨hf, rfl, hr⟩ := RD.out
    obtain ⟨g, o, rfl, hl⟩ := hr (fun e => by rw [e] at hpos; simp at hpos)
    have HL : Hid (Lay w1 g o L) := hl
    have HV' : Hid (Calls Tryd.prog 34 #[.agg #[.slice (some ⟨g, o, none⟩) L.length cap]] w1 fun e w' => e = .returned (.int .i64 0) ∧ Below w1.heap.size w1 w') := HV
    have i1 : (0 : Int) < (L.length : Int) := by omega
    clear HV hb RD HP hf hr hl
    obtain ⟨q, hq⟩ : ∃ q, (nd L 0).kind = q := ⟨_, rfl⟩
    rw [hq]
    have HQ : Hid ((nd L 0).kind = q) := hq
    clear hq
    go_enter Tryd.func21, Tryd.ntmps21
    go_wp2_with (first
      | (go_at_call 34; refine HV'.out.mono ?_; rintro e w2 ⟨rfl, hb2⟩; have d0 := (HL.out.next hb2).kind hpos; rw [Nat.zero_mul, Nat.add_zero, HQ.out] at d0; have d1 := (hb2.cell (p := ⟨w.heap.size, 0, none⟩) z1).trans c1)
      | go_in)
    go_ret
    exact ⟨rfl, B1.out.trans (hb2.mono B1.out.size)⟩

set_option maxRecDepth 100000 in
set_option maxHeartbeats 1000000 in
theorem body_any (w : World) (g o cap : Nat) (L : List Nd) (p1 p2 : Option Addr) (n1 c1 n2 c2 n : Nat) (hL : L.length ≤ 1353245080300) (hn : n < L.length) (hw : Wy L) (h : Hid (Lay w g o L)) (h2 : (nd L n).kind = 2) :
    Calls Tryd.prog 38 #[.agg #[.slice (some ⟨g, o, none⟩) L.length cap, .slice p1 n1 c1, .slice p2 n2 c2], .int .i64 (n : Int)] w fun e w' => e = .returned (.int .i64 (bodyOf L n : Int)) ∧ Below w.heap.size w w' := by
  obtain ⟨w1, hw1⟩ : ∃ w1, w.alloc (.cells #[.slice (some ⟨g, o, none⟩) L.length cap, .slice p1 n1 c1, .slice p2 n2 c2] 51) = w1 := ⟨_, rfl⟩
  have B1 : Hid (Below w.heap.size w w1) := by show Below _ _ _; rw [← hw1]; exact (Below.refl _ w).alloc (Nat.le_refl _) _
  have c0 : w1.cell? ⟨w.heap.size, 0, none⟩ = some (.slice (some ⟨g, o, none⟩) L.length cap) := by rw [← hw1]; exact cell_new _ _ _ _ _ rfl
  have HL1 : Hid (Lay w1 g o L) := h.out.next B1.out
  obtain ⟨a, b, c, -, e⟩ := hw.fn n hn h2
  obtain ⟨-, -, f2⟩ := end_int (hw.good n hn)
  have HE : Hid (∀ j, n < j → j < bodyOf L n → (nd L j).kind = 3 ∧ sz L j = 1) := e
  have HC : Hid ((nd L (bodyOf L n)).kind = 4) := c
  have hbl : bodyOf L n < L.length := by omega
  clear e c b f2 h
  generalize bodyOf L n = E at *
  have i3 : IntKind.i64.wrap ((n : Int) + 1) = (n : Int) + 1 := by rw [IntKind.wrap_i64]; omega
  go_enter Tryd.func38, Tryd.ntmps38
  go_wp2
  clear i3
  go_loop [5] (fun v => ∃ k : Nat, n < k ∧ k ≤ E ∧ v = .int .i64 (k : Int)) (fun v => E - (intOf v).toNat)
  case atStart => exact ⟨n + 1, by omega, by omega, by simp⟩
  case round =>
    obtain ⟨k, hnk, hkE, rfl⟩ := hrel
    have j0 : (0 : Int) ≤ (k : Int) := by omega
    have j1 : (k : Int) < (L.length : Int) := by omega
    have d0 := HL1.out.kind (i := k) (by omega)
    have i4 : IntKind.i64.wrap ((k : Int) + 1) = (k : Int) + 1 := by rw [IntKind.wrap_i64]; omega
    by_cases hlt : k < E
    · rw [(HE.out k hnk hlt).1] at d0
      go_wp2
      exact ⟨⟨k + 1, by omega, by omega, by simp⟩, by simp [intOf]; omega⟩
    · obtain rfl : k = E := by omega
      rw [HC.out] at d0
      go_wp2
      go_ret
      exact ⟨rfl, B1.out⟩

theorem toL_nil {s : ByteArray} (h : s.size ≠ 0) : s.toList ≠ [] := fun e => h (by rw [Lib.size_eq, ← toL, e]; rfl)
theorem emp {s : ByteArray} (h : s.size = 0) : s = ⟨#[]⟩ := by
  have h1 : s.data.toList = [] := List.length_eq_zero_iff.1 (by rw [← Lib.size_eq]; exact h)
  exact ByteArray.ext (Array.ext' h1)

set_option maxRecDepth 100000 in
set_option maxHeartbeats 1000000 in
theorem gives_any (w : World) (g o cap : Nat) (L : List Nd) (gr ge n : Nat) (T : WT) (res : ByteArray) (hL : L.length ≤ 1353245080300) (hn : n < L.length) (hw : Wy L) (h : Hid (Lay w g o L)) (ht : Hid (Tb w gr ge L.length T)) :
    Calls Tryd.prog 24 #[.agg #[.slice (some ⟨g, o, none⟩) L.length cap, .slice (some ⟨gr, 0, none⟩) L.length L.length, .slice (some ⟨ge, 0, none⟩) L.length L.length], .int .i64 (n : Int), .string res] w fun e w' => e = .returned (.bool (gives L T n res)) ∧ Below w.heap.size w w' := by
  obtain ⟨r, hr⟩ : ∃ r, gives L T n res = r := ⟨_, rfl⟩
  have HR : Hid (gives L T n res = r) := hr
  rw [hr]
  clear hr
  have cs := h.out.c n hn
  obtain ⟨y, hy⟩ : ∃ y, nd L n = y := ⟨_, rfl⟩
  rw [hy] at cs
  have HY : Hid (nd L n = y) := hy
  have hws : Hid (sz L n = y.size) := by show (nd L n).size = _; rw [hy]
  clear hy
  obtain ⟨q0, q1, q2, q3, q4, q5, q6, q7, q8⟩ := y
  obtain ⟨w1, hw1⟩ : ∃ w1, w.alloc (.cells #[.slice (some ⟨g, o, none⟩) L.length cap, .slice (some ⟨gr, 0, none⟩) L.length L.length, .slice (some ⟨ge, 0, none⟩) L.length L.length] 51) = w1 := ⟨_, rfl⟩
  have B1 : Below w.heap.size w w1 := by rw [← hw1]; exact (Below.refl _ w).alloc (Nat.le_refl _) _
  have z1 : w1.heap.size = w.heap.size + 1 := by rw [← hw1]; simp
  have c0 : w1.cell? ⟨w.heap.size, 0, none⟩ = some (.slice (some ⟨g, o, none⟩) L.length cap) := by rw [← hw1]; exact cell_new _ _ _ _ _ rfl
  have c1 : w1.cell? ⟨w.heap.size, 1, none⟩ = some (.slice (some ⟨gr, 0, none⟩) L.length L.length) := by rw [← hw1]; exact cell_new _ _ _ _ _ rfl
  have c2 : w1.cell? ⟨w.heap.size, 2, none⟩ = some (.slice (some ⟨ge, 0, none⟩) L.length L.length) := by rw [← hw1]; exact cell_new _ _ _ _ _ rfl
  have hg := h.out.lt
  have e0 : w1.cell? ⟨g, o + n * 9, none⟩ = some (.int .i64 q0) := (B1.cell (p := ⟨g, o + n * 9, none⟩) hg).trans (cs 0 _ rfl)
  have e1 : w1.cell? ⟨g, o + n * 9 + 1, none⟩ = some (.int .i64 q1) := (B1.cell (p := ⟨g, o + n * 9 + 1, none⟩) hg).trans (cs 1 _ rfl)
  have e2 : w1.cell? ⟨g, o + n * 9 + 2, none⟩ = some (.string q2) := (B1.cell (p := ⟨g, o + n * 9 + 2, none⟩) hg).trans (cs 2 _ rfl)
  have e3 : w1.cell? ⟨g, o + n * 9 + 3, none⟩ = some (.string q3) := (B1.cell (p := ⟨g, o + n * 9 + 3, none⟩) hg).trans (cs 3 _ rfl)
  have e4 : w1.cell? ⟨g, o + n * 9 + 4, none⟩ = some (.string q4) := (B1.cell (p := ⟨g, o + n * 9 + 4, none⟩) hg).trans (cs 4 _ rfl)
  have e5 : w1.cell? ⟨g, o + n * 9 + 5, none⟩ = some (.int .i64 q5) := (B1.cell (p := ⟨g, o + n * 9 + 5, none⟩) hg).trans (cs 5 _ rfl)
  have e6 : w1.cell? ⟨g, o + n * 9 + 6, none⟩ = some (.int .i64 q6) := (B1.cell (p := ⟨g, o + n * 9 + 6, none⟩) hg).trans (cs 6 _ rfl)
  have e7 : w1.cell? ⟨g, o + n * 9 + 7, none⟩ = some (.string q7) := (B1.cell (p := ⟨g, o + n * 9 + 7, none⟩) hg).trans (cs 7 _ rfl)
  have e8 : w1.cell? ⟨g, o + n * 9 + 8, none⟩ = some (.int .i64 q8) := (B1.cell (p := ⟨g, o + n * 9 + 8, none⟩) hg).trans (cs 8 _ rfl)
  have i0 : (0 : Int) ≤ (n : Int) := by omega
  have i1 : (n : Int) < (L.length : Int) := by omega
  have BB : Hid (Below w.heap.size w (w1.alloc (.cells #[.int .i64 q0, .int .i64 q1, .string q2, .string q3, .string q4, .int .i64 q5, .int .i64 q6, .string q7, .int .i64 q8] 39))) := B1.alloc (by omega) _
  clear cs B1
  by_cases k2 : q0 = 2
  · subst k2
    have hk2 : (nd L n).kind = 2 := by rw [HY.out]
    by_cases hz : res.size = 0
    · have hr : r = true := by
        rw [← HR.out]
        unfold gives
        rw [if_pos hk2, decide_eq_true hz]
        rfl
      obtain rfl := emp hz
      subst hr
      clear hz HR
      obtain ⟨w2, hw2⟩ : ∃ w2, w1.alloc (.cells #[.int .i64 2, .int .i64 q1, .string q2, .string q3, .string q4, .int .i64 q5, .int .i64 q6, .string q7, .int .i64 q8] 39) = w2 := ⟨_, rfl⟩
      rw [hw2] at BB
      have n0 : w2.cell? ⟨w.heap.size + 1, 0, none⟩ = some (.int .i64 2) := by rw [← hw2]; exact new_cells w1 _ _ 0 _ (w.heap.size + 1) (by omega) rfl
      go_enter Tryd.func24, Tryd.ntmps24
      go_wp2_with fail
      refine wp_region_quiet_below (by kernel_rfl) (by kernel_rfl) ?_
      repeat (first | go_big_quiet_step (fail) | quiet_step (fail))
      refine wpQuiet_nil ?_
      intro _ hw'
      obtain ⟨⟨dq, osq⟩, hw''⟩ := hw'
      subst hw''
      have hY := below_regrown w2 dq osq
      change Exit.then _ _ Exit.normal _ (Sort.grow (redrawn w2 dq) osq)
      generalize Sort.grow (redrawn w2 dq) osq = Y at hY ⊢
      go_wp2
      go_ret
      exact ⟨rfl, BB.out.trans (hY.mono BB.out.size)⟩
    · have hr : r = (T (bodyOf L n)).1 := by
        rw [← HR.out]
        unfold gives
        rw [if_pos hk2, decide_eq_false hz]
        rfl
      have hq : res.toList.isEmpty = false := by simpa using toL_nil hz
      obtain ⟨-, hb2, -, -, -⟩ := hw.fn n hn hk2
      obtain ⟨-, -, hb3⟩ := end_int (hw.good n hn)
      have hbl : bodyOf L n < L.length := by omega
      obtain ⟨w2, hw2⟩ : ∃ w2, w1.alloc (.cells #[.int .i64 2, .int .i64 q1, .string q2, .string q3, .string q4, .int .i64 q5, .int .i64 q6, .string q7, .int .i64 q8] 39) = w2 := ⟨_, rfl⟩
      rw [hw2] at BB
      have n0 : w2.cell? ⟨w.heap.size + 1, 0, none⟩ = some (.int .i64 2) := by rw [← hw2]; exact new_cells w1 _ _ 0 _ (w.heap.size + 1) (by omega) rfl
      have B2 : Below w1.heap.size w1 w2 := by rw [← hw2]; exact (Below.refl _ w1).alloc (Nat.le_refl _) _
      have k0 := cell_regrown ((B2.cell (p := ⟨w.heap.size, 0, none⟩) (by show w.heap.size < _; omega)).trans c0)
      have k1 := cell_regrown ((B2.cell (p := ⟨w.heap.size, 1, none⟩) (by show w.heap.size < _; omega)).trans c1)
      have k2 := cell_regrown ((B2.cell (p := ⟨w.heap.size, 2, none⟩) (by show w.heap.size < _; omega)).trans c2)
      have k3 := cell_regrown ((ht.out.next BB.out).r (bodyOf L n) hbl)
      have c38 : ∀ d os, Calls Tryd.prog 38 #[.agg #[.slice (some ⟨g, o, none⟩) L.length cap, .slice (some ⟨gr, 0, none⟩) L.length L.length, .slice (some ⟨ge, 0, none⟩) L.length L.length], .int .i64 (n : Int)] (Sort.grow (redrawn w2 d) os) fun e w'' => e = .returned (.int .i64 (bodyOf L n : Int)) ∧ ∃ z : Regrown, w'' = Sort.grow (redrawn w2 z.d) z.os := fun d os =>
        Calls.regrown_of (body_any _ g o cap L _ _ _ _ _ _ n hL hn hw ((h.out.next BB.out).next (below_regrown w2 d os)) hk2)
      rw [← hr] at k3
      clear hr HR hb2 hb3 B2 hk2 HY hws
      generalize bodyOf L n = E at *
      have j0 : (0 : Int) ≤ (E : Int) := by omega
      have j1 : (E : Int) < (L.length : Int) := by omega
      go_enter Tryd.func24, Tryd.ntmps24
      go_wp2_with fail
      refine wp_region_quiet_below (by kernel_rfl) (by kernel_rfl) ?_
      repeat (first | go_big_quiet_step (exact c38 _ _) | quiet_step (exact c38 _ _))
      refine wpQuiet_nil ?_
      intro _ hw'
      obtain ⟨⟨dq, osq⟩, hw''⟩ := hw'
      subst hw''
      have hY := below_regrown w2 dq osq
      change Exit.then _ _ Exit.normal _ (Sort.grow (redrawn w2 dq) osq)
      generalize Sort.grow (redrawn w2 dq) osq = Y at hY ⊢
      clear k0 k1 k2 k3 c38
      go_wp2
      go_ret
      exact ⟨rfl, BB.out.trans (hY.mono BB.out.size)⟩
  · have k2' : (q0 == 2) = false := by simpa using k2
    have hk2 : (nd L n).kind ≠ 2 := by rw [HY.out]; exact k2
    by_cases k12 : q0 = 12
    · subst k12
      have hk : (nd L n).kind = 12 := by rw [HY.out]
      have hr : r = ((!decide (res.size = 0)) == decide (1 < q8)) := by
        rw [← HR.out]
        unfold gives
        rw [if_neg hk2, if_pos hk, hws.out]
      clear HR
      by_cases hz : res.size = 0
      · rw [decide_eq_true hz] at hr
        obtain rfl := emp hz
        clear hz
        by_cases h1 : (1 : Int) < q8
        · rw [decide_eq_true h1] at hr
          subst hr
          go_enter Tryd.func24, Tryd.ntmps24
          go_wp2
          go_ret
          exact ⟨by first | rfl | simp [h1], BB.out⟩
        · rw [decide_eq_false h1] at hr
          subst hr
          go_enter Tryd.func24, Tryd.ntmps24
          go_wp2
          go_ret
          exact ⟨by first | rfl | simp [h1], BB.out⟩
      · rw [decide_eq_false hz] at hr
        have hq := toL_nil hz
        clear hz
        by_cases h1 : (1 : Int) < q8
        · rw [decide_eq_true h1] at hr
          subst hr
          go_enter Tryd.func24, Tryd.ntmps24
          go_wp2
          go_ret
          exact ⟨by first | rfl | simp [hq], BB.out⟩
        · rw [decide_eq_false h1] at hr
          subst hr
          go_enter Tryd.func24, Tryd.ntmps24
          go_wp2
          go_ret
          exact ⟨by first | rfl | simp [hq], BB.out⟩
    · have k12' : (q0 == 12) = false := by simpa using k12
      have hr : r = true := by
        rw [← HR.out]
        unfold gives
        rw [if_neg hk2, if_neg (by rw [HY.out]; exact k12)]
      subst hr
      go_enter Tryd.func24, Tryd.ntmps24
      go_wp2
      go_ret
      exact ⟨rfl, BB.out⟩

end Go.Proofs.YtlocaalipjjnpaaDoor

namespace Go.Proofs.YtlocaalipjjnpaaDoor
open Go.RowKit

theorem two_set {W : World} {N : Nat} {a b x0 x1 : Value} (k0 : W.cell? ⟨N, 0, none⟩ = some x0) (k1 : W.cell? ⟨N, 1, none⟩ = some x1) :
    ((W.setCell ⟨N, 0, none⟩ a).setCell ⟨N, 1, none⟩ b).cell? ⟨N, 0, none⟩ = some a ∧ ((W.setCell ⟨N, 0, none⟩ a).setCell ⟨N, 1, none⟩ b).cell? ⟨N, 1, none⟩ = some b := by
  have hno : ∀ {b i j : Nat}, i ≠ j → (⟨b, i, none⟩ : Addr) ≠ ⟨b, j, none⟩ := fun hij e => hij (by cases e; rfl)
  exact ⟨by rw [other _ _ _ _ (hno (by omega))]; exact set_same k0 _, set_same (v := x1) (by rw [other _ _ _ _ (hno (by omega))]; exact k1) _⟩

/-- The world of Check: the tree's cell, and one for the answer. -/
theorem chk_world (w : World) (p : Option Addr) (n cap : Nat) : ∃ w1, (w.alloc (.cells #[.slice p n cap] 24)).alloc (.cells #[.int .i64 0, .int .i64 0] 31) = w1 ∧ w1.heap.size = w.heap.size + 2 ∧ Below w.heap.size w w1 ∧ w1.cell? ⟨w.heap.size, 0, none⟩ = some (.slice p n cap) ∧
    (w1.cell? ⟨w.heap.size + 1, 0, none⟩ = some (.int .i64 0) ∧ w1.frozen? ⟨w.heap.size + 1, 0, none⟩ = false) ∧ (w1.cell? ⟨w.heap.size + 1, 1, none⟩ = some (.int .i64 0) ∧ w1.frozen? ⟨w.heap.size + 1, 1, none⟩ = false) := by
  have hh : ((w.alloc (.cells #[.slice p n cap] 24)).alloc (.cells #[.int .i64 0, .int .i64 0] 31)).heap[w.heap.size + 1]? = some (.cells #[.int .i64 0, .int .i64 0] 31) := by rw [hgAlloc, if_pos (by simp)]
  exact ⟨_, rfl, by simp, ((Below.refl _ w).alloc (Nat.le_refl _) _).alloc (by simp) _, cell_old _ (cell_new _ _ _ _ _ rfl), cell_block hh rfl, cell_block hh rfl⟩

/-- What Check's loop leans on. -/
structure CK (N p5 g o cap gr ge : Nat) (L : List Nd) (w4 : World) : Prop where
  lay : Lay w4 g o L
  tb : Tb w4 gr ge L.length (tbl L L.length)
  c0 : w4.cell? ⟨p5, 0, none⟩ = some (.slice (some ⟨g, o, none⟩) L.length cap)
  c1 : w4.cell? ⟨p5, 1, none⟩ = some (.slice (some ⟨gr, 0, none⟩) L.length L.length)
  c2 : w4.cell? ⟨p5, 2, none⟩ = some (.slice (some ⟨ge, 0, none⟩) L.length L.length)
  r0 : w4.cell? ⟨N + 1, 0, none⟩ = some (.int .i64 0) ∧ w4.frozen? ⟨N + 1, 0, none⟩ = false
  r1 : w4.cell? ⟨N + 1, 1, none⟩ = some (.int .i64 0) ∧ w4.frozen? ⟨N + 1, 1, none⟩ = false
theorem CK.next {N p5 g o cap gr ge : Nat} {L : List Nd} {w4 w5 : World} (h : CK N p5 g o cap gr ge L w4) (hb : Below w4.heap.size w4 w5) : CK N p5 g o cap gr ge L w5 := by
  have l5 := World.block_lt_of_cell? w4 _ h.c0
  have lr := World.block_lt_of_cell? w4 _ h.r0.1
  exact ⟨h.lay.next hb, h.tb.next hb, (hb.cell (p := ⟨p5, 0, none⟩) l5).trans h.c0, (hb.cell (p := ⟨p5, 1, none⟩) l5).trans h.c1, (hb.cell (p := ⟨p5, 2, none⟩) l5).trans h.c2,
    ⟨(hb.cell (p := ⟨N + 1, 0, none⟩) lr).trans h.r0.1, (hb.frozen (p := ⟨N + 1, 0, none⟩) lr).trans h.r0.2⟩, ⟨(hb.cell (p := ⟨N + 1, 1, none⟩) lr).trans h.r1.1, (hb.frozen (p := ⟨N + 1, 1, none⟩) lr).trans h.r1.2⟩⟩

set_option maxRecDepth 100000 in
set_option maxHeartbeats 8000000 in
theorem check_yes (w : World) (g o cap : Nat) (L : List Nd) (hooks : Bool) (hf : Fine L) (h : Lay w g o L) (hk : KwAt w) (hp : progS nameS typeS L = true) :
    Calls Tryd.prog 7 #[.agg #[.slice (some ⟨g, o, none⟩) L.length cap], .bool hooks] w fun e w' => e = .returned (.agg #[.int .i64 (chkS L hooks 0 ⟨#[]⟩).1, .int .i64 (chkS L hooks 0 ⟨#[]⟩).2]) ∧ Below w.heap.size w w' := by
  have hL := hf.len
  have hwy : Wy L := wy_of (nm := nameS) (ty := typeS) (by unfold progS at hp; simp only [Bool.and_eq_true] at hp; exact hp.1)
  have HW : Hid (Wy L) := hwy
  obtain ⟨w1, hw1, z1, B1, c0, r0, r1⟩ := chk_world w (some ⟨g, o, none⟩) L.length cap
  have BB : Hid (Below w.heap.size w w1) := B1
  have hl1 := h.next B1
  have HP : Hid (Calls Tryd.prog 21 #[.agg #[.slice (some ⟨g, o, none⟩) L.length cap]] w1 fun e w' => e = .returned (.bool true) ∧ Below w1.heap.size w1 w') := by
    have := isProgram_any w1 (some ⟨g, o, none⟩) L.length cap L ⟨hf, rfl, fun _ => ⟨g, o, rfl, hl1⟩⟩ (hk.next B1)
    rwa [hp] at this
  have HN : Hid (∀ w', Below w1.heap.size w1 w' → Calls Tryd.prog 22 #[.slice (some ⟨g, o, none⟩) L.length cap] w' fun e w'' => (∃ gr ge, e = .returned (.agg #[.slice (some ⟨g, o, none⟩) L.length cap, .slice (some ⟨gr, 0, none⟩) L.length L.length, .slice (some ⟨ge, 0, none⟩) L.length L.length]) ∧ Hid (Tb w'' gr ge L.length (tbl L L.length))) ∧ Below w'.heap.size w' w'') := fun w' hb => newWays_any w' g o cap L hL hwy (hl1.next hb)
  have HL1 : Hid (Lay w1 g o L) := hl1
  obtain ⟨r, hr⟩ : ∃ r, chkS L hooks 0 ⟨#[]⟩ = r := ⟨_, rfl⟩
  have HR : Hid (chkS L hooks 0 ⟨#[]⟩ = r) := hr
  rw [hr]
  obtain ⟨ra, rb⟩ := r
  clear hr hp hk hl1 B1 h hwy hf
  have zz : w.heap.size < w1.heap.size := by omega
  go_enter Tryd.func7, Tryd.ntmps7
  go_wp2_with (first
    | (go_at_call 21; refine HP.out.mono ?_; rintro e w2 ⟨rfl, hb2⟩; have d0 := (hb2.cell (p := ⟨w.heap.size, 0, none⟩) zz).trans c0)
    | (go_at_call 22; refine (HN.out w2 hb2).mono ?_; rintro e w3 ⟨⟨gr, ge, rfl, ht⟩, hb3⟩; have hb23 := hb2.trans (hb3.mono hb2.size); obtain ⟨w4, hw4⟩ : ∃ w4, w3.alloc (.cells #[.slice (some ⟨g, o, none⟩) L.length cap, .slice (some ⟨gr, 0, none⟩) L.length L.length, .slice (some ⟨ge, 0, none⟩) L.length L.length] 51) = w4 := ⟨_, rfl⟩; have b4 : Below w3.heap.size w3 w4 := (by rw [← hw4]; exact (Below.refl _ w3).alloc (Nat.le_refl _) _); have b14 := hb23.trans (b4.mono hb23.size); have d1 := (b14.cell (p := ⟨w.heap.size, 0, none⟩) zz).trans c0)
    | go_in)
  have ck : CK w.heap.size w3.heap.size g o cap gr ge L w4 := by
    refine ⟨HL1.out.next b14, ht.out.next b4, ?_, ?_, ?_, ⟨(b14.cell (p := ⟨w.heap.size + 1, 0, none⟩) (by show w.heap.size + 1 < _; omega)).trans r0.1, (b14.frozen (p := ⟨w.heap.size + 1, 0, none⟩) (by show w.heap.size + 1 < _; omega)).trans r0.2⟩, ⟨(b14.cell (p := ⟨w.heap.size + 1, 1, none⟩) (by show w.heap.size + 1 < _; omega)).trans r1.1, (b14.frozen (p := ⟨w.heap.size + 1, 1, none⟩) (by show w.heap.size + 1 < _; omega)).trans r1.2⟩⟩
    all_goals (rw [← hw4]; exact cell_new _ _ _ _ _ rfl)
  have HCK : Hid (CK w.heap.size w3.heap.size g o cap gr ge L w4) := ck
  have hN4 : w.heap.size + 1 < w4.heap.size := by have := b14.size; omega
  have B4 : Hid (Below w.heap.size w w4) := BB.out.trans (b14.mono BB.out.size)
  clear ck b14 b4 hw4 d1 ht HN HP HL1 r0 r1 c0 hw1 d0 hb2 hb3 hb23 BB zz z1
  generalize w3.heap.size = p5 at *
  have HFin : Hid (∀ (Wx : World) (c d : Int), Below w4.heap.size w4 Wx → Below w.heap.size w ((Wx.setCell ⟨w.heap.size + 1, 0, none⟩ (.int .i64 c)).setCell ⟨w.heap.size + 1, 1, none⟩ (.int .i64 d))) := fun Wx c d hx => ((B4.out.trans (hx.mono (by omega))).setCell (p := ⟨w.heap.size + 1, 0, none⟩) (by show w.heap.size ≤ w.heap.size + 1; omega) _).setCell (p := ⟨w.heap.size + 1, 1, none⟩) (by show w.heap.size ≤ w.heap.size + 1; omega) _
  go_loopw [6, 19] (fun v6 v19 wr => ∃ (k : Nat) (res : ByteArray), v6 = .string res ∧ v19 = .int .i64 (k : Int) ∧ k ≤ L.length ∧ Hid (chkS L hooks k res = (ra, rb)) ∧ Hid (Below w4.heap.size w4 wr)) (fun _ v _ => L.length - (intOf v).toNat)
  case atStart => exact ⟨0, ⟨#[]⟩, rfl, rfl, by omega, HR, Below.refl _ _⟩
  case round =>
    obtain ⟨k, res, rfl, rfl, hkL, hrr, hB⟩ := hrel
    clear HR
    by_cases hlt : k < L.length
    · have j0 : (0 : Int) ≤ (k : Int) := by omega
      have j1 : (k : Int) < (L.length : Int) := by omega
      have i4 : IntKind.i64.wrap ((k : Int) + 1) = (k : Int) + 1 := by rw [IntKind.wrap_i64]; omega
      have cs := (HCK.out.lay.next hB.out).c k hlt
      have hgo := chk_go L hooks k res hlt
      obtain ⟨y, hy⟩ : ∃ y, nd L k = y := ⟨_, rfl⟩
      rw [hy] at cs hgo
      have HY : Hid (nd L k = y) := hy
      clear hy
      obtain ⟨gb, hgb⟩ : ∃ gb, gives L (tbl L L.length) k (resAt y res) = gb := ⟨_, rfl⟩
      obtain ⟨hb, hhb⟩ : ∃ hb, hooked y = hb := ⟨_, rfl⟩
      rw [hgb, hhb, hrr.out] at hgo
      have HGO : Hid ((ra, rb) = if (!hooks && hb) = true then (81, y.pos) else if (!gb) = true then (80, y.pos) else chkS L hooks (k + 1) (resAt y res)) := hgo
      have HG : Hid (∀ w', Below w4.heap.size w4 w' → Calls Tryd.prog 24 #[.agg #[.slice (some ⟨g, o, none⟩) L.length cap, .slice (some ⟨gr, 0, none⟩) L.length L.length, .slice (some ⟨ge, 0, none⟩) L.length L.length], .int .i64 (k : Int), .string (resAt y res)] w' fun e w'' => e = .returned (.bool gb) ∧ Below w'.heap.size w' w'') := fun w' hb' => by
        have := gives_any w' g o cap L gr ge k (tbl L L.length) (resAt y res) hL hlt HW.out (HCK.out.lay.next hb') (HCK.out.tb.next hb')
        rwa [hgb] at this
      have HH : Hid (∀ w', Calls Tryd.prog 23 #[.agg (ndV y)] w' fun e w'' => e = .returned (.bool hb) ∧ Below w'.heap.size w' w'') := fun w' => by
        have := isHooked_any y w'
        rwa [hhb] at this
      clear hgo hrr hgb hhb HY
      obtain ⟨q0, q1, q2, q3, q4, q5, q6, q7, q8⟩ := y
      have e0 : wr.cell? ⟨g, o + k * 9, none⟩ = some (.int .i64 q0) := cs 0 _ rfl
      have e1 : wr.cell? ⟨g, o + k * 9 + 1, none⟩ = some (.int .i64 q1) := cs 1 _ rfl
      have e2 : wr.cell? ⟨g, o + k * 9 + 2, none⟩ = some (.string q2) := cs 2 _ rfl
      have e3 : wr.cell? ⟨g, o + k * 9 + 3, none⟩ = some (.string q3) := cs 3 _ rfl
      have e4 : wr.cell? ⟨g, o + k * 9 + 4, none⟩ = some (.string q4) := cs 4 _ rfl
      have e5 : wr.cell? ⟨g, o + k * 9 + 5, none⟩ = some (.int .i64 q5) := cs 5 _ rfl
      have e6 : wr.cell? ⟨g, o + k * 9 + 6, none⟩ = some (.int .i64 q6) := cs 6 _ rfl
      have e7 : wr.cell? ⟨g, o + k * 9 + 7, none⟩ = some (.string q7) := cs 7 _ rfl
      have e8 : wr.cell? ⟨g, o + k * 9 + 8, none⟩ = some (.int .i64 q8) := cs 8 _ rfl
      obtain ⟨wa, hwa⟩ : ∃ wa, wr.alloc (.cells #[.int .i64 q0, .int .i64 q1, .string q2, .string q3, .string q4, .int .i64 q5, .int .i64 q6, .string q7, .int .i64 q8] 39) = wa := ⟨_, rfl⟩
      have ba : Below wr.heap.size wr wa := by rw [← hwa]; exact (Below.refl _ wr).alloc (Nat.le_refl _) _
      have hBa : Below w4.heap.size w4 wa := hB.out.trans (ba.mono hB.out.size)
      have hza : wr.heap.size < wa.heap.size := by rw [← hwa]; simp
      have FX : Hid (∀ Wx, Below wa.heap.size wa Wx → CK w.heap.size p5 g o cap gr ge L Wx ∧ Below w4.heap.size w4 Wx ∧ Wx.cell? ⟨wr.heap.size, 0, none⟩ = some (.int .i64 q0) ∧ Wx.cell? ⟨wr.heap.size, 1, none⟩ = some (.int .i64 q1) ∧ Wx.cell? ⟨wr.heap.size, 2, none⟩ = some (.string q2) ∧ Wx.cell? ⟨wr.heap.size, 3, none⟩ = some (.string q3) ∧ Wx.cell? ⟨wr.heap.size, 4, none⟩ = some (.string q4) ∧ Wx.cell? ⟨wr.heap.size, 5, none⟩ = some (.int .i64 q5) ∧ Wx.cell? ⟨wr.heap.size, 6, none⟩ = some (.int .i64 q6) ∧ Wx.cell? ⟨wr.heap.size, 7, none⟩ = some (.string q7) ∧ Wx.cell? ⟨wr.heap.size, 8, none⟩ = some (.int .i64 q8)) := fun Wx hx =>
        ⟨(HCK.out.next hBa).next hx, hBa.trans (hx.mono hBa.size), (hx.cell (p := ⟨wr.heap.size, 0, none⟩) hza).trans (by rw [← hwa]; exact cell_new _ _ _ _ _ rfl), (hx.cell (p := ⟨wr.heap.size, 1, none⟩) hza).trans (by rw [← hwa]; exact cell_new _ _ _ _ _ rfl), (hx.cell (p := ⟨wr.heap.size, 2, none⟩) hza).trans (by rw [← hwa]; exact cell_new _ _ _ _ _ rfl), (hx.cell (p := ⟨wr.heap.size, 3, none⟩) hza).trans (by rw [← hwa]; exact cell_new _ _ _ _ _ rfl), (hx.cell (p := ⟨wr.heap.size, 4, none⟩) hza).trans (by rw [← hwa]; exact cell_new _ _ _ _ _ rfl), (hx.cell (p := ⟨wr.heap.size, 5, none⟩) hza).trans (by rw [← hwa]; exact cell_new _ _ _ _ _ rfl), (hx.cell (p := ⟨wr.heap.size, 6, none⟩) hza).trans (by rw [← hwa]; exact cell_new _ _ _ _ _ rfl), (hx.cell (p := ⟨wr.heap.size, 7, none⟩) hza).trans (by rw [← hwa]; exact cell_new _ _ _ _ _ rfl), (hx.cell (p := ⟨wr.heap.size, 8, none⟩) hza).trans (by rw [← hwa]; exact cell_new _ _ _ _ _ rfl)⟩
      obtain ⟨fa, -, x0, x1, x2, x3, x4, x5, x6, x7, x8⟩ := FX.out wa (Below.refl _ _)
      have a0 := fa.c0
      have a1 := fa.c1
      have a2 := fa.c2
      have a3 := fa.r0
      have a4 := fa.r1
      have HBA : Hid (Below w4.heap.size w4 wa) := hBa
      have HH' : Hid (∀ w', Calls Tryd.prog 23 #[.agg #[.int .i64 q0, .int .i64 q1, .string q2, .string q3, .string q4, .int .i64 q5, .int .i64 q6, .string q7, .int .i64 q8]] w' fun e w'' => e = .returned (.bool hb) ∧ Below w'.heap.size w' w'') := HH.out
      clear cs HH hBa fa
      by_cases k2 : q0 = 2
      · subst k2
        rw [show resAt ⟨2, q1, q2, q3, q4, q5, q6, q7, q8⟩ res = q4 by unfold resAt; rw [if_pos rfl]] at HGO HG
        cases hooks with
        | true =>
          cases gb with
          | true =>
            have hnx : Hid (chkS L true (k + 1) q4 = (ra, rb)) := by show _ = _; have := HGO.out; simpa using this.symm
            clear HGO
            go_wp2_with (first
              | (go_at_call 24; refine (HG.out wa HBA.out).mono ?_; rintro e wc ⟨rfl, hac⟩; obtain ⟨fc, gC, v0, v1, v2, v3, v4, v5, v6, v7, v8⟩ := FX.out wc hac; have d3 := fc.r0; have d4 := fc.r1)
              | go_in)
            exact ⟨⟨k + 1, _, rfl, by simp, by omega, hnx, gC⟩, by simp [intOf]; omega⟩
          | false =>
            obtain ⟨rfl, rfl⟩ : ra = 80 ∧ rb = q1 := by simpa using HGO.out
            clear HGO
            go_wp2_with (first
              | (go_at_call 24; refine (HG.out wa HBA.out).mono ?_; rintro e wc ⟨rfl, hac⟩; obtain ⟨fc, gC, v0, v1, v2, v3, v4, v5, v6, v7, v8⟩ := FX.out wc hac; have d3 := fc.r0; have d4 := fc.r1)
              | go_in)
            have t0 := two_set (a := .int .i64 80) (b := .int .i64 rb) d3.1 d4.1
            exact bodyPost_ret (v := .agg #[.int .i64 80, .int .i64 rb]) (by simp [results, Tryd.results7, go_sem, t0.1, t0.2]) rfl ⟨rfl, HFin.out wc 80 rb gC⟩
        | false =>
          cases hb with
          | true =>
            obtain ⟨rfl, rfl⟩ : ra = 81 ∧ rb = q1 := by simpa using HGO.out
            clear HGO
            go_wp2_with (first
              | (go_at_call 23; refine (HH'.out _).mono ?_; rintro e wb ⟨rfl, hbb⟩; obtain ⟨fb, gB, y0, y1, y2, y3, y4, y5, y6, y7, y8⟩ := FX.out wb hbb; have b0 := fb.c0; have b1 := fb.c1; have b2 := fb.c2; have b3 := fb.r0; have b4' := fb.r1)
              | go_in)
            have t0 := two_set (a := .int .i64 81) (b := .int .i64 rb) b3.1 b4'.1
            exact bodyPost_ret (v := .agg #[.int .i64 81, .int .i64 rb]) (by simp [results, Tryd.results7, go_sem, t0.1, t0.2]) rfl ⟨rfl, HFin.out wb 81 rb gB⟩
          | false =>
            cases gb with
            | true =>
              have hnx : Hid (chkS L false (k + 1) q4 = (ra, rb)) := by show _ = _; have := HGO.out; simpa using this.symm
              clear HGO
              go_wp2_with (first
                | (go_at_call 23; refine (HH'.out _).mono ?_; rintro e wb ⟨rfl, hbb⟩; obtain ⟨fb, gB, y0, y1, y2, y3, y4, y5, y6, y7, y8⟩ := FX.out wb hbb; have b0 := fb.c0; have b1 := fb.c1; have b2 := fb.c2; have b3 := fb.r0; have b4' := fb.r1)
                | (go_at_call 24; refine (HG.out wb gB).mono ?_; rintro e wc ⟨rfl, hbc⟩; have hac := hbb.trans (hbc.mono hbb.size); obtain ⟨fc, gC, v0, v1, v2, v3, v4, v5, v6, v7, v8⟩ := FX.out wc hac; have d3 := fc.r0; have d4 := fc.r1)
                | go_in)
              exact ⟨⟨k + 1, _, rfl, by simp, by omega, hnx, gC⟩, by simp [intOf]; omega⟩
            | false =>
              obtain ⟨rfl, rfl⟩ : ra = 80 ∧ rb = q1 := by simpa using HGO.out
              clear HGO
              go_wp2_with (first
                | (go_at_call 23; refine (HH'.out _).mono ?_; rintro e wb ⟨rfl, hbb⟩; obtain ⟨fb, gB, y0, y1, y2, y3, y4, y5, y6, y7, y8⟩ := FX.out wb hbb; have b0 := fb.c0; have b1 := fb.c1; have b2 := fb.c2; have b3 := fb.r0; have b4' := fb.r1)
                | (go_at_call 24; refine (HG.out wb gB).mono ?_; rintro e wc ⟨rfl, hbc⟩; have hac := hbb.trans (hbc.mono hbb.size); obtain ⟨fc, gC, v0, v1, v2, v3, v4, v5, v6, v7, v8⟩ := FX.out wc hac; have d3 := fc.r0; have d4 := fc.r1)
                | go_in)
              have t0 := two_set (a := .int .i64 80) (b := .int .i64 rb) d3.1 d4.1
              exact bodyPost_ret (v := .agg #[.int .i64 80, .int .i64 rb]) (by simp [results, Tryd.results7, go_sem, t0.1, t0.2]) rfl ⟨rfl, HFin.out wc 80 rb gC⟩
      · rw [show resAt ⟨q0, q1, q2, q3, q4, q5, q6, q7, q8⟩ res = res by unfold resAt; rw [if_neg k2]] at HGO HG
        have k2' : (q0 == 2) = false := by simpa using k2
        cases hooks with
        | true =>
          cases gb with
          | true =>
            have hnx : Hid (chkS L true (k + 1) res = (ra, rb)) := by show _ = _; have := HGO.out; simpa using this.symm
            clear HGO
            go_wp2_with (first
              | (go_at_call 24; refine (HG.out wa HBA.out).mono ?_; rintro e wc ⟨rfl, hac⟩; obtain ⟨fc, gC, v0, v1, v2, v3, v4, v5, v6, v7, v8⟩ := FX.out wc hac; have d3 := fc.r0; have d4 := fc.r1)
              | go_in)
            exact ⟨⟨k + 1, _, rfl, by simp, by omega, hnx, gC⟩, by simp [intOf]; omega⟩
          | false =>
            obtain ⟨rfl, rfl⟩ : ra = 80 ∧ rb = q1 := by simpa using HGO.out
            clear HGO
            go_wp2_with (first
              | (go_at_call 24; refine (HG.out wa HBA.out).mono ?_; rintro e wc ⟨rfl, hac⟩; obtain ⟨fc, gC, v0, v1, v2, v3, v4, v5, v6, v7, v8⟩ := FX.out wc hac; have d3 := fc.r0; have d4 := fc.r1)
              | go_in)
            have t0 := two_set (a := .int .i64 80) (b := .int .i64 rb) d3.1 d4.1
            exact bodyPost_ret (v := .agg #[.int .i64 80, .int .i64 rb]) (by simp [results, Tryd.results7, go_sem, t0.1, t0.2]) rfl ⟨rfl, HFin.out wc 80 rb gC⟩
        | false =>
          cases hb with
          | true =>
            obtain ⟨rfl, rfl⟩ : ra = 81 ∧ rb = q1 := by simpa using HGO.out
            clear HGO
            go_wp2_with (first
              | (go_at_call 23; refine (HH'.out _).mono ?_; rintro e wb ⟨rfl, hbb⟩; obtain ⟨fb, gB, y0, y1, y2, y3, y4, y5, y6, y7, y8⟩ := FX.out wb hbb; have b0 := fb.c0; have b1 := fb.c1; have b2 := fb.c2; have b3 := fb.r0; have b4' := fb.r1)
              | go_in)
            have t0 := two_set (a := .int .i64 81) (b := .int .i64 rb) b3.1 b4'.1
            exact bodyPost_ret (v := .agg #[.int .i64 81, .int .i64 rb]) (by simp [results, Tryd.results7, go_sem, t0.1, t0.2]) rfl ⟨rfl, HFin.out wb 81 rb gB⟩
          | false =>
            cases gb with
            | true =>
              have hnx : Hid (chkS L false (k + 1) res = (ra, rb)) := by show _ = _; have := HGO.out; simpa using this.symm
              clear HGO
              go_wp2_with (first
                | (go_at_call 23; refine (HH'.out _).mono ?_; rintro e wb ⟨rfl, hbb⟩; obtain ⟨fb, gB, y0, y1, y2, y3, y4, y5, y6, y7, y8⟩ := FX.out wb hbb; have b0 := fb.c0; have b1 := fb.c1; have b2 := fb.c2; have b3 := fb.r0; have b4' := fb.r1)
                | (go_at_call 24; refine (HG.out wb gB).mono ?_; rintro e wc ⟨rfl, hbc⟩; have hac := hbb.trans (hbc.mono hbb.size); obtain ⟨fc, gC, v0, v1, v2, v3, v4, v5, v6, v7, v8⟩ := FX.out wc hac; have d3 := fc.r0; have d4 := fc.r1)
                | go_in)
              exact ⟨⟨k + 1, _, rfl, by simp, by omega, hnx, gC⟩, by simp [intOf]; omega⟩
            | false =>
              obtain ⟨rfl, rfl⟩ : ra = 80 ∧ rb = q1 := by simpa using HGO.out
              clear HGO
              go_wp2_with (first
                | (go_at_call 23; refine (HH'.out _).mono ?_; rintro e wb ⟨rfl, hbb⟩; obtain ⟨fb, gB, y0, y1, y2, y3, y4, y5, y6, y7, y8⟩ := FX.out wb hbb; have b0 := fb.c0; have b1 := fb.c1; have b2 := fb.c2; have b3 := fb.r0; have b4' := fb.r1)
                | (go_at_call 24; refine (HG.out wb gB).mono ?_; rintro e wc ⟨rfl, hbc⟩; have hac := hbb.trans (hbc.mono hbb.size); obtain ⟨fc, gC, v0, v1, v2, v3, v4, v5, v6, v7, v8⟩ := FX.out wc hac; have d3 := fc.r0; have d4 := fc.r1)
                | go_in)
              have t0 := two_set (a := .int .i64 80) (b := .int .i64 rb) d3.1 d4.1
              exact bodyPost_ret (v := .agg #[.int .i64 80, .int .i64 rb]) (by simp [results, Tryd.results7, go_sem, t0.1, t0.2]) rfl ⟨rfl, HFin.out wc 80 rb gC⟩
    · obtain rfl : k = L.length := by omega
      have h0 := hrr.out
      rw [chk_end] at h0
      obtain ⟨rfl, rfl⟩ : ra = 0 ∧ rb = 0 := by simpa [eq_comm] using h0
      have j1 : ¬ ((L.length : Int) < (L.length : Int)) := by omega
      have fk := HCK.out.next hB.out
      have a3 := fk.r0
      have a4 := fk.r1
      have HB' : Hid (Below w4.heap.size w4 wr) := hB
      clear fk h0 hrr hB
      go_wp2
      have t0 := two_set (a := .int .i64 0) (b := .int .i64 0) a3.1 a4.1
      exact bodyPost_ret (v := .agg #[.int .i64 0, .int .i64 0]) (by simp [results, Tryd.results7, go_sem, t0.1, t0.2]) rfl ⟨rfl, HFin.out wr 0 0 HB'.out⟩

set_option maxRecDepth 100000 in
set_option maxHeartbeats 1000000 in
theorem check_any (w : World) (p : Option Addr) (n cap : Nat) (L : List Nd) (hooks : Bool) (h : Reads w p n L) (hk : KwAt w) :
    Calls Tryd.prog 7 #[.agg #[.slice p n cap], .bool hooks] w fun e w' => e = .returned (.agg #[.int .i64 (checkS nameS typeS L hooks).1, .int .i64 (checkS nameS typeS L hooks).2]) ∧ Below w.heap.size w w' := by
  unfold checkS
  by_cases hp : progS nameS typeS L = true
  · rw [if_pos hp]
    have hpos : 0 < L.length := (tr_of (nm := nameS) (ty := typeS) (by unfold progS at hp; simp only [Bool.and_eq_true] at hp; exact hp.1)).pos
    obtain ⟨hf, rfl, hr⟩ := h
    obtain ⟨g, o, rfl, hl⟩ := hr (fun e => by rw [e] at hpos; simp at hpos)
    exact check_yes w g o cap L hooks hf hl hk hp
  · rw [if_neg hp]
    obtain ⟨w1, hw1, z1, B1, c0, r0, r1⟩ := chk_world w p n cap
    have BB : Hid (Below w.heap.size w w1) := B1
    have HP : Hid (Calls Tryd.prog 21 #[.agg #[.slice p n cap]] w1 fun e w' => e = .returned (.bool false) ∧ Below w1.heap.size w1 w') := by
      have := isProgram_any w1 p n cap L (h.next B1) (hk.next B1)
      rwa [show progS nameS typeS L = false by simpa using hp] at this
    clear hp h hk B1
    go_enter Tryd.func7, Tryd.ntmps7
    go_wp2_with (first
      | (go_at_call 21; refine HP.out.mono ?_; rintro e w2 ⟨rfl, hb2⟩; have a0 := (hb2.cell (p := ⟨w.heap.size + 1, 0, none⟩) (by show w.heap.size + 1 < _; omega)).trans r0.1; have a1 := (hb2.cell (p := ⟨w.heap.size + 1, 1, none⟩) (by show w.heap.size + 1 < _; omega)).trans r1.1; have a2 := (hb2.frozen (p := ⟨w.heap.size + 1, 0, none⟩) (by show w.heap.size + 1 < _; omega)).trans r0.2; have a3 := (hb2.frozen (p := ⟨w.heap.size + 1, 1, none⟩) (by show w.heap.size + 1 < _; omega)).trans r1.2)
      | go_in)
    have t0 := two_set (a := .int .i64 30) (b := .int .i64 0) a0 a1
    exact bodyPost_ret (v := .agg #[.int .i64 30, .int .i64 0]) (by simp [results, Tryd.results7, go_sem, t0.1, t0.2]) rfl ⟨rfl, ((BB.out.trans (hb2.mono BB.out.size)).setCell (p := ⟨w.heap.size + 1, 0, none⟩) (by show w.heap.size ≤ w.heap.size + 1; omega) _).setCell (p := ⟨w.heap.size + 1, 1, none⟩) (by show w.heap.size ≤ w.heap.size + 1; omega) _⟩

end Go.Proofs.YtlocaalipjjnpaaDoor

namespace Go.Proofs.YtlocaalipjjnpaaDoor
open Go.RowKit

/-- A row of ways. -/
structure Tw (w : World) (gw N : Nat) (T : WT) : Prop where
  l : gw < w.heap.size
  r : ∀ i, i < N → w.cell? ⟨gw, i * 2, none⟩ = some (.bool (T i).1)
  e : ∀ i, i < N → w.cell? ⟨gw, i * 2 + 1, none⟩ = some (.bool (T i).2)
theorem Tw.below {w w' : World} {gw N C : Nat} {T : WT} (h : Tw w gw N T) (hb : Below C w w') (h1 : gw < C) : Tw w' gw N T :=
  ⟨Nat.lt_of_lt_of_le h.l hb.size, fun i hi => (hb.cell (p := ⟨gw, i * 2, none⟩) h1).trans (h.r i hi), fun i hi => (hb.cell (p := ⟨gw, i * 2 + 1, none⟩) h1).trans (h.e i hi)⟩
theorem Tw.next {w w' : World} {gw N : Nat} {T : WT} (h : Tw w gw N T) (hb : Below w.heap.size w w') : Tw w' gw N T := h.below hb h.l

/-- What the reference's block reads, and what it makes. -/
structure BW (N g o cap gw : Nat) (L : List Nd) (T : WT) (a b : Bool) (W : World) : Prop where
  tc : W.cell? ⟨N, 0, none⟩ = some (.slice (some ⟨g, o, none⟩) L.length cap)
  lay : Lay W g o L
  tw : Tw W gw L.length T
  a : W.cell? ⟨N + 2, 0, none⟩ = some (.bool a)
  b : W.cell? ⟨N + 2, 1, none⟩ = some (.bool b)
  fa : W.frozen? ⟨N + 2, 0, none⟩ = false
  fb : W.frozen? ⟨N + 2, 1, none⟩ = false
theorem BW.seta {N g o cap gw : Nat} {L : List Nd} {T : WT} {a b : Bool} {W : World} (h : BW N g o cap gw L T a b W) (hg : g < N) (hw : gw < N) (x : Bool) : BW N g o cap gw L T x b (W.setCell ⟨N + 2, 0, none⟩ (.bool x)) := by
  have hne : ∀ {b c : Nat} {i j : Nat}, b ≠ c → (⟨b, i, none⟩ : Addr) ≠ ⟨c, j, none⟩ := fun hbc e => hbc (by cases e; rfl)
  have hno : ∀ {b i j : Nat}, i ≠ j → (⟨b, i, none⟩ : Addr) ≠ ⟨b, j, none⟩ := fun hij e => hij (by cases e; rfl)
  exact ⟨set_at _ h.tc (hne (by omega)), ⟨by rw [size_set]; exact h.lay.lt, fun i hi j v hv => set_at _ (h.lay.c i hi j v hv) (hne (by omega))⟩, ⟨by rw [size_set]; exact h.tw.l, fun i hi => set_at _ (h.tw.r i hi) (hne (by omega)), fun i hi => set_at _ (h.tw.e i hi) (hne (by omega))⟩,
    set_same h.a _, set_at _ h.b (hno (by omega)), by rw [World.frozen?_setCell]; exact h.fa, by rw [World.frozen?_setCell]; exact h.fb⟩
theorem BW.setb {N g o cap gw : Nat} {L : List Nd} {T : WT} {a b : Bool} {W : World} (h : BW N g o cap gw L T a b W) (hg : g < N) (hw : gw < N) (x : Bool) : BW N g o cap gw L T a x (W.setCell ⟨N + 2, 1, none⟩ (.bool x)) := by
  have hne : ∀ {b c : Nat} {i j : Nat}, b ≠ c → (⟨b, i, none⟩ : Addr) ≠ ⟨c, j, none⟩ := fun hbc e => hbc (by cases e; rfl)
  have hno : ∀ {b i j : Nat}, i ≠ j → (⟨b, i, none⟩ : Addr) ≠ ⟨b, j, none⟩ := fun hij e => hij (by cases e; rfl)
  exact ⟨set_at _ h.tc (hne (by omega)), ⟨by rw [size_set]; exact h.lay.lt, fun i hi j v hv => set_at _ (h.lay.c i hi j v hv) (hne (by omega))⟩, ⟨by rw [size_set]; exact h.tw.l, fun i hi => set_at _ (h.tw.r i hi) (hne (by omega)), fun i hi => set_at _ (h.tw.e i hi) (hne (by omega))⟩,
    set_at _ h.a (hno (by omega)), set_same h.b _, by rw [World.frozen?_setCell]; exact h.fa, by rw [World.frozen?_setCell]; exact h.fb⟩

theorem retL_cons (T : WT) (k : Nat) (K : List Nat) (b : Bool) : retL T (k :: K) b = retL T K (T k).1 := rfl
theorem endL_cons (T : WT) (k : Nat) (K : List Nat) : endL T (k :: K) = ((T k).2 && endL T K) := rfl

theorem blk_world (w : World) (g o cap gw : Nat) (L : List Nd) (T : WT) (h : Lay w g o L) (ht : Tw w gw L.length T) : ∃ w3, ((w.alloc (.cells #[.slice (some ⟨g, o, none⟩) L.length cap] 24)).alloc (.cells #[.bool false, .bool false] 61)).alloc (.cells #[.bool false, .bool true] 61) = w3 ∧
    BW w.heap.size g o cap gw L T false true w3 ∧ Below w.heap.size w w3 ∧ w3.heap.size = w.heap.size + 3 ∧ (w3.cell? ⟨w.heap.size + 1, 0, none⟩ = some (.bool false) ∧ w3.frozen? ⟨w.heap.size + 1, 0, none⟩ = false) ∧ (w3.cell? ⟨w.heap.size + 1, 1, none⟩ = some (.bool false) ∧ w3.frozen? ⟨w.heap.size + 1, 1, none⟩ = false) := by
  obtain ⟨w3, hw3⟩ : ∃ w3, ((w.alloc (.cells #[.slice (some ⟨g, o, none⟩) L.length cap] 24)).alloc (.cells #[.bool false, .bool false] 61)).alloc (.cells #[.bool false, .bool true] 61) = w3 := ⟨_, rfl⟩
  have B3 : Below w.heap.size w w3 := by rw [← hw3]; exact (((Below.refl _ w).alloc (Nat.le_refl _) _).alloc (by simp) _).alloc (by simp; omega) _
  have h0 : w3.heap[w.heap.size]? = some (.cells #[.slice (some ⟨g, o, none⟩) L.length cap] 24) := by rw [← hw3]; simp only [hgAlloc, World.size_alloc]; rw [if_neg (by omega), if_neg (by omega), if_pos trivial]
  have h1 : w3.heap[w.heap.size + 1]? = some (.cells #[.bool false, .bool false] 61) := by rw [← hw3]; simp only [hgAlloc, World.size_alloc]; rw [if_neg (by omega), if_pos trivial]
  have h2 : w3.heap[w.heap.size + 2]? = some (.cells #[.bool false, .bool true] 61) := by rw [← hw3]; simp only [hgAlloc, World.size_alloc]; rw [if_pos (by first | trivial | omega)]
  exact ⟨w3, hw3, ⟨(cell_block h0 rfl).1, h.next B3, ht.next B3, (cell_block h2 rfl).1, (cell_block h2 rfl).1, (cell_block h2 (k := 0) rfl).2, (cell_block h2 (k := 1) rfl).2⟩, B3, by rw [← hw3]; simp, cell_block h1 rfl, cell_block h1 rfl⟩

set_option maxRecDepth 100000 in
set_option maxHeartbeats 4000000 in
theorem rblock_any (w : World) (g o cap : Nat) (L : List Nd) (gw n : Nat) (T : WT) (hL : L.length ≤ 1353245080300) (hn : n < L.length) (hw : Wy L) (h : Hid (Lay w g o L)) (ht : Hid (Tw w gw L.length T)) :
    Calls Tryd.prog 49 #[.agg #[.slice (some ⟨g, o, none⟩) L.length cap], .int .i64 (n : Int), .slice (some ⟨gw, 0, none⟩) L.length L.length] w fun e w' => e = .returned (.agg #[.bool (retL T (stmS L (n + 1) (endOf L n)) false), .bool (endL T (stmS L (n + 1) (endOf L n)))]) ∧ Below w.heap.size w w' := by
  obtain ⟨w3, hw3, bw, B3, z3, r0, r1⟩ := blk_world w g o cap gw L T h.out ht.out
  have hg := h.out.lt
  have hgw := ht.out.l
  obtain ⟨he, e1, e2⟩ := end_int (hw.good n hn)
  have HG : Hid (∀ x, x < endOf L n → 1 ≤ sz L x) := fun x hx => (hw.good x (by omega)).1
  have HN : Hid (∀ k, n < k → k < endOf L n → endOf L k ≤ endOf L n ∧ k < endOf L k ∧ (nd L k).size = (endOf L k : Int) - k) := fun k h1 h2 => by
    obtain ⟨a, b, _⟩ := end_int (hw.good k (by omega))
    exact ⟨hw.nest n k hn h1 h2, b, by show sz L k = _; omega⟩
  have hsn : Hid ((nd L n).size = (endOf L n : Int) - n) := by show sz L n = _; omega
  obtain ⟨ra, hra⟩ : ∃ ra, retL T (stmS L (n + 1) (endOf L n)) false = ra := ⟨_, rfl⟩
  obtain ⟨rb, hrb⟩ : ∃ rb, endL T (stmS L (n + 1) (endOf L n)) = rb := ⟨_, rfl⟩
  have HA : Hid (retL T (stmS L (n + 1) (endOf L n)) false = ra) := hra
  have HB : Hid ((true && endL T (stmS L (n + 1) (endOf L n))) = rb) := hrb
  rw [hra, hrb]
  generalize endOf L n = E at *
  have HBW : Hid (BW w.heap.size g o cap gw L T false true w3) := bw
  have BB : Hid (Below w.heap.size w w3) := B3
  clear hra hrb he h ht hw bw B3
  have i3 : IntKind.i64.wrap ((n : Int) + 1) = (n : Int) + 1 := by rw [IntKind.wrap_i64]; omega
  have i4 : IntKind.i64.wrap ((n : Int) + ((E : Int) - n)) = (E : Int) := by rw [IntKind.wrap_i64]; omega
  have i0 : (0 : Int) ≤ (n : Int) := by omega
  have i1 : (n : Int) < (L.length : Int) := by omega
  go_enter Tryd.func49, Tryd.ntmps49
  go_wp2
  clear i3 hw3
  go_loopw [8] (fun v wr => ∃ (k : Nat) (a b : Bool), v = .int .i64 (k : Int) ∧ n < k ∧ k ≤ E ∧ Hid (retL T (stmS L k E) a = ra) ∧ Hid ((b && endL T (stmS L k E)) = rb) ∧ Hid (BW w.heap.size g o cap gw L T a b wr) ∧ Hid (Below (w.heap.size + 2) w3 wr)) (fun v _ => E - (intOf v).toNat)
  case atStart => exact ⟨n + 1, false, true, by simp, by omega, by omega, HA, HB, HBW, Below.refl _ _⟩
  case round =>
    obtain ⟨k, a, b, rfl, hnk, hkE, ha, hb, hbw, hbl⟩ := hrel
    clear HA HB HBW
    have t0 := hbw.out.tc
    have s0 := hbw.out.lay.size hn
    rw [hsn.out] at s0
    by_cases hlt : k < E
    · have hlt' : (k : Int) < (E : Int) := by omega
      have j0 : (0 : Int) ≤ (k : Int) := by omega
      have j1 : (k : Int) < (L.length : Int) := by omega
      have hkl : k < L.length := by omega
      obtain ⟨f1, f2, f3⟩ := HN.out k hnk hlt
      have k0 := hbw.out.lay.kind hkl
      have k8 := hbw.out.lay.size hkl
      rw [f3] at k8
      have i5 : IntKind.i64.wrap ((k : Int) + ((endOf L k : Int) - k)) = (endOf L k : Int) := by rw [IntKind.wrap_i64]; omega
      have hgo := stm_go L k E HG.out hlt
      by_cases h16 : (nd L k).kind = 16
      · rw [if_pos h16] at hgo
        rw [h16] at k0
        have HA1 : Hid (retL T (stmS L (endOf L k) E) a = ra) := by show _ = _; rw [← ha.out, hgo]; rfl
        have HB1 : Hid ((b && endL T (stmS L (endOf L k) E)) = rb) := by show _ = _; rw [← hb.out, hgo]; rfl
        clear hgo h16 f3
        generalize endOf L k = F at *
        go_wp2
        exact ⟨⟨F, a, b, by first | rfl | (congr 1; omega), by omega, f1, HA1, HB1, hbw, hbl⟩, by simp [intOf]; omega⟩
      · rw [if_neg h16] at hgo
        have h16' : ((nd L k).kind == 16) = false := by simpa using h16
        have HA1 : Hid (retL T (stmS L (endOf L k) E) (T k).1 = ra) := by show _ = _; rw [← ha.out, hgo]; rfl
        have HB1 : Hid ((b && ((T k).2 && endL T (stmS L (endOf L k) E))) = rb) := by show _ = _; rw [← hb.out, hgo]; rfl
        have y1 := hbw.out.tw.r k hkl
        have bw1 := hbw.out.seta hg hgw (T k).1
        have a0 := hbw.out.a
        have a1 := hbw.out.fa
        obtain ⟨W1, hW1⟩ : ∃ W1, wr.setCell ⟨w.heap.size + 2, 0, none⟩ (.bool (T k).1) = W1 := ⟨_, rfl⟩
        have hbl1 : Below (w.heap.size + 2) w3 W1 := by rw [← hW1]; exact hbl.out.setCell (p := ⟨w.heap.size + 2, 0, none⟩) (Nat.le_refl _) _
        rw [hW1] at bw1
        have y2 := bw1.tw.e k hkl
        have t1 := bw1.tc
        have m8 := bw1.lay.size hkl
        rw [f3] at m8
        have a2 := bw1.b
        have a3 := bw1.fb
        have HB2 : Hid (Below (w.heap.size + 2) w3 W1) := hbl1
        have HW1 : Hid (BW w.heap.size g o cap gw L T (T k).1 b W1) := bw1
        clear hgo h16 f3 bw1 hbl1
        generalize endOf L k = F at *
        generalize (nd L k).kind = q at *
        cases tk : (T k).2 with
        | true =>
          rw [tk] at y2 HB1
          rw [Bool.true_and] at HB1
          generalize (T k).1 = u at *
          go_wp2
          exact ⟨⟨F, u, b, by first | rfl | (congr 1; omega), by omega, f1, HA1, HB1, HW1, HB2⟩, by simp [intOf]; omega⟩
        | false =>
          rw [tk] at y2 HB1
          have bw2 := HW1.out.setb hg hgw false
          obtain ⟨W2, hW2⟩ : ∃ W2, W1.setCell ⟨w.heap.size + 2, 1, none⟩ (.bool false) = W2 := ⟨_, rfl⟩
          have hbl2 : Below (w.heap.size + 2) w3 W2 := by rw [← hW2]; exact HB2.out.setCell (p := ⟨w.heap.size + 2, 1, none⟩) (Nat.le_refl _) _
          rw [hW2] at bw2
          have t2 := bw2.tc
          have p8 := bw2.lay.size hkl
          rw [show (nd L k).size = (F : Int) - k by have := HW1.out.lay.size hkl; rw [m8] at this; simpa using this.symm] at p8
          have HB3 : Hid (Below (w.heap.size + 2) w3 W2) := hbl2
          have HW2 : Hid (BW w.heap.size g o cap gw L T (T k).1 false W2) := bw2
          have HB4 : Hid ((false && endL T (stmS L F E)) = rb) := by show _ = _; rw [← HB1.out]; simp
          clear bw2 hbl2 HB1
          generalize (T k).1 = u at *
          go_wp2
          exact ⟨⟨F, u, false, by first | rfl | (congr 1; omega), by omega, f1, HA1, HB4, HW2, HB3⟩, by simp [intOf]; omega⟩
    · obtain rfl : k = E := by omega
      have hlt' : ¬ (k : Int) < (k : Int) := by omega
      obtain rfl : a = ra := by rw [← ha.out, stm_end L k k (Nat.le_refl _)]; rfl
      obtain rfl : b = rb := by rw [← hb.out, stm_end L k k (Nat.le_refl _)]; simp [endL]
      have a0 := hbw.out.a
      have a1 := hbw.out.b
      have q0 := (hbl.out.cell (p := ⟨w.heap.size + 1, 0, none⟩) (by show w.heap.size + 1 < _; omega)).trans r0.1
      have q1 := (hbl.out.frozen (p := ⟨w.heap.size + 1, 0, none⟩) (by show w.heap.size + 1 < _; omega)).trans r0.2
      have q2 := (hbl.out.cell (p := ⟨w.heap.size + 1, 1, none⟩) (by show w.heap.size + 1 < _; omega)).trans r1.1
      have q3 := (hbl.out.frozen (p := ⟨w.heap.size + 1, 1, none⟩) (by show w.heap.size + 1 < _; omega)).trans r1.2
      have HF : Hid (Below w.heap.size w ((wr.setCell ⟨w.heap.size + 1, 0, none⟩ (.bool a)).setCell ⟨w.heap.size + 1, 1, none⟩ (.bool b))) := ((BB.out.trans (hbl.out.mono (by omega))).setCell (p := ⟨w.heap.size + 1, 0, none⟩) (by show w.heap.size ≤ w.heap.size + 1; omega) _).setCell (p := ⟨w.heap.size + 1, 1, none⟩) (by show w.heap.size ≤ w.heap.size + 1; omega) _
      go_wp2
      have t0 := two_set (a := .bool a) (b := .bool b) q0 q2
      exact bodyPost_ret (v := .agg #[.bool a, .bool b]) (by simp [results, Tryd.results49, go_sem, t0.1, t0.2]) rfl ⟨rfl, HF.out⟩

end Go.Proofs.YtlocaalipjjnpaaDoor
