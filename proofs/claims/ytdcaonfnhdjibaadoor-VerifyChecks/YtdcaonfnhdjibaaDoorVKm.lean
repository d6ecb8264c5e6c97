import Derived.Test.YtdcaonfnhdjibaaDoorVKk
import Derived.Test.YtdcaonfnhdjibaaDoorVC1
import Derived.Lib.QuietBelow
namespace Go.Proofs.YtdcaonfnhdjibaaDoor
open Go.RowKit

/-! The program's High. -/
set_option maxRecDepth 100000 in
set_option maxHeartbeats 1000000 in
theorem catchH_yes (A : Nat) (k a : Int) (x : Value) (w : World) (hA : w.cell? ⟨A, 0, none⟩ = some x) (fA : w.frozen? ⟨A, 0, none⟩ = false) :
    CallsD Tryd.prog 40 #[.pointer (some ⟨A, 0, none⟩)] (.panicking [{ v := rfV k a, recovered := false }]) w fun e u' w' =>
      e = .returned (.tuple #[]) ∧ u' = .panicking [{ v := rfV k a, recovered := true }] ∧ ∃ W, Below w.heap.size w W ∧ w' = W.setCell ⟨A, 0, none⟩ (.int .i64 k) := by
  refine callsD_of_wpS Tryd.func40 rfl fun c₀ cs hu => ?_
  apply wpS_region
  have cA : ∀ W, Below w.heap.size w W → W.cell? ⟨A, 0, none⟩ = some x := fun W hb => (hb.cell (p := ⟨A, 0, none⟩) (block_lt_of_cell hA)).trans hA
  have gA : ∀ W, Below w.heap.size w W → W.frozen? ⟨A, 0, none⟩ = false := fun W hb => (hb.frozen (p := ⟨A, 0, none⟩) (block_lt_of_cell hA)).trans fA
  simp [wpOpsS, go_sem, recoverD, hu, Tryd.ntmps40]
  refine (reason_yes k a w).mono ?_
  rintro e W ⟨rfl, hb⟩
  have k1 := cA W hb
  have k3 := gA W hb
  simp [go_sem, k1, k3, bodyPostS, results, Tryd.results40]
  exact ⟨W, hb, rfl⟩
set_option maxRecDepth 100000 in
set_option maxHeartbeats 1000000 in
theorem catchH_no (A : Nat) (x : Value) (w : World) (hA : w.cell? ⟨A, 0, none⟩ = some x) (fA : w.frozen? ⟨A, 0, none⟩ = false) :
    CallsD Tryd.prog 40 #[.pointer (some ⟨A, 0, none⟩)] .returning w fun e u' w' =>
      e = .returned (.tuple #[]) ∧ u' = .returning ∧ w' = w.setCell ⟨A, 0, none⟩ (.int .i64 0) := by
  refine callsD_of_wpS Tryd.func40 rfl fun c₀ cs hu => ?_
  apply wpS_region
  simp [wpOpsS, go_sem, recoverD, hu, Tryd.ntmps40]
  refine (reason_no w).mono ?_
  rintro e W ⟨rfl, rfl⟩
  cases c₀
  simp_all [go_sem, bodyPostS, results, Tryd.results40]
theorem cut_mid (g n lo hi : Nat) (h1 : lo ≤ hi) (h2 : hi ≤ n) (h3 : lo < n) : ∀ w : World, (Instr.slice 70 (.slice (some ⟨g, 0, none⟩) n n) (some (.int .i64 (lo : Int))) (some (.int .i64 (hi : Int))) none).run Tryd.prog w = .ok (.slice (some ⟨g, lo, none⟩) (hi - lo) (n - lo)) w := fun w => by
  have h4 : ¬ (n = lo) := by omega
  simp [go_sem, Instr.slice, run_underlying Tryd.underlying70, h1, h2, h4, Addr.add]
  exact fun h => h.symm
/-- How long a stack in memory is. -/
theorem KnM.stk {w : World} {kg : Nat} {K : Kn} {ks : List Value} (h : KnM w kg K ks) (i : Nat) (hi : i < K.length) : ∃ q cap, w.cell? ⟨kg, i, none⟩ = some (.slice q (stkAt K i).length cap) := by
  unfold stkAt
  cases hk : K.getD i none with
  | none => exact ⟨none, 0, (h.full.cell i _ (h.no i hi hk)).1⟩
  | some s =>
    obtain ⟨q, n, cap, h1, h2⟩ := h.yes i s hk
    obtain rfl : s.length = n := by obtain ⟨_, _, _, hl, -⟩ := h2; exact hl
    exact ⟨q, cap, (h.full.cell i _ h1).1⟩
section
variable {w : World} {B : Nat} {iq eq tq : Option Addr} {Es : List Em} {c : Cd}
set_option maxRecDepth 100000 in
set_option maxHeartbeats 4000000 in
theorem high_any (m : CodeM w B iq eq tq Es c) (cp : ∀ y ∈ Es, y.1.sorts.length ≤ y.2.2 ∧ (y.2.1 = none → y.1.sorts.length = 0)) (ia ea ta : Nat) (hB : B ≤ w.heap.size) (ht : Tabs w) (f : Int) :
    Calls Tryd.prog 20 #[codeV iq eq tq ia ea ta c, .int .i64 f] w fun z w' => z = .returned (.tuple #[.int .i64 (highR c f (surS c)).1, .int .i64 (highR c f (surS c)).2]) ∧ Below w.heap.size w w' := by
  have hmf : ∀ (fn : Fn) (first cap : Array Value) (w : World), (Instr.makeFunc fn first cap).run Tryd.prog w = .ok (.func fn first cap) w := fun _ _ _ _ => rfl
  obtain ⟨X, hX⟩ : ∃ X, w.alloc (.cells #[.slice iq c.ins.length ia, .slice eq c.ens.length ea, .slice tq c.txs.length ta, .int .i64 c.main] 26) = X := ⟨_, rfl⟩
  have zX : X.heap.size = w.heap.size + 1 := by rw [← hX]; simp
  obtain ⟨w1, hw1⟩ : ∃ w1, X.alloc (.cells #[.int .i64 0] 31) = w1 := ⟨_, rfl⟩
  have bX : Below w.heap.size w X := by rw [← hX]; exact (Below.refl _ w).alloc (Nat.le_refl _) _
  have bY : Below X.heap.size X w1 := by rw [← hw1]; exact (Below.refl _ X).alloc (Nat.le_refl _) _
  have B1 : Below w.heap.size w w1 := below2 bX bY
  have FX : Full w1 w.heap.size 26 [.slice iq c.ins.length ia, .slice eq c.ens.length ea, .slice tq c.txs.length ta, .int .i64 c.main] := by
    have : Full X w.heap.size 26 [.slice iq c.ins.length ia, .slice eq c.ens.length ea, .slice tq c.txs.length ta, .int .i64 c.main] := by rw [← hX]; exact Full.new w _ _
    exact this.next bY
  have FA : Full w1 (w.heap.size + 1) 31 [.int .i64 0] := by
    have : Full w1 X.heap.size 31 [.int .i64 0] := by rw [← hw1]; exact Full.new X _ _
    rw [zX] at this
    exact this
  have x0 := (FX.cell 0 _ rfl).1
  have x1 := (FX.cell 1 _ rfl).1
  have x2 := (FX.cell 2 _ rfl).1
  have x3 := (FX.cell 3 _ rfl).1
  have HB1 : Hid (Below w.heap.size w w1 ∧ Full w1 (w.heap.size + 1) 31 [.int .i64 0] ∧ Full w1 w.heap.size 26 [.slice iq c.ins.length ia, .slice eq c.ens.length ea, .slice tq c.txs.length ta, .int .i64 c.main]) := ⟨B1, FA, FX⟩
  have c1 := survey_any (m.below B1 hB) cp ia ea ta (Nat.le_trans hB B1.size) (ht.next B1)
  obtain ⟨R, HR⟩ : ∃ R, Hid (surS c = R) := ⟨_, (rfl : surS c = _)⟩
  rw [HR.out] at c1 ⊢
  obtain ⟨P, HP⟩ : ∃ P, Hid (highR c f R = P) := ⟨_, (rfl : highR c f R = _)⟩
  rw [HP.out]
  have HM : Hid (CodeM w B iq eq tq Es c ∧ B ≤ w.heap.size) := ⟨m, hB⟩
  unfold codeV at c1 ⊢
  clear m cp hB ht bX bY B1 FX FA
  go_enter_defers Tryd.func20, Tryd.ntmps20
  go_wp2_with fail
  refine c1.mono ?_
  rintro z w2 h2
  replace h2 := h2.out
  clear c1 x0 x1 x2 x3 hX hw1 zX hmf
  cases R with
  | error k =>
    obtain ⟨rfl, hb2⟩ := h2
    obtain ⟨c1, f1⟩ := (HB1.out.2.1.next hb2).cell 0 _ rfl
    have hp : P = (0, k.1) := by rw [← HP.out]; rfl
    subst hp
    go_wp2
    refine leaves_cons (f := 40) (args := #[.pointer (some ⟨w.heap.size + 1, 0, none⟩)]) (by simp) (by simp [go_sem]) ?_
    refine (catchH_yes (w.heap.size + 1) k.1 k.2 _ w2 c1 f1).mono ?_
    rintro e u' w3 ⟨rfl, rfl, W, hbW, rfl⟩
    have d1 : (W.setCell ⟨w.heap.size + 1, 0, none⟩ (.int .i64 k.1)).cell? ⟨w.heap.size + 1, 0, none⟩ = some (.int .i64 k.1) := World.cell?_setCell_same' _ _ _ (by rw [(((HB1.out.2.1.next hb2).next hbW).cell 0 _ rfl).1]; rfl)
    have b3 : Below w.heap.size w (W.setCell ⟨w.heap.size + 1, 0, none⟩ (.int .i64 k.1)) := (below2 (below2 HB1.out.1 hb2) hbW).setCell (p := ⟨w.heap.size + 1, 0, none⟩) (Nat.le_succ _) _
    simp [Leaves, settle, results, Tryd.results20, go_sem, d1]
    exact b3
  | ok K =>
    obtain ⟨kg, ks, rfl, hkn, hkg, hb2⟩ := h2
    obtain ⟨hc, -, hKl, -, -⟩ := sur_ok HR.out
    have HA : Hid (CodeOk c ∧ K.length = c.ins.length ∧ ∀ j, (stkAt K j).length ≤ 400) := ⟨hc, hKl, all_len (sur_sok HR.out)⟩
    have HW2 : Hid (Below w.heap.size w w2 ∧ Full w2 (w.heap.size + 1) 31 [.int .i64 0] ∧ Full w2 w.heap.size 26 [.slice iq c.ins.length ia, .slice eq c.ens.length ea, .slice tq c.txs.length ta, .int .i64 c.main] ∧ KnM w2 kg K ks) := ⟨below2 HB1.out.1 hb2, HB1.out.2.1.next hb2, HB1.out.2.2.next hb2, hkn⟩
    clear hkn hkg hb2 hc hKl HB1
    have x1 := (HW2.out.2.2.1.cell 1 _ rfl).1
    by_cases hout : f < 0 ∨ (c.ens.length : Int) ≤ f
    · have hp : P = (0, 143) := by rw [← HP.out, highR, if_pos hout]
      subst hp
      have cR := refuse_any w2 143 0
      obtain ⟨c1, f1⟩ := HW2.out.2.1.cell 0 _ rfl
      have fin : ∀ (W : World), Below w2.heap.size w2 W → (W.setCell ⟨w.heap.size + 1, 0, none⟩ (.int .i64 143)).cell? ⟨w.heap.size + 1, 0, none⟩ = some (.int .i64 143) ∧ Below w.heap.size w (W.setCell ⟨w.heap.size + 1, 0, none⟩ (.int .i64 143)) := fun W hbW => ⟨World.cell?_setCell_same' _ _ _ (by rw [((HW2.out.2.1.next hbW).cell 0 _ rfl).1]; rfl), (below2 HW2.out.1 hbW).setCell (p := ⟨w.heap.size + 1, 0, none⟩) (Nat.le_succ _) _⟩
      have HFin : Hid (∀ (W : World), Below w2.heap.size w2 W → (W.setCell ⟨w.heap.size + 1, 0, none⟩ (.int .i64 143)).cell? ⟨w.heap.size + 1, 0, none⟩ = some (.int .i64 143) ∧ Below w.heap.size w (W.setCell ⟨w.heap.size + 1, 0, none⟩ (.int .i64 143))) := fin
      clear fin
      rcases Classical.em (f < 0) with h1 | h1
      all_goals
        first | (have h2 : (c.ens.length : Int) ≤ f := by omega) | skip
        clear hout
        go_wp2_with fail
        refine cR.mono ?_
        rintro z W2 ⟨rfl, rfl⟩
        clear cR
        go_wp2
        refine leaves_cons (f := 40) (args := #[.pointer (some ⟨w.heap.size + 1, 0, none⟩)]) (by simp) (by simp [go_sem]) ?_
        refine (catchH_yes (w.heap.size + 1) 143 0 _ W2 c1 f1).mono ?_
        rintro e u' w3 ⟨rfl, rfl, W, hbW, rfl⟩
        obtain ⟨d1, b3⟩ := HFin.out W hbW
        simp [Leaves, settle, results, Tryd.results20, go_sem, d1]
        exact b3
    · obtain ⟨f, rfl⟩ : ∃ f' : Nat, f = (f' : Int) := ⟨f.toNat, by omega⟩
      have hf : f < c.ens.length := by omega
      obtain ⟨p1, p2, p3⟩ := piece_ok HA.out.1 hf
      obtain ⟨lo, Hlo⟩ : ∃ lo : Nat, Hid ((enAt c.ens f).start = (lo : Int)) := ⟨(enAt c.ens f).start.toNat, (by omega : (enAt c.ens f).start = _)⟩
      obtain ⟨hh, Hhi⟩ : ∃ hh : Nat, Hid (endS c f = (hh : Int)) := ⟨(endS c f).toNat, (by omega : endS c f = _)⟩
      have HE : Hid (P = (((hiS K lo (hh - lo) : Nat) : Int), 0)) := by
        show P = _
        rw [← HP.out, highR, if_neg (by omega), Int.toNat_natCast, Hlo.out, Hhi.out, Int.toNat_natCast, Int.toNat_natCast]
      have hlh : lo ≤ hh := by have := Hlo.out; have := Hhi.out; omega
      have hhl : hh ≤ c.ins.length := by have := Hhi.out; omega
      have hll : lo < c.ins.length := by have := Hlo.out; have := Hhi.out; omega
      have hil := HA.out.1.il
      obtain ⟨g2, o2, dq, dc, hq2, hg2, hr2, -⟩ := code_ent (HM.out.1.below HW2.out.1 HM.out.2) f hf
      subst hq2
      have r1 := cell_regrown (hr2 1 _ rfl)
      rw [Hlo.out] at r1
      have y0 := cell_regrown (HW2.out.2.2.1.cell 0 _ rfl).1
      have y1 := cell_regrown x1
      have y2 := cell_regrown (HW2.out.2.2.1.cell 2 _ rfl).1
      have y3 := cell_regrown (HW2.out.2.2.1.cell 3 _ rfl).1
      have cE : ∀ dd os, Calls Tryd.prog 42 #[.agg #[.slice iq c.ins.length ia, .slice (some ⟨g2, o2, none⟩) c.ens.length ea, .slice tq c.txs.length ta, .int .i64 c.main], .int .i64 (f : Int)] (Sort.grow (redrawn w2 dd) os) fun e w'' => e = .returned (.int .i64 (hh : Int)) ∧ ∃ z : Regrown, w'' = Sort.grow (redrawn w2 z.d) z.os := fun dd os => by
        have hb := below_regrown w2 dd os
        have := pieceEnd_any (HM.out.1.below (below2 HW2.out.1 hb) HM.out.2) HA.out.1 ia ea ta (Nat.le_trans HM.out.2 (below2 HW2.out.1 hb).size) f hf
        rw [Hhi.out] at this
        exact Calls.regrown_of this
      have sl := cut_mid kg c.ins.length lo hh hlh hhl hll
      have f0 : (0 : Int) ≤ (f : Int) := by omega
      have f1 : (f : Int) < (c.ens.length : Int) := by omega
      have f2 : ¬ ((f : Int) < 0) := by omega
      have f3 : ¬ ((c.ens.length : Int) ≤ (f : Int)) := by omega
      clear hg2 hr2 p1 p2 p3 hout
      go_upto_region 5 with fail
      clear x1
      refine wp_region_quiet_below (by kernel_rfl) (by kernel_rfl) ?_
      repeat (first | go_big_quiet_step (first | with_reducible exact cE _ _) | quiet_step (first | with_reducible exact cE _ _))
      refine wpQuiet_nil ?_
      intro _ hw'
      obtain ⟨⟨dq, osq⟩, hw''⟩ := hw'
      subst hw''
      have hY := below_regrown w2 dq osq
      first | (change Exit.then _ _ Exit.normal _ (Sort.grow (redrawn w2 dq) osq)) | skip
      generalize Sort.grow (redrawn w2 dq) osq = W3 at hY ⊢
      clear cE
      have HW3 : Hid (Below w.heap.size w W3 ∧ Full W3 (w.heap.size + 1) 31 [.int .i64 0] ∧ KnM W3 kg K ks) := ⟨below2 HW2.out.1 hY, HW2.out.2.1.next hY, HW2.out.2.2.2.keep (hY.block kg HW2.out.2.2.2.blk.lt) fun g hg => hY.block g hg.lt⟩
      clear r1 y0 y1 y2 y3 sl hY
      obtain ⟨nn, Hnn⟩ : ∃ nn, Hid (hh - lo = nn) := ⟨_, (rfl : hh - lo = _)⟩
      rw [Hnn.out] at HE ⊢
      have hnn : (nn : Int) ≤ 60000 := by have := Hnn.out; omega
      have HI0 : Hid (Below W3.heap.size W3 W3) := Below.refl _ _
      go_wp2_with fail
      go_loopw [4, 34] (fun hv iv wr => ∃ (k : Nat), k ≤ nn ∧ hv = .int .i64 ((hiS K lo k : Nat) : Int) ∧ iv = .int .i64 (k : Int) ∧ wr = W3) (fun _ iv _ => nn - (intOf iv).toNat)
      case atStart => exact ⟨0, Nat.zero_le _, rfl, rfl, rfl⟩
      case round =>
        obtain ⟨k, hk, rfl, rfl, rfl⟩ := hrel
        by_cases hlt : k < nn
        · have a0 : (0 : Int) ≤ (k : Int) := by omega
          have a1 : (k : Int) < (nn : Int) := by omega
          obtain ⟨q, cap, y2⟩ := HW3.out.2.2.stk (lo + k) (by have := HA.out.2.1; have := Hnn.out; omega)
          obtain ⟨s, Hs⟩ : ∃ s, Hid ((stkAt K (lo + k)).length = s) := ⟨_, (rfl : (stkAt K (lo + k)).length = _)⟩
          rw [Hs.out] at y2
          obtain ⟨hv, Hhv⟩ : ∃ hv, Hid (hiS K lo k = hv) := ⟨_, (rfl : hiS K lo k = _)⟩
          rw [Hhv.out]
          have HN : Hid (((max hv s : Nat) : Int) = ((hiS K lo (k + 1) : Nat) : Int)) := by show ((_ : Nat) : Int) = ((max _ _ : Nat) : Int); rw [Hhv.out, Hs.out]
          go_wp2
          refine ⟨⟨k + 1, by omega, ?_, by go_num, by first | trivial | rfl⟩, by simp [intOf]; omega⟩
          rw [← HN.out]
          go_num
        · obtain rfl : k = nn := by omega
          have i1 : ¬ ((k : Int) < (k : Int)) := by omega
          have HEr := HW3.out.2.1
          obtain ⟨c1, f1⟩ := HEr.cell 0 _ rfl
          have d1 : (wr.setCell ⟨w.heap.size + 1, 0, none⟩ (.int .i64 0)).cell? ⟨w.heap.size + 1, 0, none⟩ = some (.int .i64 0) := World.cell?_setCell_same' _ _ _ (by rw [c1]; rfl)
          have d2 : ((wr.setCell ⟨w.heap.size + 1, 0, none⟩ (.int .i64 0)).setCell ⟨w.heap.size + 1, 0, none⟩ (.int .i64 0)).cell? ⟨w.heap.size + 1, 0, none⟩ = some (.int .i64 0) := World.cell?_setCell_same' _ _ _ (by rw [d1]; rfl)
          have b3 : Hid (Below w.heap.size w ((wr.setCell ⟨w.heap.size + 1, 0, none⟩ (.int .i64 0)).setCell ⟨w.heap.size + 1, 0, none⟩ (.int .i64 0))) := (HW3.out.1.setCell (p := ⟨w.heap.size + 1, 0, none⟩) (Nat.le_succ _) _).setCell (p := ⟨w.heap.size + 1, 0, none⟩) (Nat.le_succ _) _
          clear HEr
          go_wp2
          refine leaves_cons (f := 40) (args := #[.pointer (some ⟨w.heap.size + 1, 0, none⟩)]) (by simp) (by simp [go_sem]) ?_
          refine (catchH_no (w.heap.size + 1) _ _ d1 (by simp [f1])).mono ?_
          rintro e u' w3 ⟨rfl, rfl, rfl⟩
          simp [Leaves, settle, results, Tryd.results20, go_sem, d2]
          exact ⟨by rw [HE.out]; simp, b3.out⟩
end
end Go.Proofs.YtdcaonfnhdjibaaDoor
