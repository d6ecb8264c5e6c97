import Derived.Test.YtdcaonfnhdjibaaDoorVK2
import Derived.OwnWalk
import Derived.Deep.LoopGhost
namespace Go.Proofs.YtdcaonfnhdjibaaDoor
open Go.RowKit

def nextS (c : Cd) (e : En) (hi : Int) (n : Nat) (t : Int) : Except Int Vst → Except (Int × Int) Kn
  | .error k => .error (k, t)
  | .ok st' => pieceS c e hi n st'
theorem piece_next (c : Cd) (e : En) (hi : Int) (n : Nat) (st : Vst) (h : st.2 ≠ []) : pieceS c e hi (n + 1) st = nextS c e hi n (topS st) (lkS c e hi (topS st).toNat (popS st)) := by
  rw [pieceS, if_neg h]
  show (match lkS c e hi (topS st).toNat (popS st) with | .error k => (Except.error (k, topS st) : Except (Int × Int) Kn) | .ok st' => pieceS c e hi n st') = _
  cases lkS c e hi (topS st).toNat (popS st) <;> rfl
section
variable {w : World} {B : Nat} {iq eq tq : Option Addr} {Es : List Em} {c : Cd}
set_option maxRecDepth 100000 in
set_option maxHeartbeats 8000000 in
theorem all_any (m : CodeM w B iq eq tq Es c) (ia ea ta : Nat) (hB : B ≤ w.heap.size) (h64 : In64 c) :
    Calls Tryd.prog 39 #[codeV iq eq tq ia ea ta c] w fun z w' => Hid (AllR w w' c z (surS c)) := by
  obtain ⟨T, HT⟩ : ∃ T, Hid (surS c = T) := ⟨_, (rfl : surS c = _)⟩
  rw [HT.out]
  have HM : Hid (CodeM w B iq eq tq Es c ∧ B ≤ w.heap.size) := ⟨m, hB⟩
  obtain ⟨X, hX⟩ : ∃ X, w.alloc (.cells #[.slice iq c.ins.length ia, .slice eq c.ens.length ea, .slice tq c.txs.length ta, .int .i64 c.main] 26) = X := ⟨_, rfl⟩
  have B1 : Below w.heap.size w X := by rw [← hX]; exact (Below.refl _ w).alloc (Nat.le_refl _) _
  have F1 : Full X w.heap.size 26 [.slice iq c.ins.length ia, .slice eq c.ens.length ea, .slice tq c.txs.length ta, .int .i64 c.main] := by rw [← hX]; exact Full.new w _ _
  have x0 := (F1.cell 0 _ rfl).1
  have x1 := (F1.cell 1 _ rfl).1
  have x2 := (F1.cell 2 _ rfl).1
  have x3 := (F1.cell 3 _ rfl).1
  have cV := rvalid_any (m.below B1 hB) ia ea ta (Nat.le_trans hB B1.size) h64
  have HX : Hid (Full X w.heap.size 26 [.slice iq c.ins.length ia, .slice eq c.ens.length ea, .slice tq c.txs.length ta, .int .i64 c.main] ∧ Below w.heap.size w X) := ⟨F1, B1⟩
  obtain ⟨V, HV⟩ : ∃ V, Hid (validS c = V) := ⟨_, (rfl : validS c = _)⟩
  rw [HV.out] at cV
  unfold codeV at cV ⊢
  clear m hB h64 B1 F1
  go_enter Tryd.func39, Tryd.ntmps39
  go_wp2_with fail
  refine cV.mono ?_
  rintro z W1 ⟨rfl, b1⟩
  have HW1 : Hid (Full W1 w.heap.size 26 [.slice iq c.ins.length ia, .slice eq c.ens.length ea, .slice tq c.txs.length ta, .int .i64 c.main] ∧ Below w.heap.size w W1 ∧ w.heap.size + 1 ≤ W1.heap.size) := ⟨HX.out.1.next b1, below2 HX.out.2 b1, (HX.out.1.next b1).lt⟩
  clear cV b1 x0 x1 x2 x3 HX hX
  by_cases hV : V = 0
  case neg =>
    have HT2 : Hid (T = .error (V, 0)) := by show T = _; rw [← HT.out, surS, HV.out, if_pos hV]
    have n1 : (V == 0) = false := by rw [beq_eq_false_iff_ne]; exact hV
    have n2 : (V != 0) = true := by rw [bne, n1]; rfl
    clear hV
    go_wp2
    go_ret3
    show AllR _ _ _ _ T
    rw [HT2.out]
    exact ⟨rfl, HW1.out.2.1⟩
  subst hV
  have hc : CodeOk c := code_ok.1 HV.out
  obtain ⟨mn, hmn⟩ : ∃ mn : Nat, c.main = (mn : Int) := ⟨c.main.toNat, by have := hc.m0; omega⟩
  have hml : mn < c.ens.length := by have := hc.ml; omega
  have hp0 := (ent_ok.1 (hc.es _ (en_mem hml))).p0
  have HC : Hid (CodeOk c) := hc
  obtain ⟨g2, o2, dq, dc, hq2, hg2, hr2, -⟩ := code_ent HM.out.1 mn hml
  subst hq2
  have hrW := range_same hr2 (HW1.out.2.1.block g2 (Nat.lt_of_lt_of_le hg2 HM.out.2))
  obtain ⟨nm, Hnm⟩ : ∃ nm, Hid ((enAt c.ens mn).name = nm) := ⟨_, (rfl : (enAt c.ens mn).name = _)⟩
  obtain ⟨s0, Hs0⟩ : ∃ s0, Hid ((enAt c.ens mn).start = s0) := ⟨_, (rfl : (enAt c.ens mn).start = _)⟩
  obtain ⟨pr, Hpr⟩ : ∃ pr, Hid ((enAt c.ens mn).params = pr) := ⟨_, (rfl : (enAt c.ens mn).params = _)⟩
  obtain ⟨sn, Hsn⟩ : ∃ sn, Hid ((enAt c.ens mn).sorts.length = sn) := ⟨_, (rfl : (enAt c.ens mn).sorts.length = _)⟩
  obtain ⟨rs, Hrs⟩ : ∃ rs, Hid ((enAt c.ens mn).result = rs) := ⟨_, (rfl : (enAt c.ens mn).result = _)⟩
  rw [Hnm.out, Hs0.out, Hpr.out, Hsn.out, Hrs.out] at hrW
  rw [Hpr.out] at hp0
  have r0 := hrW 0 _ rfl
  have r1 := hrW 1 _ rfl
  have r2 := hrW 2 _ rfl
  have r3 := hrW 3 _ rfl
  have r4 := hrW 4 _ rfl
  rw [Nat.add_zero] at r0
  have HE : Hid (T = if pr ≠ 0 ∨ rs ≠ 0 then .error (142, s0) else fnsS c 0 c.ens.length (List.replicate c.ins.length none)) := by
    show T = _
    rw [← HT.out, surS, if_neg (fun h => h HV.out), hmn, Int.toNat_natCast, Hpr.out, Hrs.out, Hs0.out]
    have e : (0 < pr ∨ rs ≠ 0) = (pr ≠ 0 ∨ rs ≠ 0) := propext ⟨fun h => h.imp (fun h => by omega) id, fun h => h.imp (fun h => by omega) id⟩
    simp only [e]
  have HMN : Hid (c.main = (mn : Int)) := hmn
  have x0 := (HW1.out.1.cell 0 _ rfl).1
  have x1 := (HW1.out.1.cell 1 _ rfl).1
  have x3 := (HW1.out.1.cell 3 _ rfl).1
  rw [hmn] at x3
  have a0 : (0 : Int) ≤ (mn : Int) := by omega
  have a1 : (mn : Int) < (c.ens.length : Int) := by omega
  clear hmn hr2 hrW hg2 hml
  go_upto_region 5 with fail
  obtain ⟨W2, hW2⟩ : ∃ W2, W2 = W1.alloc (.cells #[.string nm, .int .i64 s0, .int .i64 pr, .slice dq sn dc, .int .i64 rs] 47) := ⟨_, rfl⟩
  rw [← hW2]
  have b2 : Below W1.heap.size W1 W2 := by rw [hW2]; exact (Below.refl _ W1).alloc (Nat.le_refl _) _
  have F2 : Full W2 W1.heap.size 47 [.string nm, .int .i64 s0, .int .i64 pr, .slice dq sn dc, .int .i64 rs] := by rw [hW2]; exact Full.new W1 _ _
  have HW2 : Hid (Full W2 w.heap.size 26 [.slice iq c.ins.length ia, .slice (some ⟨g2, o2, none⟩) c.ens.length ea, .slice tq c.txs.length ta, .int .i64 c.main] ∧ Below w.heap.size w W2 ∧ w.heap.size + 1 ≤ W2.heap.size) := ⟨HW1.out.1.next b2, below2 HW1.out.2.1 b2, (HW1.out.1.next b2).lt⟩
  have e1 := (F2.cell 1 _ rfl).1
  have e2 := (F2.cell 2 _ rfl).1
  have e4 := (F2.cell 4 _ rfl).1
  have u1 := cell_regrown e1
  clear hW2 b2 F2 HW1 r0 r1 r2 r3 r4 x0 x1 x3 a0 a1
  by_cases hbad : pr ≠ 0 ∨ rs ≠ 0
  · have HT2 : Hid (T = .error (142, s0)) := by show T = _; rw [HE.out, if_pos hbad]
    by_cases hpr : pr = 0
    · subst hpr
      have hrs : rs ≠ 0 := by simpa using hbad
      have n1 : (rs == 0) = false := by rw [beq_eq_false_iff_ne]; exact hrs
      have n2 : (rs != 0) = true := by rw [bne, n1]; rfl
      go_upto_region 6 with fail
      go_wp2_with fail
      refine wp_region_quiet_below (by kernel_rfl) (by kernel_rfl) ?_
      repeat (first | go_big_quiet_step (first | fail) | quiet_step (first | fail))
      refine wpQuiet_nil ?_
      intro _ hw'
      obtain ⟨⟨dq, osq⟩, hw''⟩ := hw'
      subst hw''
      have hY := below_regrown W2 dq osq
      first | (change Exit.then _ _ Exit.normal _ (Sort.grow (redrawn W2 dq) osq)) | skip
      generalize Sort.grow (redrawn W2 dq) osq = W3 at hY ⊢
      have HB : Hid (Below w.heap.size w W3) := below2 HW2.out.2.1 hY
      go_wp2
      go_ret3
      show AllR _ _ _ _ T
      rw [HT2.out]
      exact ⟨rfl, HB.out⟩
    · have n1 : (pr == 0) = false := by rw [beq_eq_false_iff_ne]; exact hpr
      have n2 : (pr != 0) = true := by rw [bne, n1]; rfl
      go_upto_region 6 with fail
      go_wp2_with fail
      refine wp_region_quiet_below (by kernel_rfl) (by kernel_rfl) ?_
      repeat (first | go_big_quiet_step (first | fail) | quiet_step (first | fail))
      refine wpQuiet_nil ?_
      intro _ hw'
      obtain ⟨⟨dq, osq⟩, hw''⟩ := hw'
      subst hw''
      have hY := below_regrown W2 dq osq
      first | (change Exit.then _ _ Exit.normal _ (Sort.grow (redrawn W2 dq) osq)) | skip
      generalize Sort.grow (redrawn W2 dq) osq = W3 at hY ⊢
      have HB : Hid (Below w.heap.size w W3) := below2 HW2.out.2.1 hY
      go_wp2
      go_ret3
      show AllR _ _ _ _ T
      rw [HT2.out]
      exact ⟨rfl, HB.out⟩
  · have hpr : pr = 0 := by simpa using (not_or.1 hbad).1
    have hrs : rs = 0 := by simpa using (not_or.1 hbad).2
    subst hpr
    subst hrs
    have HT2 : Hid (fnsS c 0 c.ens.length (List.replicate c.ins.length none) = T) := by show _ = T; rw [HE.out, if_neg hbad]
    have x0 := (HW2.out.1.cell 0 _ rfl).1
    have hil := HC.out.il
    have hel := HC.out.el
    have mk := mk_known c.ins.length hil
    obtain ⟨Z, HZ⟩ : ∃ Z, Hid (((List.replicate c.ins.length rk0).flatMap rc).toArray = Z) := ⟨_, (rfl : ((List.replicate c.ins.length rk0).flatMap rc).toArray = _)⟩
    rw [HZ.out] at mk
    clear HE hbad u1
    go_upto_region 8 with fail
    obtain ⟨W4, hW4⟩ : ∃ W4, W4 = W2.alloc (.cells Z 85) := ⟨_, rfl⟩
    rw [← hW4]
    have b4 : Below W2.heap.size W2 W4 := by rw [hW4]; exact (Below.refl _ W2).alloc (Nat.le_refl _) _
    have HI0 : Hid (AI w W4 W2.heap.size [.slice iq c.ins.length ia, .slice (some ⟨g2, o2, none⟩) c.ens.length ea, .slice tq c.txs.length ta, .int .i64 c.main] c 0 (List.replicate c.ins.length none) T) := by
      refine ⟨below2 HW2.out.2.1 b4, HW2.out.1.next b4, ⟨List.replicate c.ins.length false, List.replicate c.ins.length rk0, ?_, List.length_replicate, fun j hj => ?_⟩, Pre.start c, fun i s hs => ?_, HT2.out, HW2.out.2.2⟩
      · rw [hW4, ← HZ.out]; exact RkM.new W2 _
      · rw [rep_get] at hj; cases hj
      · rw [rep_get] at hs; cases hs
    clear hW4 b4 HW2 x0 mk HZ HT2 e1 e2 e4
    generalize W2.heap.size = g at *
    have HG2 : Hid (∀ f, f < c.ens.length → ∀ wr, Below w.heap.size w wr → wr.cell? ⟨g2, o2 + f * 5 + 1, none⟩ = some (.int .i64 (enAt c.ens f).start)) := fun f hf wr hb => by
      obtain ⟨g3, o3, dq3, dc3, e3, hg3, hr3, -⟩ := code_ent (HM.out.1.below hb HM.out.2) f hf
      cases e3
      exact hr3 1 _ rfl
    go_wp2_with fail
    go_loopw [8] (fun iv wr => ∃ (f : Nat) (K : Kn), f ≤ c.ens.length ∧ iv = .int .i64 (f : Int) ∧ Hid (AI w wr g [.slice iq c.ins.length ia, .slice (some ⟨g2, o2, none⟩) c.ens.length ea, .slice tq c.txs.length ta, .int .i64 c.main] c f K T)) (fun iv _ => c.ens.length - (intOf iv).toNat)
    case atStart => exact ⟨0, _, Nat.zero_le _, rfl, HI0⟩
    case round =>
      obtain ⟨f, K, hf, rfl, HI⟩ := hrel
      clear HI0
      have x1 := (HI.out.x.cell 1 _ rfl).1
      have f0 : (0 : Int) ≤ (f : Int) := by omega
      by_cases hlt : f < c.ens.length
      · obtain ⟨q1, q2, q3⟩ := piece_ok HC.out hlt
        obtain ⟨p, Hp⟩ : ∃ p : Nat, Hid ((enAt c.ens f).start = (p : Int)) := ⟨(enAt c.ens f).start.toNat, (by omega : (enAt c.ens f).start = _)⟩
        have hpl : p < c.ins.length := by have := Hp.out; omega
        have HBg : Hid (BI w (((wr.setCell ⟨g, p * 3, none⟩ (.bool true)).setCell ⟨g, p * 3 + 1, none⟩ (.bool false)).setCell ⟨g, p * 3 + 2, none⟩ (.slice none 0 0)) g [.slice iq c.ins.length ia, .slice (some ⟨g2, o2, none⟩) c.ens.length ea, .slice tq c.txs.length ta, .int .i64 c.main] c f (c.ins.length + 1) (K.set p (some []), pushH [] (p : Int)) (fnS c f K)) := HI.out.begin HC.out hlt p Hp.out
        have r1 := HG2.out f hlt wr HI.out.b
        rw [Hp.out] at r1
        have f1 : (f : Int) < (c.ens.length : Int) := by omega
        have pa0 : (0 : Int) ≤ (p : Int) := by omega
        have pa1 : (p : Int) < (c.ins.length : Int) := by omega
        obtain ⟨Lk0, R0, hR0, hn0, -⟩ := HI.out.rk
        obtain ⟨y0, y1, y2⟩ := hR0.at_ p (by rw [hn0]; exact hpl)
        have z0 := hR0.fz p 0 (by rw [hn0]; exact hpl) (by omega)
        have z1 := hR0.fz p 1 (by rw [hn0]; exact hpl) (by omega)
        have z2 := hR0.fz p 2 (by rw [hn0]; exact hpl) (by omega)
        rw [Nat.add_zero] at z0
        have HK : Hid (Pre c f K ∧ All SOk K ∧ T = (match fnS c f K with | .error k => .error k | .ok K' => fnsS c (f + 1) (c.ens.length - (f + 1)) K')) := ⟨HI.out.pre, HI.out.so, by
          rw [← HI.out.eqn, show c.ens.length - f = (c.ens.length - (f + 1)) + 1 by omega, fnsS]; rfl⟩
        clear hR0 hn0 q1 q2 q3
        go_upto_region 12 with fail
        obtain ⟨W5, hW5⟩ : ∃ W5, W5 = ((wr.setCell ⟨g, p * 3, none⟩ (.bool true)).setCell ⟨g, p * 3 + 1, none⟩ (.bool false)).setCell ⟨g, p * 3 + 2, none⟩ (.slice none 0 0) := ⟨_, rfl⟩
        rw [← hW5] at HBg ⊢
        clear hW5 y0 y1 y2 z0 z1 z2 r1 x1 HI
        have x1 := (HBg.out.x.cell 1 _ rfl).1
        have r1 := HG2.out f hlt W5 HBg.out.b
        rw [Hp.out] at r1
        have HLb : Hid (leftV (K.set p (some []), pushH [] (p : Int)) = (p : Int)) := by
          obtain ⟨_, _, _, _, h⟩ := HBg.out.rk
          exact left_begin h
        go_wp2_with fail
        clear x1 r1
        obtain ⟨P, HP⟩ : ∃ P, Hid (fnS c f K = P) := ⟨_, (rfl : fnS c f K = _)⟩
        rw [HP.out] at HBg HK
        have h60 : (f : Int) ≤ 60 := by omega
        have HS0 : Hid (∃ st, (p : Int) = leftV st ∧ BI w W5 g [.slice iq c.ins.length ia, .slice (some ⟨g2, o2, none⟩) c.ens.length ea, .slice tq c.txs.length ta, .int .i64 c.main] c f (c.ins.length + 1) st P) := ⟨_, HLb.out.symm, HBg.out⟩
        clear HBg HLb
        go_loopg [9] (c.ins.length + 1) (fun n iv wr => ∃ st : Vst, iv = .int .i64 (leftV st) ∧ Hid (BI w wr g [.slice iq c.ins.length ia, .slice (some ⟨g2, o2, none⟩) c.ens.length ea, .slice tq c.txs.length ta, .int .i64 c.main] c f n st P))
        case atStart =>
          obtain ⟨st, e, h⟩ := HS0.out
          exact ⟨st, by rw [e], h⟩
        case round =>
          obtain ⟨st, rfl, HB⟩ := hrel
          clear HS0
          cases gk with
          | zero => exact absurd HB.out.lf (Nat.not_lt_zero _)
          | succ n =>
          by_cases hO : st.2 = []
          · have e : leftV st = -1 := by rw [leftV, if_pos hO]
            have HE : Hid (P = .ok st.1) := by show P = _; rw [← HB.out.eqn, pieceS, if_pos hO]
            have HN : Hid (AI w wr g [.slice iq c.ins.length ia, .slice (some ⟨g2, o2, none⟩) c.ens.length ea, .slice tq c.txs.length ta, .int .i64 c.main] c (f + 1) st.1 T) := by
              obtain ⟨Lk, R, h1, h2, h3⟩ := HB.out.rk
              refine ⟨HB.out.b, HB.out.x, ⟨Lk, R, h1, h2, h3.lk⟩, (HK.out.1.next HC.out hlt (HP.out.trans HE.out)).1, HB.out.so, ?_, HB.out.gl⟩
              have := HK.out.2.2
              rw [HE.out] at this
              exact this.symm
            rw [e]
            clear e
            go_wp2
            exact ⟨⟨f + 1, st.1, by omega, by go_num, HN⟩, by simp [intOf]; omega⟩
          · obtain ⟨Lk, R, hR, hnR, hRI⟩ := HB.out.rk
            obtain ⟨t1, t2, t3, t4, t5⟩ := hRI.top hO
            have hlo := hRI.lo0
            have hhi := hRI.hi1
            obtain ⟨at_, Hat⟩ : ∃ a : Nat, Hid (topS st = (a : Int)) := ⟨(topS st).toNat, (by omega : topS st = _)⟩
            have hal : at_ < c.ins.length := by have := Hat.out; rw [← hnR, hR.kl]; omega
            have e : leftV st = (at_ : Int) := by rw [leftV, if_neg hO]; exact Hat.out
            rw [Hat.out, Int.toNat_natCast] at t4
            have hsk : ∃ s, st.1.getD at_ none = some s := by
              cases hk : st.1.getD at_ none with
              | none => exact absurd hk t4
              | some s => exact ⟨s, rfl⟩
            obtain ⟨s, hs⟩ := hsk
            have hstk : stkAt st.1 at_ = s := by unfold stkAt; rw [hs]; rfl
            have hSo : SOk (stkAt st.1 at_) := by rw [hstk]; exact HB.out.so _ _ hs
            have cK := look_any (w := wr) (D := w.heap.size + 1) (st := popS st) (kc := c.ins.length) (HM.out.1.below HB.out.b HM.out.2) HC.out ia ea ta (by have := HM.out.2; omega) HB.out.gl f hlt at_ hal hR hnR hSo (all_len HB.out.so)
            obtain ⟨Y, HY⟩ : ∃ Y, Hid (lkS c (enAt c.ens f) (endS c f) at_ (popS st) = Y) := ⟨_, (rfl : lkS c (enAt c.ens f) (endS c f) at_ (popS st) = _)⟩
            rw [HY.out] at cK
            have HPn : Hid (P = nextS c (enAt c.ens f) (endS c f) n (at_ : Int) Y) := by
              show P = _
              rw [← HB.out.eqn, piece_next _ _ _ _ _ hO, Hat.out, Int.toNat_natCast, HY.out]
            have HRp : Hid (RI (enAt c.ens f).start (endS c f) (popS st) (Lk.set at_ true) ∧ ∀ st', Y = .ok st' → (Wl (enAt c.ens f) (endS c f) st' ∧ lft st' < lft st) ∧ All SOk st'.1) := by
              have h1 := hRI.pop hO
              rw [Hat.out, Int.toNat_natCast] at h1
              refine ⟨h1, fun st' h2 => ⟨?_, ?_⟩⟩
              · refine HB.out.wl.pop (c := c) hO ?_
                show lkS c (enAt c.ens f) (endS c f) (topS st).toNat (popS st) = _
                rw [Hat.out, Int.toNat_natCast, HY.out, h2]
              · refine lk_all (P := SOk) (st := popS st) hs (fun s s' a b d => eff_sok a (ent_ok.1 (HC.out.es _ (en_mem hlt))) (HC.out.is _ (ins_mem hal)) (fun e he => ent_ok.1 (HC.out.es e he)) b d) (HY.out.trans h2) HB.out.so
            have x0 := (HB.out.x.cell 0 _ rfl).1
            have x1 := (HB.out.x.cell 1 _ rfl).1
            have x2 := (HB.out.x.cell 2 _ rfl).1
            have x3 := (HB.out.x.cell 3 _ rfl).1
            have b0 : (0 : Int) ≤ (at_ : Int) := by omega
            unfold codeV at cK
            rw [e]
            clear e hs hstk hSo t1 t2 t3 t4 t5 hlo hhi hR hnR hRI
            cases Y with
            | error k =>
              have hnz : k ≠ 0 := nz_lk HY.out
              have n1 : (k == 0) = false := by rw [beq_eq_false_iff_ne]; exact hnz
              have n2 : (k != 0) = true := by rw [bne, n1]; rfl
              have HT3 : Hid (T = .error (k, (at_ : Int))) := by
                show T = _
                have := HK.out.2.2
                rw [HPn.out] at this
                exact this
              go_wp2_with fail
              refine cK.mono ?_
              rintro z W6 h6
              obtain ⟨rfl, b6⟩ := h6.out
              have HB6 : Hid (Below w.heap.size w W6) := HB.out.b.trans (b6.mono (by omega))
              clear cK h6 b6 x0 x1 x2 x3 hnz
              go_wp2
              go_ret3
              show AllR _ _ _ _ T
              rw [HT3.out]
              exact ⟨rfl, HB6.out⟩
            | ok st' =>
              go_wp2_with fail
              refine cK.mono ?_
              rintro z W6 h6
              obtain ⟨rfl, b6, R6, hR6, hn6⟩ := h6.out
              have HB6 : Hid (BI w W6 g [.slice iq c.ins.length ia, .slice (some ⟨g2, o2, none⟩) c.ens.length ea, .slice tq c.txs.length ta, .int .i64 c.main] c f n st' P) := by
                obtain ⟨h1, h2⟩ := HRp.out.2 st' rfl
                have := HB.out.lf
                exact ⟨HB.out.b.trans (b6.mono (by omega)), HB.out.x.low b6 (by omega), ⟨_, R6, hR6, hn6, HRp.out.1.lkd HY.out⟩, h1.1, h2, by omega, HPn.out.symm, HB.out.gl⟩
              clear cK h6 b6 x0 x1 x2 x3
              have x0 := (HB6.out.x.cell 0 _ rfl).1
              have x1 := (HB6.out.x.cell 1 _ rfl).1
              have x2 := (HB6.out.x.cell 2 _ rfl).1
              have x3 := (HB6.out.x.cell 3 _ rfl).1
              have cF := left_any (kc := c.ins.length) (HM.out.1.below HB6.out.b HM.out.2) HC.out ia ea ta (Nat.le_trans HM.out.2 HB6.out.b.size) f hlt hR6 hn6 (HRp.out.1.lkd HY.out)
              unfold codeV at cF
              clear hR6 hn6
              go_wp2_with fail
              refine cF.mono ?_
              rintro z W7 ⟨rfl, b7⟩
              have HB7 : Hid (BI w W7 g [.slice iq c.ins.length ia, .slice (some ⟨g2, o2, none⟩) c.ens.length ea, .slice tq c.txs.length ta, .int .i64 c.main] c f n st' P) := by
                obtain ⟨Lk, R, h1, h2, h3⟩ := HB6.out.rk
                exact ⟨below2 HB6.out.b b7, HB6.out.x.next b7, ⟨Lk, R, h1.next b7, h2, h3⟩, HB6.out.wl, HB6.out.so, HB6.out.lf, HB6.out.eqn, HB6.out.gl⟩
              clear cF b7 x0 x1 x2 x3
              go_wp2_with fail
              go_roundg n
              case measure => exact Nat.lt_succ_self n
              case rel => exact ⟨st', rfl, HB7⟩
      · obtain rfl : c.ens.length = f := by omega
        have f1 : ¬ ((c.ens.length : Int) < (c.ens.length : Int)) := by omega
        have HT3 : Hid (T = .ok K) := by
          have := HI.out.eqn
          rw [Nat.sub_self, fnsS] at this
          exact this.symm
        go_wp2
        go_ret3
        show AllR _ _ _ _ T
        rw [HT3.out]
        obtain ⟨Lk, R, h1, h2, -⟩ := HI.out.rk
        exact ⟨g, R, Lk, rfl, h1, h2, by have := HI.out.gl; omega, HI.out.b⟩
end
end Go.Proofs.YtdcaonfnhdjibaaDoor
namespace Go.Proofs.YtdcaonfnhdjibaaDoor
open Go.RowKit

/-! The document's Check. -/
def chkR : Except (Int × Int) Kn → Int × Int
  | .error k => k
  | .ok _ => (0, 0)
theorem chk_r (c : Cd) : chkS c = chkR (surS c) := by
  unfold chkS
  cases surS c <;> rfl
section
variable {w : World} {B : Nat} {iq eq tq : Option Addr} {Es : List Em} {c : Cd}
set_option maxRecDepth 100000 in
set_option maxHeartbeats 4000000 in
theorem rcheck_any (m : CodeM w B iq eq tq Es c) (ia ea ta : Nat) (hB : B ≤ w.heap.size) (h64 : In64 c) :
    Calls Tryd.prog 18 #[codeV iq eq tq ia ea ta c] w fun z w' => z = .returned (.tuple #[.int .i64 (chkS c).1, .int .i64 (chkS c).2]) ∧ Below w.heap.size w w' := by
  obtain ⟨T, HT⟩ : ∃ T, Hid (surS c = T) := ⟨_, (rfl : surS c = _)⟩
  rw [chk_r, HT.out]
  obtain ⟨X, hX⟩ : ∃ X, w.alloc (.cells #[.slice iq c.ins.length ia, .slice eq c.ens.length ea, .slice tq c.txs.length ta, .int .i64 c.main] 26) = X := ⟨_, rfl⟩
  have B1 : Below w.heap.size w X := by rw [← hX]; exact (Below.refl _ w).alloc (Nat.le_refl _) _
  have F1 : Full X w.heap.size 26 [.slice iq c.ins.length ia, .slice eq c.ens.length ea, .slice tq c.txs.length ta, .int .i64 c.main] := by rw [← hX]; exact Full.new w _ _
  have cA := all_any (m.below B1 hB) ia ea ta (Nat.le_trans hB B1.size) h64
  have cA0 := all_any m ia ea ta hB h64
  rw [HT.out] at cA cA0
  have HX : Hid (Below w.heap.size w X) := B1
  have x0 := (F1.cell 0 _ rfl).1
  have x1 := (F1.cell 1 _ rfl).1
  have x2 := (F1.cell 2 _ rfl).1
  have x3 := (F1.cell 3 _ rfl).1
  unfold codeV at cA cA0 ⊢
  clear B1 F1 m hB h64
  go_enter Tryd.func18, Tryd.ntmps18
  cases T with
  | error k =>
    obtain ⟨ke, ka⟩ := k
    go_wp2_with fail
    first
    | (refine cA.mono ?_
       rintro z W1 h1
       obtain ⟨rfl, b1⟩ := h1.out
       have HB : Hid (Below w.heap.size w W1) := below2 HX.out b1)
    | (refine cA0.mono ?_
       rintro z W1 h1
       obtain ⟨rfl, b1⟩ := h1.out
       have HB : Hid (Below w.heap.size w W1) := b1)
    clear cA cA0 h1 b1
    go_wp2
    go_ret2
    exact ⟨rfl, HB.out⟩
  | ok K =>
    go_wp2_with fail
    first
    | (refine cA.mono ?_
       rintro z W1 h1
       obtain ⟨g, R, Lk, rfl, -, -, -, b1⟩ := h1.out
       have HB : Hid (Below w.heap.size w W1) := below2 HX.out b1)
    | (refine cA0.mono ?_
       rintro z W1 h1
       obtain ⟨g, R, Lk, rfl, -, -, -, b1⟩ := h1.out
       have HB : Hid (Below w.heap.size w W1) := b1)
    clear cA cA0 h1 b1
    go_wp2
    go_ret2
    exact ⟨rfl, HB.out⟩
end
end Go.Proofs.YtdcaonfnhdjibaaDoor
