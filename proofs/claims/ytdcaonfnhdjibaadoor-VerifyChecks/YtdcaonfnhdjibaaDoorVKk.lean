import Derived.Test.YtdcaonfnhdjibaaDoorVK3
namespace Go.Proofs.YtdcaonfnhdjibaaDoor
open Go.RowKit

/-! The document's High. -/
def hiS (K : Kn) (lo : Nat) : Nat → Nat
  | 0 => 0
  | k + 1 => max (hiS K lo k) (stkAt K (lo + k)).length
theorem hiS_le {K : Kn} (h : ∀ j, (stkAt K j).length ≤ 400) (lo : Nat) : ∀ k, hiS K lo k ≤ 400
  | 0 => Nat.zero_le _
  | k + 1 => Nat.max_le.2 ⟨hiS_le h lo k, h _⟩
def highR (c : Cd) (f : Int) : Except (Int × Int) Kn → Int × Int
  | .error k => (0, k.1)
  | .ok K => if f < 0 ∨ (c.ens.length : Int) ≤ f then (0, 143) else ((hiS K (enAt c.ens f.toNat).start.toNat ((endS c f.toNat).toNat - (enAt c.ens f.toNat).start.toNat) : Nat), 0)
section
variable {w : World} {B : Nat} {iq eq tq : Option Addr} {Es : List Em} {c : Cd}
set_option maxRecDepth 100000 in
set_option maxHeartbeats 4000000 in
theorem rhigh_any (m : CodeM w B iq eq tq Es c) (ia ea ta : Nat) (hB : B ≤ w.heap.size) (h64 : In64 c) (f : Int) :
    Calls Tryd.prog 21 #[codeV iq eq tq ia ea ta c, .int .i64 f] w fun z w' => z = .returned (.tuple #[.int .i64 (highR c f (surS c)).1, .int .i64 (highR c f (surS c)).2]) ∧ Below w.heap.size w w' := by
  obtain ⟨T, HT⟩ : ∃ T, Hid (surS c = T) := ⟨_, (rfl : surS c = _)⟩
  rw [HT.out]
  have HM : Hid (CodeM w B iq eq tq Es c ∧ B ≤ w.heap.size) := ⟨m, hB⟩
  obtain ⟨X, hX⟩ : ∃ X, w.alloc (.cells #[.slice iq c.ins.length ia, .slice eq c.ens.length ea, .slice tq c.txs.length ta, .int .i64 c.main] 26) = X := ⟨_, rfl⟩
  have B1 : Below w.heap.size w X := by rw [← hX]; exact (Below.refl _ w).alloc (Nat.le_refl _) _
  have F1 : Full X w.heap.size 26 [.slice iq c.ins.length ia, .slice eq c.ens.length ea, .slice tq c.txs.length ta, .int .i64 c.main] := by rw [← hX]; exact Full.new w _ _
  have cA := all_any (m.below B1 hB) ia ea ta (Nat.le_trans hB B1.size) h64
  rw [HT.out] at cA
  have HX : Hid (Full X w.heap.size 26 [.slice iq c.ins.length ia, .slice eq c.ens.length ea, .slice tq c.txs.length ta, .int .i64 c.main] ∧ Below w.heap.size w X) := ⟨F1, B1⟩
  have x0 := (F1.cell 0 _ rfl).1
  have x1 := (F1.cell 1 _ rfl).1
  have x2 := (F1.cell 2 _ rfl).1
  have x3 := (F1.cell 3 _ rfl).1
  unfold codeV at cA ⊢
  clear B1 F1 m hB h64
  go_enter Tryd.func21, Tryd.ntmps21
  cases T with
  | error k =>
    have hnz := sur_nz HT.out
    obtain ⟨ke, ka⟩ := k
    have n1 : (ke == 0) = false := by rw [beq_eq_false_iff_ne]; exact hnz
    have n2 : (ke != 0) = true := by rw [bne, n1]; rfl
    go_wp2_with fail
    refine cA.mono ?_
    rintro z W1 h1
    obtain ⟨rfl, b1⟩ := h1.out
    have HB : Hid (Below w.heap.size w W1) := below2 HX.out.2 b1
    clear cA h1 b1 hnz x0 x1 x2 x3
    go_wp2
    go_ret2
    exact ⟨rfl, HB.out⟩
  | ok K =>
    obtain ⟨hc, -, -, -, -⟩ := sur_ok HT.out
    have HA : Hid (CodeOk c ∧ ∀ j, (stkAt K j).length ≤ 400) := ⟨hc, all_len (sur_sok HT.out)⟩
    clear hc
    go_wp2_with fail
    refine cA.mono ?_
    rintro z W1 h1
    obtain ⟨g, R, Lk, rfl, hR, hn, -, b1⟩ := h1.out
    have HW1 : Hid (Full W1 w.heap.size 26 [.slice iq c.ins.length ia, .slice eq c.ens.length ea, .slice tq c.txs.length ta, .int .i64 c.main] ∧ Below w.heap.size w W1 ∧ RkM W1 g K Lk R ∧ R.length = c.ins.length) := ⟨HX.out.1.next b1, below2 HX.out.2 b1, hR, hn⟩
    clear cA h1 b1 x0 x1 x2 x3 hR hn HX hX
    have x1 := (HW1.out.1.cell 1 _ rfl).1
    by_cases h1 : f < 0
    · have HE : Hid (highR c f (.ok K) = (0, 143)) := by show highR _ _ _ = _; rw [highR, if_pos (.inl h1)]
      go_wp2
      go_ret2
      exact ⟨by rw [HE.out]; rfl, HW1.out.2.1⟩
    · by_cases h2 : (c.ens.length : Int) ≤ f
      · have HE : Hid (highR c f (.ok K) = (0, 143)) := by show highR _ _ _ = _; rw [highR, if_pos (.inr h2)]
        go_wp2
        go_ret2
        exact ⟨by rw [HE.out]; rfl, HW1.out.2.1⟩
      · obtain ⟨f, rfl⟩ : ∃ f' : Nat, f = (f' : Int) := ⟨f.toNat, by omega⟩
        have hf : f < c.ens.length := by omega
        obtain ⟨p1, p2, p3⟩ := piece_ok HA.out.1 hf
        obtain ⟨lo, Hlo⟩ : ∃ lo : Nat, Hid ((enAt c.ens f).start = (lo : Int)) := ⟨(enAt c.ens f).start.toNat, (by omega : (enAt c.ens f).start = _)⟩
        obtain ⟨hh, Hhi⟩ : ∃ hh : Nat, Hid (endS c f = (hh : Int)) := ⟨(endS c f).toNat, (by omega : endS c f = _)⟩
        have HE : Hid (highR c (f : Int) (.ok K) = (((hiS K lo (hh - lo) : Nat) : Int), 0)) := by
          show highR _ _ _ = _
          rw [highR, if_neg (by omega), Int.toNat_natCast, Hlo.out, Hhi.out, Int.toNat_natCast, Int.toNat_natCast]
        have hlh : lo ≤ hh := by have := Hlo.out; have := Hhi.out; omega
        have hhl : hh ≤ c.ins.length := by have := Hhi.out; omega
        have hil := HA.out.1.il
        obtain ⟨g2, o2, dq, dc, hq2, hg2, hr2, -⟩ := code_ent (HM.out.1.below HW1.out.2.1 HM.out.2) f hf
        subst hq2
        have r1 := hr2 1 _ rfl
        rw [Hlo.out] at r1
        have f0 : (0 : Int) ≤ (f : Int) := by omega
        have f1 : (f : Int) < (c.ens.length : Int) := by omega
        have HI0 : Hid (Below W1.heap.size W1 W1) := Below.refl _ _
        clear hg2 hr2 p1 p2 p3
        go_wp2_with fail
        clear x1 r1
        generalize (decide ((f : Int) < 0) || decide (c.ens.length ≤ f)) = b1
        generalize decide ((f : Int) < 0) = b2
        generalize decide (c.ens.length ≤ f) = b3
        go_loopw [9, 10] (fun hv iv wr => ∃ (k : Nat), lo + k ≤ hh ∧ hv = .int .i64 ((hiS K lo k : Nat) : Int) ∧ iv = .int .i64 ((lo + k : Nat) : Int) ∧ Hid (Below W1.heap.size W1 wr)) (fun _ iv _ => hh - (intOf iv).toNat)
        case atStart => exact ⟨0, hlh, rfl, rfl, HI0⟩
        case round =>
          obtain ⟨k, hk, rfl, rfl, HI⟩ := hrel
          clear HI0
          have F2 := HW1.out.1.next HI.out
          have x0 := (F2.cell 0 _ rfl).1
          have x1 := (F2.cell 1 _ rfl).1
          have x2 := (F2.cell 2 _ rfl).1
          have x3 := (F2.cell 3 _ rfl).1
          have bw := below2 HW1.out.2.1 HI.out
          have cL := last_any (HM.out.1.below bw HM.out.2) HA.out.1 ia ea ta (Nat.le_trans HM.out.2 bw.size) f hf
          rw [Hhi.out] at cL
          unfold codeV at cL
          obtain ⟨i, Hi⟩ : ∃ i, Hid (lo + k = i) := ⟨_, (rfl : lo + k = _)⟩
          rw [Hi.out]
          rw [Hi.out] at hk
          clear F2 bw
          go_wp2_with fail
          refine cL.mono ?_
          rintro z W2 ⟨rfl, b2⟩
          have HJ : Hid (Below W1.heap.size W1 W2 ∧ Below w.heap.size w W2) := ⟨below2 HI.out b2, below2 HW1.out.2.1 (below2 HI.out b2)⟩
          clear cL b2 x0 x1 x2 x3
          by_cases hlt : i < hh
          · have hiL : i < R.length := by rw [HW1.out.2.2.2]; omega
            have y2 := ((HW1.out.2.2.1.next HJ.out.1).at_ i hiL).2.2
            obtain ⟨q, cap, hqv, -, -⟩ := HW1.out.2.2.1.st i hiL
            rw [hqv] at y2
            obtain ⟨sl, Hsl⟩ : ∃ sl, Hid ((stkAt K i).length = sl) := ⟨_, (rfl : (stkAt K i).length = _)⟩
            rw [Hsl.out] at y2
            obtain ⟨hv, Hhv⟩ : ∃ hv, Hid (hiS K lo k = hv) := ⟨_, (rfl : hiS K lo k = _)⟩
            rw [Hhv.out]
            have a0 : (0 : Int) ≤ (i : Int) := by omega
            have a1 : (i : Int) < (c.ins.length : Int) := by omega
            have a2 : (i : Int) < (hh : Int) := by omega
            have i6 : (i : Int) ≤ 60000 := by omega
            have HN : Hid (max hv sl = hiS K lo (k + 1)) := by show _ = max _ _; rw [Hhv.out, Hi.out, Hsl.out]
            clear hqv
            go_wp2
            refine ⟨⟨k + 1, by have := Hi.out; omega, ?_, ?_, HJ.out.1⟩, ?_⟩
            · rw [← HN.out]
              go_num
            · have := Hi.out
              rw [show lo + (k + 1) = i + 1 by omega]
              go_num
            · simp [intOf]; omega
          · obtain rfl : hh = i := by omega
            have a2 : ¬ ((hh : Int) < (hh : Int)) := by omega
            have HK : Hid (hh - lo = k) := by show _ = _; have := Hi.out; omega
            go_wp2
            go_ret2
            exact ⟨by rw [HE.out, HK.out]; rfl, HJ.out.2⟩
end
end Go.Proofs.YtdcaonfnhdjibaaDoor
