import Derived.Test.YtdcaonfnhdjibaaDoorVPj
import Derived.Test.YtdcaonfnhdjibaaDoorVD1
namespace Go.Proofs.YtdcaonfnhdjibaaDoor
open Go.RowKit

/-! VerifyProves. -/
section
variable {w : World} {B : Nat} {iq eq tq lq : Option Addr} {lc : Nat} {Es : List Em} {c : Cd} {KL : Kn}
set_option maxRecDepth 100000 in
set_option maxHeartbeats 16000000 in
theorem proves_any (m : CodeM w B iq eq tq Es c) (cp : ∀ y ∈ Es, y.1.sorts.length ≤ y.2.2 ∧ (y.2.1 = none → y.1.sorts.length = 0)) (ia ea ta : Nat) (hL : LlM w (.slice lq KL.length lc) KL) (hL63 : KL.length ≤ 9223372036854775807) (hB : B ≤ w.heap.size) (ht : Tabs w) :
    Calls Tryd.prog 5 #[.agg #[.slice iq c.ins.length ia, .slice eq c.ens.length ea, .slice tq c.txs.length ta, .int .i64 c.main, .slice lq KL.length lc]] w fun z w' => z = .returned (.bool true) ∧ Below w.heap.size w w' := by
  obtain ⟨en, Hen⟩ : ∃ en, Hid (c.ens.length = en) := ⟨_, (rfl : c.ens.length = _)⟩
  obtain ⟨il, Hil⟩ : ∃ il, Hid (c.ins.length = il) := ⟨_, (rfl : c.ins.length = _)⟩
  obtain ⟨kl, Hkl⟩ : ∃ kl, Hid (KL.length = kl) := ⟨_, (rfl : KL.length = _)⟩
  have HM : Hid (CodeM w B iq eq tq Es c ∧ (∀ y ∈ Es, y.1.sorts.length ≤ y.2.2 ∧ (y.2.1 = none → y.1.sorts.length = 0)) ∧ B ≤ w.heap.size ∧ Tabs w ∧ LlM w (.slice lq KL.length lc) KL ∧ KL.length ≤ 9223372036854775807) := ⟨m, cp, hB, ht, hL, hL63⟩
  obtain ⟨X, hX⟩ : ∃ X, w.alloc (.cells #[.slice iq il ia, .slice eq en ea, .slice tq c.txs.length ta, .int .i64 c.main, .slice lq kl lc] 58) = X := ⟨_, rfl⟩
  have B1 : Below w.heap.size w X := by rw [← hX]; exact (Below.refl _ w).alloc (Nat.le_refl _) _
  have F1 : Full X w.heap.size 58 [.slice iq il ia, .slice eq en ea, .slice tq c.txs.length ta, .int .i64 c.main, .slice lq kl lc] := by rw [← hX]; exact Full.new w _ _
  have c1 := lives_any X (ht.next B1)
  have HF1 : Hid (Full X w.heap.size 58 [.slice iq il ia, .slice eq en ea, .slice tq c.txs.length ta, .int .i64 c.main, .slice lq kl lc] ∧ Below w.heap.size w X) := ⟨F1, B1⟩
  have hilI : (il : Int) ≤ 9223372036854775807 := by have := m.il; have := Hil.out; omega
  rw [Hen.out, Hil.out, Hkl.out]
  clear m cp hB ht hL hL63 F1 B1
  go_enter Tryd.func5, Tryd.ntmps5
  go_upto_region 1 with fail
  go_wp2_with fail
  refine c1.mono ?_
  rintro z W1 ⟨rfl, b1⟩
  have HF : Hid (Full W1 w.heap.size 58 [.slice iq il ia, .slice eq en ea, .slice tq c.txs.length ta, .int .i64 c.main, .slice lq kl lc] ∧ Below w.heap.size w W1) := ⟨HF1.out.1.next b1, below2 HF1.out.2 b1⟩
  clear c1 HF1 b1 hX
  have x0 := (HF.out.1.cell 0 _ rfl).1
  have x1 := (HF.out.1.cell 1 _ rfl).1
  have x2 := (HF.out.1.cell 2 _ rfl).1
  have x3 := (HF.out.1.cell 3 _ rfl).1
  have c2 := check_any (HM.out.1.below HF.out.2 HM.out.2.2.1) HM.out.2.1 ia ea ta (Nat.le_trans HM.out.2.2.1 HF.out.2.size) (HM.out.2.2.2.1.next HF.out.2)
  obtain ⟨R, HR⟩ : ∃ R, Hid (surS c = R) := ⟨_, (rfl : surS c = _)⟩
  obtain ⟨ck, Hck⟩ : ∃ ck, Hid (chkS c = ck) := ⟨_, (rfl : chkS c = _)⟩
  rw [Hck.out] at c2
  obtain ⟨ce, ca⟩ := ck
  simp only at c2
  unfold codeV at c2
  rw [Hen.out, Hil.out] at c2
  go_wp2_with fail
  refine c2.mono ?_
  rintro z W2 ⟨rfl, b2⟩
  have HF2 : Hid (Full W2 w.heap.size 58 [.slice iq il ia, .slice eq en ea, .slice tq c.txs.length ta, .int .i64 c.main, .slice lq kl lc] ∧ Below w.heap.size w W2) := ⟨HF.out.1.next b2, below2 HF.out.2 b2⟩
  clear c2 b2 x0 x1 x2 x3 HF
  have x0 := (HF2.out.1.cell 0 _ rfl).1
  have x1 := (HF2.out.1.cell 1 _ rfl).1
  have x2 := (HF2.out.1.cell 2 _ rfl).1
  have x3 := (HF2.out.1.cell 3 _ rfl).1
  have c3 := stacks_any (HM.out.1.below HF2.out.2 HM.out.2.2.1) HM.out.2.1 ia ea ta (Nat.le_trans HM.out.2.2.1 HF2.out.2.size) (HM.out.2.2.2.1.next HF2.out.2)
  rw [HR.out] at c3
  unfold codeV at c3
  rw [Hen.out, Hil.out] at c3
  go_wp2_with fail
  refine c3.mono ?_
  rintro z W3 h3
  obtain ⟨b3, h3⟩ := h3.out
  have HF3 : Hid (Full W3 w.heap.size 58 [.slice iq il ia, .slice eq en ea, .slice tq c.txs.length ta, .int .i64 c.main, .slice lq kl lc] ∧ Below w.heap.size w W3) := ⟨HF2.out.1.next b3, below2 HF2.out.2 b3⟩
  clear c3 b3 x0 x1 x2 x3 HF2
  obtain ⟨V, HV⟩ : ∃ V, Hid (validS c = V) := ⟨_, (rfl : validS c = _)⟩
  have x0 := (HF3.out.1.cell 0 _ rfl).1
  have x1 := (HF3.out.1.cell 1 _ rfl).1
  have x2 := (HF3.out.1.cell 2 _ rfl).1
  have x3 := (HF3.out.1.cell 3 _ rfl).1
  have c4 := valid_any (HM.out.1.below HF3.out.2 HM.out.2.2.1) ia ea ta (Nat.le_trans HM.out.2.2.1 HF3.out.2.size) (HM.out.2.2.2.1.next HF3.out.2)
  rw [HV.out] at c4
  unfold codeV at c4
  rw [Hen.out, Hil.out] at c4
  by_cases hV : V = 0
  case neg =>
    have hS : surS c = .error (V, 0) := by unfold surS; rw [HV.out, if_pos hV]
    have hC : chkS c = (V, 0) := by unfold chkS; rw [hS]
    have hR := HR.out
    rw [hS] at hR
    subst hR
    have h3 : z = .returned (.tuple #[.slice none 0 0, .int .i64 V]) := h3
    subst h3
    have hck := Hck.out
    rw [hC] at hck
    obtain ⟨rfl, rfl⟩ : V = ce ∧ (0 : Int) = ca := by cases hck; exact ⟨rfl, rfl⟩
    have hv : (V == 0) = false := by rw [beq_eq_false_iff_ne]; exact hV
    have hv2 : (V != 0) = true := by rw [bne, hv]; rfl
    clear hS hC hck hV
    go_wp2_with fail
    refine c4.mono ?_
    rintro z W4 ⟨rfl, b4⟩
    have HF4 : Hid (Full W4 w.heap.size 58 [.slice iq il ia, .slice eq en ea, .slice tq c.txs.length ta, .int .i64 c.main, .slice lq kl lc] ∧ Below w.heap.size w W4) := ⟨HF3.out.1.next b4, below2 HF3.out.2 b4⟩
    clear c4 b4 x0 x1 x2 x3 HF3
    have x0 := (HF4.out.1.cell 0 _ rfl).1
    have x1 := (HF4.out.1.cell 1 _ rfl).1
    have x2 := (HF4.out.1.cell 2 _ rfl).1
    have x3 := (HF4.out.1.cell 3 _ rfl).1
    have c5 := valid_any (HM.out.1.below HF4.out.2 HM.out.2.2.1) ia ea ta (Nat.le_trans HM.out.2.2.1 HF4.out.2.size) (HM.out.2.2.2.1.next HF4.out.2)
    rw [HV.out] at c5
    unfold codeV at c5
    rw [Hen.out, Hil.out] at c5
    go_wp2_with fail
    refine c5.mono ?_
    rintro z W5 ⟨rfl, b5⟩
    have HF5 : Hid (Below w.heap.size w W5) := below2 HF4.out.2 b5
    clear c5 b5
    go_wp2
    go_ret
    exact ⟨rfl, HF5.out⟩
  subst hV
  have hc : CodeOk c := code_ok.1 HV.out
  obtain ⟨mn, hmn⟩ : ∃ mn : Nat, c.main = (mn : Int) := ⟨c.main.toNat, by have := hc.m0; omega⟩
  have hml : mn < c.ens.length := by have := hc.ml; omega
  have HC : Hid (CodeOk c ∧ c.main = (mn : Int) ∧ mn < c.ens.length) := ⟨hc, hmn, hml⟩
  have hp0 := (ent_ok.1 (hc.es _ (en_mem hml))).p0
  have HFr : Hid (freeS c ↔ ((enAt c.ens mn).params = 0 ∧ (enAt c.ens mn).result = 0)) := by
    show ¬ _ ↔ _
    rw [hmn, Int.toNat_natCast]
    constructor
    · intro h
      refine ⟨by have : ¬ 0 < (enAt c.ens mn).params := fun h' => h (.inl h'); omega, Classical.byContradiction fun h' => h (.inr h')⟩
    · rintro ⟨h1, h2⟩ (h' | h')
      · omega
      · exact h' h2
  have a0 : (0 : Int) ≤ (mn : Int) := by omega
  have a1 : (mn : Int) < (en : Int) := by have := Hen.out; omega
  rw [hmn] at x3 c4 HF3 ⊢
  clear hc hmn hml hp0
  cases hR : R with
  | error k =>
    rw [hR] at h3 HR
    have h3 : z = _ := h3
    subst h3
    have hk0 := sur_nz HR.out
    have hpos : 0 ≤ k.2 ∧ k.2 < (c.ins.length : Int) := by
      rcases sur_err HR.out with ⟨h, -⟩ | ⟨-, h⟩
      · exact absurd HV.out h
      · exact h
    have hC : chkS c = k := by unfold chkS; rw [HR.out]
    have hck := Hck.out
    rw [hC] at hck
    subst hck
    simp only at hk0 hpos
    rw [Hil.out] at hpos
    obtain ⟨hp1, hp2⟩ := hpos
    have hk : (ce == 0) = false := by rw [beq_eq_false_iff_ne]; exact hk0
    have hk2 : (ce != 0) = true := by rw [bne, hk]; rfl
    have HNo : Hid (freeS c → ¬ CertP c KL) := fun hf hcp => by
      obtain ⟨K, h⟩ := safe_of HC.out.1 hf (certR_p hcp)
      rw [HR.out] at h
      cases h
    clear hC hk0
    simp only
    go_wp2_with fail
    refine c4.mono ?_
    rintro z4 W4 ⟨rfl, b4⟩
    have HF4 : Hid (Full W4 w.heap.size 58 [.slice iq il ia, .slice eq en ea, .slice tq c.txs.length ta, .int .i64 (mn : Int), .slice lq kl lc] ∧ Below w.heap.size w W4) := ⟨HF3.out.1.next b4, below2 HF3.out.2 b4⟩
    clear c4 b4 x0 x1 x2 x3 HF3
    have x1 := (HF4.out.1.cell 1 _ rfl).1
    have x3 := (HF4.out.1.cell 3 _ rfl).1
    obtain ⟨ge, oe, dq, dc, hqe, hge, hre, -⟩ := code_ent (HM.out.1.below HF4.out.2 HM.out.2.2.1) mn HC.out.2.2
    subst hqe
    have r0 := hre 0 _ rfl
    have r1 := hre 1 _ rfl
    have r2 := hre 2 _ rfl
    have r3 := hre 3 _ rfl
    have r4 := hre 4 _ rfl
    rw [Nat.add_zero] at r0
    generalize (enAt c.ens mn).params = pr at *
    generalize (enAt c.ens mn).result = rs at *
    generalize (enAt c.ens mn).start = st at *
    generalize (enAt c.ens mn).name = nm at *
    generalize (enAt c.ens mn).sorts.length = sl at *
    clear hre hge
    go_upto_region 8 with fail
    obtain ⟨W5, hW5⟩ : ∃ W5, W5 = W4.alloc (.cells #[.string nm, .int .i64 st, .int .i64 pr, .slice dq sl dc, .int .i64 rs] 47) := ⟨_, rfl⟩
    rw [← hW5]
    have b5 : Below W4.heap.size W4 W5 := by rw [hW5]; exact (Below.refl _ W4).alloc (Nat.le_refl _) _
    have F5 : Full W5 W4.heap.size 47 [.string nm, .int .i64 st, .int .i64 pr, .slice dq sl dc, .int .i64 rs] := by rw [hW5]; exact Full.new W4 _ _
    have e2 := (F5.cell 2 _ rfl).1
    have e4 := (F5.cell 4 _ rfl).1
    have HF5 : Hid (Full W5 w.heap.size 58 [.slice iq il ia, .slice (some ⟨ge, oe, none⟩) en ea, .slice tq c.txs.length ta, .int .i64 (mn : Int), .slice lq kl lc] ∧ Below w.heap.size w W5) := ⟨HF4.out.1.next b5, below2 HF4.out.2 b5⟩
    clear hW5 b5 F5 x1 x3 r0 r1 r2 r3 r4 HF4
    have x0 := (HF5.out.1.cell 0 _ rfl).1
    have x1 := (HF5.out.1.cell 1 _ rfl).1
    have x2 := (HF5.out.1.cell 2 _ rfl).1
    have x3 := (HF5.out.1.cell 3 _ rfl).1
    have x4 := (HF5.out.1.cell 4 _ rfl).1
    by_cases hpr : pr = 0
    · subst hpr
      by_cases hrs : rs = 0
      · subst hrs
        have HN2 : Hid (¬ CertP c KL) := HNo.out (HFr.out.2 ⟨rfl, rfl⟩)
        have cC := certified_any (v := .slice lq KL.length lc) (HM.out.1.below HF5.out.2 HM.out.2.2.1) HC.out.1 ia ea ta (Nat.le_trans HM.out.2.2.1 HF5.out.2.size) (HM.out.2.2.2.2.1.next HF5.out.2) HM.out.2.2.2.2.2
        unfold codeV at cC
        rw [Hen.out, Hil.out, Hkl.out, HC.out.2.1] at cC
        go_wp2_with fail
        refine cC.mono ?_
        rintro z6 W6 h6
        obtain ⟨bb, rfl, hbb, b6⟩ := h6.out
        have HF6 : Hid (Below w.heap.size w W6) := below2 HF5.out.2 b6
        have hb : bb = false := by
          cases bb with
          | false => rfl
          | true => exact absurd (hbb.1 rfl) HN2.out
        subst hb
        clear cC h6 hbb b6
        go_wp2
        go_ret
        exact ⟨rfl, HF6.out⟩
      · have er : (rs == 0) = false := by rw [beq_eq_false_iff_ne]; exact hrs
        go_wp2
        go_ret
        exact ⟨rfl, HF5.out.2⟩
    · have er : (pr == 0) = false := by rw [beq_eq_false_iff_ne]; exact hpr
      go_wp2
      go_ret
      exact ⟨rfl, HF5.out.2⟩
  | ok K =>
    rw [hR] at h3 HR
    obtain ⟨v, vs, rfl, hls⟩ := h3
    obtain ⟨-, hfr, hKl, -, -⟩ := sur_ok HR.out
    have hC : chkS c = (0, 0) := by unfold chkS; rw [HR.out]
    have hck := Hck.out
    rw [hC] at hck
    obtain ⟨rfl, rfl⟩ : (0 : Int) = ce ∧ (0 : Int) = ca := by cases hck; exact ⟨rfl, rfl⟩
    obtain ⟨hpr, hrs⟩ := HFr.out.1 hfr
    have HLs : Hid (LlM W3 v K ∧ K.length ≤ 9223372036854775807 ∧ CertP c K) := ⟨ll_of_ls hls (sur_sok HR.out), by rw [hKl, Hil.out]; omega, certP_of HR.out⟩
    clear hls hfr hKl hC hck
    go_wp2_with fail
    refine c4.mono ?_
    rintro z4 W4 ⟨rfl, b4⟩
    have HF4 : Hid (Full W4 w.heap.size 58 [.slice iq il ia, .slice eq en ea, .slice tq c.txs.length ta, .int .i64 (mn : Int), .slice lq kl lc] ∧ Below w.heap.size w W4 ∧ LlM W4 v K) := ⟨HF3.out.1.next b4, below2 HF3.out.2 b4, HLs.out.1.next b4⟩
    clear c4 b4 x0 x1 x2 x3 HF3
    have x1 := (HF4.out.1.cell 1 _ rfl).1
    have x3 := (HF4.out.1.cell 3 _ rfl).1
    obtain ⟨ge, oe, dq, dc, hqe, hge, hre, -⟩ := code_ent (HM.out.1.below HF4.out.2.1 HM.out.2.2.1) mn HC.out.2.2
    subst hqe
    have r0 := hre 0 _ rfl
    have r1 := hre 1 _ rfl
    have r2 := hre 2 _ rfl
    have r3 := hre 3 _ rfl
    have r4 := hre 4 _ rfl
    rw [Nat.add_zero] at r0
    rw [hpr] at r2
    rw [hrs] at r4
    generalize (enAt c.ens mn).start = st at *
    generalize (enAt c.ens mn).name = nm at *
    generalize (enAt c.ens mn).sorts.length = sl at *
    clear hre hge hpr hrs
    go_upto_region 8 with fail
    obtain ⟨W5, hW5⟩ : ∃ W5, W5 = W4.alloc (.cells #[.string nm, .int .i64 st, .int .i64 0, .slice dq sl dc, .int .i64 0] 47) := ⟨_, rfl⟩
    rw [← hW5]
    have b5 : Below W4.heap.size W4 W5 := by rw [hW5]; exact (Below.refl _ W4).alloc (Nat.le_refl _) _
    have F5 : Full W5 W4.heap.size 47 [.string nm, .int .i64 st, .int .i64 0, .slice dq sl dc, .int .i64 0] := by rw [hW5]; exact Full.new W4 _ _
    have e2 := (F5.cell 2 _ rfl).1
    have e4 := (F5.cell 4 _ rfl).1
    have HF5 : Hid (Full W5 w.heap.size 58 [.slice iq il ia, .slice (some ⟨ge, oe, none⟩) en ea, .slice tq c.txs.length ta, .int .i64 (mn : Int), .slice lq kl lc] ∧ Below w.heap.size w W5 ∧ LlM W5 v K) := ⟨HF4.out.1.next b5, below2 HF4.out.2.1 b5, HF4.out.2.2.next b5⟩
    clear hW5 b5 F5 x1 x3 r0 r1 r2 r3 r4 HF4
    have x0 := (HF5.out.1.cell 0 _ rfl).1
    have x1 := (HF5.out.1.cell 1 _ rfl).1
    have x2 := (HF5.out.1.cell 2 _ rfl).1
    have x3 := (HF5.out.1.cell 3 _ rfl).1
    have cC := certified_any (v := v) (HM.out.1.below HF5.out.2.1 HM.out.2.2.1) HC.out.1 ia ea ta (Nat.le_trans HM.out.2.2.1 HF5.out.2.1.size) HF5.out.2.2 HLs.out.2.1
    unfold codeV at cC
    rw [Hen.out, Hil.out, HC.out.2.1] at cC
    go_wp2_with fail
    refine cC.mono ?_
    rintro z6 W6 h6
    obtain ⟨bb, rfl, hbb, b6⟩ := h6.out
    have HF6 : Hid (Below w.heap.size w W6) := below2 HF5.out.2.1 b6
    obtain rfl : bb = true := hbb.2 HLs.out.2.2
    clear cC h6 hbb b6
    go_wp2
    go_ret
    exact ⟨rfl, HF6.out⟩
end
end Go.Proofs.YtdcaonfnhdjibaaDoor
