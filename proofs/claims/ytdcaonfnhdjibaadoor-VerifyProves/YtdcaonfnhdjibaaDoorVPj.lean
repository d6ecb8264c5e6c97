import Derived.Test.YtdcaonfnhdjibaaDoorVPi
import Derived.Deep.CutBlock
import Derived.Deep.DeepCutAuto
namespace Go.Proofs.YtdcaonfnhdjibaaDoor
open Go.RowKit

/-! The law's certified. -/
/-- One function's piece fits. -/
def PieceP (c : Cd) (K : Kn) (f : Nat) : Prop := (∀ i : Nat, (enAt c.ens f).start ≤ (i : Int) → (i : Int) < endS c f → FitP c f K i ∧ ((K.getD i none).getD []).length ≤ 400) ∧ K.getD (enAt c.ens f).start.toNat none = some []
def CertP (c : Cd) (K : Kn) : Prop := K.length = c.ins.length ∧ ∀ f, f < c.ens.length → PieceP c K f
theorem certR_p {c : Cd} {K : Kn} (h : CertP c K) : CertR c K := ⟨fun f hf => (h.2 f hf).2, fun f hf i s h1 h2 h3 => ((h.2 f hf).1 i h1 h2).1 s h3⟩
theorem certP_of {c : Cd} {K : Kn} (h : surS c = .ok K) : CertP c K := by
  obtain ⟨-, -, hl, -, -⟩ := sur_ok h
  have hR := certR_of h
  have hS := sur_sok h
  refine ⟨hl, fun f hf => ⟨fun i h1 h2 => ⟨fun s hs => hR.fit f hf i s h1 h2 hs, ?_⟩, hR.st f hf⟩⟩
  cases hk : K.getD i none with
  | none => simp
  | some s => exact (hS i s hk).len
section
variable {w : World} {B : Nat} {iq eq tq : Option Addr} {Es : List Em} {c : Cd} {K : Kn} {v : Value}
set_option maxRecDepth 100000 in
set_option maxHeartbeats 16000000 in
theorem certified_any (m : CodeM w B iq eq tq Es c) (hc : CodeOk c) (ia ea ta : Nat) (hB : B ≤ w.heap.size) (hv : LlM w v K) (hK63 : K.length ≤ 9223372036854775807) :
    Calls Tryd.prog 17 #[codeV iq eq tq ia ea ta c, v] w fun z w' => Hid (FtP w w' z (CertP c K)) := by
  obtain ⟨en, Hen⟩ : ∃ en, Hid (c.ens.length = en) := ⟨_, (rfl : c.ens.length = _)⟩
  obtain ⟨il, Hil⟩ : ∃ il, Hid (c.ins.length = il) := ⟨_, (rfl : c.ins.length = _)⟩
  obtain ⟨kl, Hkl⟩ : ∃ kl, Hid (K.length = kl) := ⟨_, (rfl : K.length = _)⟩
  obtain ⟨lq, lc, rfl, hlv⟩ := hv
  have HLl : Hid (LlM w (.slice lq K.length lc) K) := ⟨lq, lc, rfl, hlv⟩
  have HM : Hid (CodeM w B iq eq tq Es c ∧ CodeOk c ∧ B ≤ w.heap.size) := ⟨m, hc, hB⟩
  obtain ⟨X, hX⟩ : ∃ X, w.alloc (.cells #[.slice iq il ia, .slice eq en ea, .slice tq c.txs.length ta, .int .i64 c.main] 26) = X := ⟨_, rfl⟩
  have B1 : Below w.heap.size w X := by rw [← hX]; exact (Below.refl _ w).alloc (Nat.le_refl _) _
  have F1 : Full X w.heap.size 26 [.slice iq il ia, .slice eq en ea, .slice tq c.txs.length ta, .int .i64 c.main] := by rw [← hX]; exact Full.new w _ _
  have HX : Hid (Full X w.heap.size 26 [.slice iq il ia, .slice eq en ea, .slice tq c.txs.length ta, .int .i64 c.main] ∧ Below w.heap.size w X) := ⟨F1, B1⟩
  have x0 := (F1.cell 0 _ rfl).1
  have x1 := (F1.cell 1 _ rfl).1
  have hilI : (il : Int) ≤ 60000 := by have := hc.il; have := Hil.out; omega
  have henI : (en : Int) ≤ 60 := by have := hc.el; have := Hen.out; omega
  have hklI : (kl : Int) ≤ 9223372036854775807 := by have := Hkl.out; omega
  unfold codeV
  rw [Hkl.out, Hen.out, Hil.out]
  clear m hc hB hlv B1 F1 hK63
  by_cases hne : kl = il
  · subst hne
    have HKl : Hid (K.length = c.ins.length) := Hkl.out.trans Hil.out.symm
    go_enter Tryd.func17, Tryd.ntmps17
    go_wp2_with fail
    clear x0 x1
    go_loopw [17] (fun fv wr => ∃ f : Nat, f ≤ en ∧ fv = .int .i64 (f : Int) ∧ Hid (Below X.heap.size X wr ∧ ∀ f', f' < f → PieceP c K f')) (fun fv _ => en - (intOf fv).toNat)
    case atStart => exact ⟨0, Nat.zero_le _, rfl, Below.refl _ _, fun f' h => absurd h (Nat.not_lt_zero _)⟩
    case round =>
      obtain ⟨f, hf, rfl, HI⟩ := hrel
      by_cases hlt : f < en
      · have hfl : f < c.ens.length := by rw [Hen.out]; exact hlt
        have HFl : Hid (f < c.ens.length) := hfl
        have HBr : Hid (Below w.heap.size w wr) := below2 HX.out.2 HI.out.1
        have x1 := ((HX.out.1.next HI.out.1).cell 1 _ rfl).1
        obtain ⟨ge, oe, dq, dc, hqe, hge, hre, -⟩ := code_ent (HM.out.1.below HBr.out HM.out.2.2) f hfl
        subst hqe
        obtain ⟨st, Hst⟩ : ∃ st, Hid ((enAt c.ens f).start = st) := ⟨_, (rfl : (enAt c.ens f).start = _)⟩
        obtain ⟨hi, Hhi⟩ : ∃ hi, Hid (endS c f = hi) := ⟨_, (rfl : endS c f = _)⟩
        have r1 := hre 1 _ rfl
        rw [Hst.out] at r1
        obtain ⟨pk1, pk2, pk3⟩ := piece_ok HM.out.2.1 hfl
        rw [Hst.out] at pk1 pk2
        rw [Hhi.out] at pk2 pk3
        rw [Hil.out] at pk3
        obtain ⟨p0, rfl⟩ : ∃ p0 : Nat, st = (p0 : Int) := ⟨st.toNat, by omega⟩
        obtain ⟨hn, rfl⟩ : ∃ hn : Nat, hi = (hn : Int) := ⟨hi.toNat, by omega⟩
        have hpk : p0 < hn ∧ hn ≤ kl := by omega
        have HGE : Hid (ge < B ∧ wr.cell? ⟨ge, oe + f * 5 + 1, none⟩ = some (.int .i64 (p0 : Int))) := ⟨hge, r1⟩
        have f0 : (0 : Int) ≤ (f : Int) := by omega
        have f1 : (f : Int) < (en : Int) := by omega
        clear hge hre pk1 pk2 pk3 hfl
        go_upto_block 2 with fail
        clear x1 r1
        go_cut [6] (fun u wx => Hid (Below wr.heap.size wr wx ∧ ∀ i : Nat, p0 ≤ i → i < hn → FitP c f K i ∧ ((K.getD i none).getD []).length ≤ 400))
        case first =>
          go_wp2_with fail
          go_loopw [6] (fun iv wx => ∃ i : Nat, p0 ≤ i ∧ i ≤ hn ∧ iv = .int .i64 (i : Int) ∧ Hid (Below wr.heap.size wr wx ∧ ∀ i' : Nat, p0 ≤ i' → i' < i → FitP c f K i' ∧ ((K.getD i' none).getD []).length ≤ 400)) (fun iv _ => hn - (intOf iv).toNat)
          case atStart => exact ⟨p0, Nat.le_refl _, by omega, rfl, Below.refl _ _, fun i' h1 h2 => absurd h2 (by omega)⟩
          case round =>
            obtain ⟨i, hi1, hi2, rfl, HJ⟩ := hrel
            have HBx : Hid (Below X.heap.size X wr ∧ Below w.heap.size w wr) := ⟨below2 HI.out.1 HJ.out.1, below2 HBr.out HJ.out.1⟩
            have FX := HX.out.1.next HBx.out.1
            have z0 := (FX.cell 0 _ rfl).1
            have z1 := (FX.cell 1 _ rfl).1
            have z2 := (FX.cell 2 _ rfl).1
            have z3 := (FX.cell 3 _ rfl).1
            have cE := last_any (HM.out.1.below HBx.out.2 HM.out.2.2) HM.out.2.1 ia ea ta (Nat.le_trans HM.out.2.2 HBx.out.2.size) f HFl.out
            rw [Hhi.out] at cE
            unfold codeV at cE
            rw [Hen.out, Hil.out] at cE
            clear FX
            go_wp2_with fail
            refine cE.mono ?_
            rintro z W7 ⟨rfl, b7⟩
            have HJ7 : Hid (Below _ _ W7 ∧ _) := ⟨below2 HJ.out.1 b7, HJ.out.2⟩
            have HB7 : Hid (Below X.heap.size X W7 ∧ Below w.heap.size w W7) := ⟨below2 HBx.out.1 b7, below2 HBx.out.2 b7⟩
            clear cE b7 z0 z1 z2 z3 HBx HJ
            by_cases hin : i < hn
            · have c1 : (i : Int) < (hn : Int) := by omega
              have FX := HX.out.1.next HB7.out.1
              have z0 := (FX.cell 0 _ rfl).1
              have z1 := (FX.cell 1 _ rfl).1
              have z2 := (FX.cell 2 _ rfl).1
              have z3 := (FX.cell 3 _ rfl).1
              have cF := lfits_any (v := .slice lq K.length lc) (HM.out.1.below HB7.out.2 HM.out.2.2) HM.out.2.1 ia ea ta (Nat.le_trans HM.out.2.2 HB7.out.2.size) f HFl.out i (by rw [Hst.out]; omega) (by rw [Hhi.out]; omega) (HLl.out.next HB7.out.2) HKl.out
              unfold codeV at cF
              rw [Hen.out, Hil.out, Hkl.out] at cF
              clear FX
              go_wp2_with fail
              refine cF.mono ?_
              rintro z W8 h8
              obtain ⟨bb, rfl, hbb, b8⟩ := h8.out
              have HJ8 : Hid (Below _ _ W8 ∧ _) := ⟨below2 HJ7.out.1 b8, HJ7.out.2⟩
              have HB8 : Hid (Below X.heap.size X W8 ∧ Below w.heap.size w W8) := ⟨below2 HB7.out.1 b8, below2 HB7.out.2 b8⟩
              have HBB : Hid (bb = true ↔ FitP c f K i) := hbb
              have HCx : Hid (CertP c K → FitP c f K i ∧ ((K.getD i none).getD []).length ≤ 400) := fun h => (h.2 f HFl.out).1 i (by rw [Hst.out]; omega) (by rw [Hhi.out]; omega)
              clear cF h8 hbb b8 z0 z1 z2 z3 HJ7 HB7
              cases bb with
              | false =>
                have HPn : Hid (¬ CertP c K) := fun h => by have := HBB.out.2 (HCx.out h).1; cases this
                go_wp2
                go_ret
                exact ⟨false, rfl, ⟨fun h => (by cases h), fun h => absurd h HPn.out⟩, HB8.out.2⟩
              | true =>
                obtain ⟨q', cap', e', hl'⟩ := HLl.out.next HB8.out.2
                cases e'
                obtain ⟨g9, o9, x9, rfl, hg9, y9, hx9⟩ := hl' i (by rw [Hkl.out]; omega)
                have b0 : (0 : Int) ≤ (i : Int) := by omega
                have b1 : (i : Int) < (kl : Int) := by omega
                obtain ⟨q9, l9, c9, rfl, hl9, hI9⟩ : ∃ q9 l9 c9, x9 = .slice q9 l9 c9 ∧ ((K.getD i none).getD []).length = l9 ∧ (l9 : Int) ≤ 17592186043904 := by
                  cases hk : K.getD i none with
                  | none =>
                    rw [hk] at hx9
                    have hx9 : x9 = .slice none 0 0 := hx9
                    exact ⟨none, 0, 0, hx9, rfl, by decide⟩
                  | some s9 =>
                    rw [hk] at hx9
                    obtain ⟨a9, cap9, e, -, -, hs⟩ := hx9
                    exact ⟨some a9, s9.length, cap9, e, rfl, by omega⟩
                have HL9 : Hid (((K.getD i none).getD []).length = l9) := hl9
                clear hl' hg9 hx9 hl9
                by_cases h400 : 400 < l9
                · have c4 : (400 : Int) < (l9 : Int) := by omega
                  have HPn : Hid (¬ CertP c K) := fun h => by have := (HCx.out h).2; rw [HL9.out] at this; omega
                  go_wp2
                  go_ret
                  exact ⟨false, rfl, ⟨fun h => (by cases h), fun h => absurd h HPn.out⟩, HB8.out.2⟩
                · have c4 : ¬ ((400 : Int) < (l9 : Int)) := by omega
                  have HGd : Hid (FitP c f K i ∧ ((K.getD i none).getD []).length ≤ 400) := ⟨HBB.out.1 rfl, by rw [HL9.out]; omega⟩
                  go_wp2
                  exact ⟨⟨i + 1, by omega, by omega, by go_num, HJ8.out.1, fun i' h1 h2 => (by
                    rcases Nat.lt_succ_iff_lt_or_eq.1 h2 with h | rfl
                    · exact HJ8.out.2 i' h1 h
                    · exact HGd.out)⟩, by simp [intOf]; omega⟩
            · obtain rfl : i = hn := by omega
              have c1 : ¬ ((i : Int) < (i : Int)) := by omega
              go_wp2
              go_meet
              case rel => exact HJ7
        case rest =>
          have HC : Hid (Below _ _ wc ∧ _) := hcut
          clear hcut
          have HBc : Hid (Below X.heap.size X wc ∧ Below w.heap.size w wc) := ⟨below2 HI.out.1 HC.out.1, below2 HBr.out HC.out.1⟩
          have x1 := ((HX.out.1.next HBc.out.1).cell 1 _ rfl).1
          have r1 := (HC.out.1.cell (p := ⟨ge, oe + f * 5 + 1, none⟩) (Nat.lt_of_lt_of_le HGE.out.1 (Nat.le_trans HM.out.2.2 HBr.out.size))).trans HGE.out.2
          obtain ⟨q', cap', e', hl'⟩ := HLl.out.next HBc.out.2
          cases e'
          obtain ⟨g9, o9, x9, rfl, hg9, y9, hx9⟩ := hl' p0 (by rw [Hkl.out]; omega)
          have b0 : (0 : Int) ≤ (p0 : Int) := by omega
          have b1 : (p0 : Int) < (kl : Int) := by omega
          have HCs : Hid (CertP c K → K.getD p0 none = some []) := fun h => by have := (h.2 f HFl.out).2; rw [Hst.out, Int.toNat_natCast] at this; exact this
          clear hl' hg9
          cases hk : K.getD p0 none with
          | none =>
            rw [hk] at hx9
            have hx9 : x9 = .slice none 0 0 := hx9
            subst hx9
            have nE := nilEqL
            have HPn : Hid (¬ CertP c K) := fun h => by have := HCs.out h; rw [hk] at this; cases this
            clear hk
            go_wp2
            go_ret
            exact ⟨false, rfl, ⟨fun h => (by cases h), fun h => absurd h HPn.out⟩, HBc.out.2⟩
          | some s9 =>
            rw [hk] at hx9
            obtain ⟨a9, cap9, rfl, -, -, hs9⟩ := hx9
            have nN9 := nilNeL a9 s9.length cap9
            obtain ⟨l9, Hl9⟩ : ∃ l9, Hid (s9.length = l9) := ⟨_, (rfl : s9.length = _)⟩
            rw [Hl9.out] at y9 nN9
            have HK : Hid (K.getD p0 none = some s9) := hk
            clear hk hs9
            by_cases h0 : l9 = 0
            · subst h0
              have HPc : Hid (PieceP c K f) := by
                refine ⟨fun i h1 h2 => HC.out.2 i (by rw [Hst.out] at h1; omega) (by rw [Hhi.out] at h2; omega), ?_⟩
                rw [Hst.out, Int.toNat_natCast, HK.out, List.length_eq_zero_iff.1 Hl9.out]
              go_wp2
              exact ⟨⟨f + 1, by omega, by go_num, HBc.out.1, fun f' h => (by
                rcases Nat.lt_succ_iff_lt_or_eq.1 h with h | rfl
                · exact HI.out.2 f' h
                · exact HPc.out)⟩, by simp [intOf]; omega⟩
            · have e0 : ((l9 : Int) == 0) = false := by rw [beq_eq_false_iff_ne]; omega
              have e1 : (l9 == 0) = false := by rw [beq_eq_false_iff_ne]; exact h0
              have HPn : Hid (¬ CertP c K) := fun h => by
                have := HCs.out h
                rw [HK.out, Option.some.injEq] at this
                subst this
                exact h0 Hl9.out.symm
              go_wp2
              go_ret
              exact ⟨false, rfl, ⟨fun h => (by cases h), fun h => absurd h HPn.out⟩, HBc.out.2⟩
      · obtain rfl : f = en := by omega
        have c1 : ¬ ((f : Int) < (f : Int)) := by omega
        have HP : Hid (CertP c K) := ⟨HKl.out, fun f' h => HI.out.2 f' (by rw [← Hen.out]; exact h)⟩
        have HBr : Hid (Below w.heap.size w wr) := below2 HX.out.2 HI.out.1
        go_wp2
        go_ret
        exact ⟨true, rfl, ⟨fun _ => HP.out, fun _ => rfl⟩, HBr.out⟩
  · have e1 : ((kl : Int) == (il : Int)) = false := by rw [beq_eq_false_iff_ne]; omega
    have e2 : (kl == il) = false := by rw [beq_eq_false_iff_ne]; exact hne
    have HPn : Hid (¬ CertP c K) := fun h => hne (Hkl.out.symm.trans (h.1.trans Hil.out))
    go_enter Tryd.func17, Tryd.ntmps17
    go_wp2
    go_ret
    exact ⟨false, rfl, ⟨fun h => (by cases h), fun h => absurd h HPn.out⟩, HX.out.2⟩
end
end Go.Proofs.YtdcaonfnhdjibaaDoor
