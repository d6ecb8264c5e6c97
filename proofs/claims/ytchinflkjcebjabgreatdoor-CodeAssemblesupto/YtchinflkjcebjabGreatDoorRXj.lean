import Derived.Test.YtchinflkjcebjabGreatDoorRXi
namespace Go.Proofs.YtchinflkjcebjabGreatDoor
open Go.RowKit

theorem rd8 (t : Tk) : rdO 8 t = match rnumT t with | some m => if 0 ≤ m ∧ m < 60 then some m else none | none => none := by
  unfold rdO rnumT
  cases t.2 with
  | true => rfl
  | false =>
    show readO 8 t.1 = match rnumS t.1 with | some m => if 0 ≤ m ∧ m < 60 then some m else none | none => none
    rw [readO_num (by decide) rfl]
    cases rnumS t.1 with
    | none => rfl
    | some m =>
      simp only
      have : mayS 8 m = true ↔ 0 ≤ m ∧ m ≤ 59 := by
        unfold mayS
        simp only [Bool.and_eq_true, decide_eq_true_eq]
        exact ⟨fun x => ⟨x.1, x.2.1⟩, fun x => ⟨x.1, x.2, rfl⟩⟩
      by_cases hm : 0 ≤ m ∧ m < 60
      · rw [if_pos hm, if_pos (this.2 ⟨hm.1, by omega⟩)]
      · rw [if_neg hm, if_neg (fun x => hm ⟨(this.1 x).1, by have := (this.1 x).2; omega⟩)]
theorem set_cell_ne {W : World} {ab j g x : Nat} {v : Value} (h : g ≠ ab) : (W.setCell ⟨ab, j, none⟩ v).cell? ⟨g, x, none⟩ = W.cell? ⟨g, x, none⟩ := by
  first
    | exact World.cell?_setCell_other _ _ _ _ (fun e => h (congrArg Addr.block e))
    | exact World.cell?_setCell_other _ _ _ _ (fun e => h (congrArg Addr.block e).symm)
    | exact World.cell?_setCell_other _ _ _ _ (by simp [h, Ne.symm h])
    | (unfold World.cell?; rw [set_heap (a := ⟨ab, j, none⟩) h])
theorem tk_eq {t : Tk} {l : Bs} : t = (l, false) ↔ t.1 = l ∧ t.2 = false := by
  obtain ⟨a, b⟩ := t
  simp
set_option maxRecDepth 100000 in
set_option maxHeartbeats 16000000 in
theorem bline_any {W : World} {b ab : Nat} {s : St} (h : BdX W b ab s) {q : Option Addr} {n cap : Nat} {T : List Tk} (hw : Tks W W.heap.size q n T) (hn : 0 < n) (hga : ∀ g o, q = some ⟨g, o, none⟩ → g ≠ ab) :
    Calls Tryz.prog 53 #[.pointer (some ⟨ab, 0, none⟩), .slice q n cap] W fun e w' => e = .returned (.bool (rlS s T).isSome) ∧ Hid ((∀ s', rlS s T = some s' → BdX w' b ab s') ∧ Below b W w') := by
  obtain ⟨R, HR⟩ : ∃ R, Hid (R = rlS s T) := ⟨_, rfl⟩
  rw [← HR.out]
  obtain ⟨B, HBo⟩ : ∃ B : Bool, Hid (B = R.isSome) := ⟨_, rfl⟩
  rw [← HBo.out]
  have HI : Hid (Calls Tryz.prog 89 #[.pointer (some ⟨ab, 0, none⟩), .slice q n cap] W fun e w' => e = .returned (.bool (rlIns s T).isSome) ∧ Hid ((∀ s', rlIns s T = some s' → BdX w' b ab s') ∧ Below b W w')) := binstr_any h hw hn
  have HFu : Hid (Calls Tryz.prog 88 #[.pointer (some ⟨ab, 0, none⟩), .slice q n cap] W fun e w' => e = .returned (.bool (rlEnt s T).isSome) ∧ Hid ((∀ s', rlEnt s T = some s' → BdX w' b ab s') ∧ Below b W w')) := bfunction_any h hw hn
  obtain ⟨iq, eq, tq, ia, ea, ta, Es, ha⟩ := h
  have HbW : Hid (b ≤ W.heap.size) := by have h1 := ha.lb; have h2 := ha.lt; exact Nat.le_trans h1 (Nat.le_of_lt h2)
  have HA : Hid (Bd W b ab s iq eq tq ia ea ta Es) := ha
  have l3 := ha.l3
  have HTk : Hid (∀ W', Below W.heap.size W W' → ∀ i, i < n → ∃ g o, q = some ⟨g, o, none⟩ ∧ g < W.heap.size ∧ W'.cell? ⟨g, o + i * 2, none⟩ = some (.string (YtchinflkjcebjabGreatDoor.bk (tAt T i).1)) ∧ W'.cell? ⟨g, o + i * 2 + 1, none⟩ = some (.bool (tAt T i).2)) := fun W' hb i hi => by
    obtain ⟨g, o, e, hg, c1, c2⟩ := (hw.below hb (Nat.le_refl _)).at i hi
    exact ⟨g, o, e, hg, c1, c2⟩
  obtain ⟨g, o, rfl, hgW, t0, t1⟩ := HTk.out W (Below.refl _ _) 0 hn
  rw [Nat.zero_mul, Nat.add_zero] at t0 t1
  have HnT : Hid (n = T.length) := hw.len
  have HSz : Hid (∀ i, (YtchinflkjcebjabGreatDoor.bk (tAt T i).1).size ≤ 1048576) := fun i => by rw [bk_size]; exact hw.szAt i
  have hnb : (n : Int) ≤ 1048576 := by have := hw.big; omega
  have n0 : (0 : Int) < (n : Int) := by omega
  obtain ⟨x4, y4⟩ := blk_cell ha.box 4 (.bool s.begun) rfl
  have HX0 : Hid (lt (YtchinflkjcebjabGreatDoor.bk (tAt T 0).1) = (tAt T 0).1) := bk_data _
  have HU : Hid (R = if s.begun = false then rlMain s T else if tAt T 0 = ([112, 111, 111, 108], false) then rlPool s T else if tAt T 0 = ([102, 110], false) then rlEnt s T else rlIns s T) := HR.out
  clear hw HR
  by_cases hbg : s.begun = false
  · rw [hbg] at x4
    rw [if_pos hbg] at HU
    have HA1 : Hid (Bd (W.setCell ⟨ab, 4, none⟩ (.bool true)) b ab ⟨s.c, true⟩ iq eq tq ia ea ta Es) := ha.begin
    have HB1 : Hid (Below b W (W.setCell ⟨ab, 4, none⟩ (.bool true))) := (Below.refl _ W).setCell (p := ⟨ab, 4, none⟩) ha.lb _
    have HC1 : Hid (∀ i, i < n → (W.setCell ⟨ab, 4, none⟩ (.bool true)).cell? ⟨g, o + i * 2, none⟩ = some (.string (YtchinflkjcebjabGreatDoor.bk (tAt T i).1)) ∧ (W.setCell ⟨ab, 4, none⟩ (.bool true)).cell? ⟨g, o + i * 2 + 1, none⟩ = some (.bool (tAt T i).2)) := fun i hi => by
      obtain ⟨g', o', e, hg', c1, c2⟩ := HTk.out W (Below.refl _ _) i hi
      cases e
      have hne : g ≠ ab := hga g o rfl
      exact ⟨(set_cell_ne hne).trans c1, (set_cell_ne hne).trans c2⟩
    obtain ⟨u0, u1⟩ := HC1.out 0 hn
    rw [Nat.zero_mul, Nat.add_zero] at u0 u1
    clear ha l3 HI HFu HTk
    go_enter Tryz.func53, Tryz.ntmps53
    go_upto_region 3 with fail
    generalize W.setCell ⟨ab, 4, none⟩ (.bool true) = W1 at *
    clear t0 t1 x4 y4
    by_cases h2 : n = 2
    case neg =>
      have HF : Hid (R = none) := by show R = none; rw [HU.out]; unfold rlMain; rw [if_neg (fun x => h2 (HnT.out.trans x.1))]
      have e1 : ((n : Int) != 2) = true := by rw [bne, show ((n : Int) == 2) = false from by rw [beq_eq_false_iff_ne]; omega]; rfl
      have e2 : ¬ (n : Int) = 2 := by omega
      clear HU HC1 h2
      go_wp2
      first | (change bodyPost Tryz.prog Tryz.f53 _ Exit.ret _ _) | (simp only [Exit.noGoto]) | skip
      go_ret
      refine ⟨by rw [HBo.out, HF.out]; rfl, ?_, HB1.out⟩
      intro s' e
      rw [HF.out] at e
      cases e
    have e1 : ((n : Int) != 2) = false := by rw [bne, show ((n : Int) == 2) = true from by rw [beq_iff_eq]; omega]; rfl
    have HN2 : Hid (n = 2) := h2
    have e2 : (n : Int) = 2 := by omega
    obtain ⟨v0, v1⟩ := HC1.out 1 (by omega)
    rw [Nat.one_mul] at v0 v1
    clear h2
    by_cases hq : (tAt T 0).2 = true
    · have HF : Hid (R = none) := by show R = none; rw [HU.out]; unfold rlMain; rw [if_neg (fun x => by have := (tk_eq.1 x.2).2; rw [hq] at this; cases this)]
      rw [hq] at u1
      clear HU HC1
      go_wp2
      first | (change bodyPost Tryz.prog Tryz.f53 _ Exit.ret _ _) | (simp only [Exit.noGoto]) | skip
      go_ret
      refine ⟨by rw [HBo.out, HF.out]; rfl, ?_, HB1.out⟩
      intro s' e
      rw [HF.out] at e
      cases e
    have hq' : (tAt T 0).2 = false := by simpa using hq
    rw [hq'] at u1
    by_cases hm : (tAt T 0).1 = [109, 97, 105, 110]
    case neg =>
      have HF : Hid (R = none) := by show R = none; rw [HU.out]; unfold rlMain; rw [if_neg (fun x => hm (tk_eq.1 x.2).1)]
      have s1 : ((YtchinflkjcebjabGreatDoor.bk (tAt T 0).1).toList == [109, 97, 105, 110]) = false := by rw [toL, beq_eq_false_iff_ne]; rw [show (YtchinflkjcebjabGreatDoor.bk (tAt T 0).1).data.toList = (tAt T 0).1 from HX0.out]; exact hm
      have s2 : ((YtchinflkjcebjabGreatDoor.bk (tAt T 0).1).toList != [109, 97, 105, 110]) = true := by rw [bne, s1]; rfl
      clear HU HC1 hm
      generalize YtchinflkjcebjabGreatDoor.bk (tAt T 0).1 = xb at *
      go_wp2
      first | (change bodyPost Tryz.prog Tryz.f53 _ Exit.ret _ _) | (simp only [Exit.noGoto]) | skip
      go_ret
      refine ⟨by rw [HBo.out, HF.out]; rfl, ?_, HB1.out⟩
      intro s' e
      rw [HF.out] at e
      cases e
    have s1 : ((YtchinflkjcebjabGreatDoor.bk (tAt T 0).1).toList == [109, 97, 105, 110]) = true := by rw [toL, beq_iff_eq]; rw [show (YtchinflkjcebjabGreatDoor.bk (tAt T 0).1).data.toList = (tAt T 0).1 from HX0.out]; exact hm
    have s2 : ((YtchinflkjcebjabGreatDoor.bk (tAt T 0).1).toList != [109, 97, 105, 110]) = false := by rw [bne, s1]; rfl
    have HU2 : Hid (R = (rdO 8 (tAt T 1)).map fun m => ⟨{ s.c with main := m }, true⟩) := by
      show R = _
      rw [HU.out]
      unfold rlMain
      rw [if_pos ⟨HnT.out.symm.trans HN2.out, tk_eq.2 ⟨hm, hq'⟩⟩]
    rw [rd8] at HU2
    have nu := rnumber_any (YtchinflkjcebjabGreatDoor.bk (tAt T 1).1) (tAt T 1).2 (HSz.out 1) W1
    rw [show lt (YtchinflkjcebjabGreatDoor.bk (tAt T 1).1) = (tAt T 1).1 from bk_data _] at nu
    have HNm : Hid (rnumT ((tAt T 1).1, (tAt T 1).2) = rnumT (tAt T 1)) := rfl
    generalize rnumT ((tAt T 1).1, (tAt T 1).2) = N at *
    rw [← HNm.out] at HU2
    clear HNm hm hq hq' HU HC1 HX0 HnT HN2 HSz
    generalize YtchinflkjcebjabGreatDoor.bk (tAt T 1).1 = x1b at *
    generalize (tAt T 1).2 = q1 at *
    generalize YtchinflkjcebjabGreatDoor.bk (tAt T 0).1 = x0b at *
    go_wp2_with fail
    refine nu.mono ?_
    rintro e W2 ⟨m, rfl, hmm, -, hw2⟩
    have A2 := HA1.out.next hw2
    obtain ⟨z3, y3⟩ := blk_cell A2.box 3 (.int .i64 s.c.main) rfl
    have HA3 : Hid (Bd (W2.setCell ⟨ab, 3, none⟩ (.int .i64 m)) b ab ⟨{ s.c with main := m }, true⟩ iq eq tq ia ea ta Es) := A2.main m
    have hb1 : b ≤ W1.heap.size := Nat.le_trans HA1.out.lb (Nat.le_of_lt HA1.out.lt)
    have HB3 : Hid (Below b W (W2.setCell ⟨ab, 3, none⟩ (.int .i64 m))) := (HB1.out.trans (hw2.mono hb1)).setCell (p := ⟨ab, 3, none⟩) HA1.out.lb _
    clear nu hw2 A2 u0 u1 v0 v1
    go_upto_region 7 with fail
    generalize W2.setCell ⟨ab, 3, none⟩ (.int .i64 m) = W3 at *
    clear z3 y3
    cases N with
    | none =>
      have HF : Hid (R = none) := by show R = none; rw [HU2.out]; rfl
      have i1 : ((none : Option Int).isSome) = false := rfl
      clear HU2 hmm
      go_wp2
      first | (change bodyPost Tryz.prog Tryz.f53 _ Exit.ret _ _) | (simp only [Exit.noGoto]) | skip
      go_ret
      refine ⟨by rw [HBo.out, HF.out]; rfl, ?_, HB3.out⟩
      intro s' e
      rw [HF.out] at e
      cases e
    | some m0 =>
      have em : m = m0 := hmm m0 rfl
      subst em
      clear hmm
      have i1 : ((some m : Option Int).isSome) = true := rfl
      by_cases h0 : 0 ≤ m
      · by_cases h6 : m < 60
        · have HF : Hid (R = some ⟨{ s.c with main := m }, true⟩) := by show R = _; rw [HU2.out]; simp only; rw [if_pos ⟨h0, h6⟩]; rfl
          clear HU2
          go_wp2
          first | (change bodyPost Tryz.prog Tryz.f53 _ Exit.ret _ _) | (simp only [Exit.noGoto]) | skip
          go_ret
          refine ⟨by rw [HBo.out, HF.out]; rfl, ?_, HB3.out⟩
          intro s' e
          rw [HF.out] at e
          cases e
          exact ⟨_, _, _, _, _, _, _, HA3.out⟩
        · have HF : Hid (R = none) := by show R = _; rw [HU2.out]; simp only; rw [if_neg (fun x => h6 x.2)]; rfl
          clear HU2
          go_wp2
          first | (change bodyPost Tryz.prog Tryz.f53 _ Exit.ret _ _) | (simp only [Exit.noGoto]) | skip
          go_ret
          refine ⟨by rw [HBo.out, HF.out]; rfl, ?_, HB3.out⟩
          intro s' e
          rw [HF.out] at e
          cases e
      · have HF : Hid (R = none) := by show R = _; rw [HU2.out]; simp only; rw [if_neg (fun x => h0 x.1)]; rfl
        clear HU2
        go_wp2
        first | (change bodyPost Tryz.prog Tryz.f53 _ Exit.ret _ _) | (simp only [Exit.noGoto]) | skip
        go_ret
        refine ⟨by rw [HBo.out, HF.out]; rfl, ?_, HB3.out⟩
        intro s' e
        rw [HF.out] at e
        cases e
  have hbt : s.begun = true := by simpa using hbg
  rw [if_neg hbg] at HU
  rw [hbt] at x4
  by_cases hp : tAt T 0 = ([112, 111, 111, 108], false)
  · rw [if_pos hp] at HU
    obtain ⟨hp1, hp2⟩ := tk_eq.1 hp
    rw [hp2] at t1
    have s1 : ((YtchinflkjcebjabGreatDoor.bk (tAt T 0).1).toList == [112, 111, 111, 108]) = true := by rw [toL, beq_iff_eq]; rw [show (YtchinflkjcebjabGreatDoor.bk (tAt T 0).1).data.toList = (tAt T 0).1 from HX0.out]; exact hp1
    have HU2 : Hid (R = if T.length = 2 ∧ (tAt T 1).2 = true ∧ s.c.ens.length = 0 ∧ s.c.txs.length ≠ 4000 ∧ (tAt T 1).1.length ≤ 200 then some ⟨{ s.c with txs := s.c.txs ++ [YtchinflkjcebjabGreatDoor.bk (tAt T 1).1] }, s.begun⟩ else none) := HU.out
    rw [← HnT.out] at HU2
    obtain ⟨x1, -⟩ := blk_cell ha.box 1 (.slice eq s.c.ens.length ea) rfl
    obtain ⟨x2, -⟩ := blk_cell ha.box 2 (.slice tq s.c.txs.length ta) rfl
    clear hp hp1 hp2 HI HFu HU HX0 hbg
    generalize YtchinflkjcebjabGreatDoor.bk (tAt T 0).1 = x0b at *
    go_enter Tryz.func53, Tryz.ntmps53
    by_cases h2 : n = 2
    case neg =>
      have HF : Hid (R = none) := by show R = none; rw [HU2.out, if_neg (fun x => h2 x.1)]
      have e1 : ((n : Int) != 2) = true := by rw [bne, show ((n : Int) == 2) = false from by rw [beq_eq_false_iff_ne]; omega]; rfl
      have e2 : ¬ (n : Int) = 2 := by omega
      clear HU2 HTk HSz h2 HA ha
      go_wp2
      first | (change bodyPost Tryz.prog Tryz.f53 _ Exit.ret _ _) | (simp only [Exit.noGoto]) | skip
      go_ret
      refine ⟨by rw [HBo.out, HF.out]; rfl, ?_, Below.refl _ _⟩
      intro s' e
      rw [HF.out] at e
      cases e
    have e1 : ((n : Int) != 2) = false := by rw [bne, show ((n : Int) == 2) = true from by rw [beq_iff_eq]; omega]; rfl
    have e2 : (n : Int) = 2 := by omega
    obtain ⟨g', o', eg, -, c1, c2⟩ := HTk.out W (Below.refl _ _) 1 (by omega)
    cases eg
    rw [Nat.one_mul] at c1 c2
    have HN2 : Hid (n = 2) := h2
    clear h2
    by_cases hq : (tAt T 1).2 = true
    case neg =>
      have hq' : (tAt T 1).2 = false := by simpa using hq
      have HF : Hid (R = none) := by show R = none; rw [HU2.out, if_neg (fun x => hq x.2.1)]
      rw [hq'] at c2
      clear HU2 HTk HSz HA ha hq hq'
      go_wp2
      first | (change bodyPost Tryz.prog Tryz.f53 _ Exit.ret _ _) | (simp only [Exit.noGoto]) | skip
      go_ret
      refine ⟨by rw [HBo.out, HF.out]; rfl, ?_, Below.refl _ _⟩
      intro s' e
      rw [HF.out] at e
      cases e
    rw [hq] at c2
    by_cases he : s.c.ens.length = 0
    case neg =>
      have HF : Hid (R = none) := by show R = none; rw [HU2.out, if_neg (fun x => he x.2.2.1)]
      have e3 : (0 : Int) < (s.c.ens.length : Int) := by omega
      have e3n : 0 < s.c.ens.length := by omega
      clear HU2 HTk HSz HA ha hq he
      generalize s.c.ens.length = ne at *
      go_wp2
      first | (change bodyPost Tryz.prog Tryz.f53 _ Exit.ret _ _) | (simp only [Exit.noGoto]) | skip
      go_ret
      refine ⟨by rw [HBo.out, HF.out]; rfl, ?_, Below.refl _ _⟩
      intro s' e
      rw [HF.out] at e
      cases e
    have e3 : ¬ (0 : Int) < (s.c.ens.length : Int) := by omega
    by_cases h4 : s.c.txs.length = 4000
    · have HF : Hid (R = none) := by show R = none; rw [HU2.out, if_neg (fun x => x.2.2.2.1 h4)]
      have e4 : (4000 : Int) ≤ (s.c.txs.length : Int) := by omega
      have HE0 : Hid (s.c.ens.length = 0) := he
      clear HU2 HTk HSz HA ha hq he h4
      generalize s.c.ens.length = ne at *
      generalize s.c.txs.length = nt at *
      go_wp2
      first | (change bodyPost Tryz.prog Tryz.f53 _ Exit.ret _ _) | (simp only [Exit.noGoto]) | skip
      go_ret
      refine ⟨by rw [HBo.out, HF.out]; rfl, ?_, Below.refl _ _⟩
      intro s' e
      rw [HF.out] at e
      cases e
    have e4 : ¬ (4000 : Int) ≤ (s.c.txs.length : Int) := by omega
    have HL1 : Hid ((YtchinflkjcebjabGreatDoor.bk (tAt T 1).1).size = (tAt T 1).1.length) := bk_size _
    have hls := HSz.out 1
    by_cases h20 : (tAt T 1).1.length ≤ 200
    case neg =>
      have HF : Hid (R = none) := by show R = none; rw [HU2.out, if_neg (fun x => h20 x.2.2.2.2)]
      have e5 : (200 : Int) < ((YtchinflkjcebjabGreatDoor.bk (tAt T 1).1).size : Int) := by have := HL1.out; omega
      clear HU2 HTk HSz HA ha hq he h4 h20 HL1
      generalize s.c.ens.length = ne at *
      generalize s.c.txs.length = nt at *
      generalize YtchinflkjcebjabGreatDoor.bk (tAt T 1).1 = x1b at *
      go_wp2
      first | (change bodyPost Tryz.prog Tryz.f53 _ Exit.ret _ _) | (simp only [Exit.noGoto]) | skip
      go_ret
      refine ⟨by rw [HBo.out, HF.out]; rfl, ?_, Below.refl _ _⟩
      intro s' e
      rw [HF.out] at e
      cases e
    have e5 : ¬ (200 : Int) < ((YtchinflkjcebjabGreatDoor.bk (tAt T 1).1).size : Int) := by have := HL1.out; omega
    have HF : Hid (R = some ⟨{ s.c with txs := s.c.txs ++ [YtchinflkjcebjabGreatDoor.bk (tAt T 1).1] }, s.begun⟩) := by show R = _; rw [HU2.out, if_pos ⟨HN2.out, hq, he, h4, h20⟩]
    have HL : Hid (s.c.txs.length < 4000) := by show _ < _; omega
    have HLN : Hid (s.c.txs.length + 1 ≤ 1000000000) := by show _ ≤ _; omega
    clear HU2 HTk HSz hq he h4 h20 HL1 HN2
    generalize YtchinflkjcebjabGreatDoor.bk (tAt T 1).1 = t at *
    have bd : Below W.heap.size W W.drew := (Below.refl _ W).drew
    have A1 := HA.out.next bd
    have HA1 : Hid (Bd W.drew b ab s iq eq tq ia ea ta Es) := A1
    have HO1 : Hid (W.drew.ownsRow b 9 1 (.slice tq s.c.txs.length ta) s.c.txs.length (tv s.c.txs)) := A1.rows.tr
    obtain ⟨z2a, -⟩ := blk_cell (HA.out.next ((Below.refl _ W).alloc (Nat.le_refl _) (.cells #[.string t] 9))).box 2 (.slice tq s.c.txs.length ta) rfl
    have HB1 : Hid (Below b W W.drew) := bd.mono HbW.out
    have hzr : b ≤ W.drew.heap.size := Nat.le_trans HbW.out bd.size
    have H1 : Hid (∀ u ∈ ([.string t] : List Value), u.oneCell' = true) := fun u hu => by obtain rfl := List.mem_singleton.1 hu; rfl
    have HX : Hid (∀ v4 w4, w4.ownsRow b 9 1 v4 (s.c.txs.length + 1) (tv s.c.txs ++ [.string t]) → (W.drew.alloc (.cells #[.string t] 9)).grownBy w4 (Value.slice tq s.c.txs.length ta).ownBlock → ∃ q4 c4, v4 = .slice q4 (s.c.txs.length + 1) c4 ∧ (w4.cell? ⟨ab, 2, none⟩ = some (.slice tq s.c.txs.length ta) ∧ w4.frozen? ⟨ab, 2, none⟩ = false) ∧ Hid (Bd (w4.setCell ⟨ab, 2, none⟩ (.slice q4 (s.c.txs.length + 1) c4)) b ab ⟨{ s.c with txs := s.c.txs ++ [t] }, s.begun⟩ iq eq q4 ia ea c4 Es ∧ Below b W (w4.setCell ⟨ab, 2, none⟩ (.slice q4 (s.c.txs.length + 1) c4)))) := fun v4 w4 ho hg => by
      obtain ⟨q4, c4, rfl, -, -⟩ := own_slice ho
      exact ⟨q4, c4, rfl, blk_cell (HA1.out.boxB HA1.out.rows.tr (by decide) hg) 2 _ rfl, HA1.out.appT hg ho HL.out, ((HB1.out.alloc hzr _).grown hg (by have := hzr; simp at this ⊢; omega) (own_ge HO1.out)).setCell (p := ⟨ab, 2, none⟩) HA1.out.lb _⟩
    clear A1 bd HA ha HA1 HL l3
    generalize s.c.ens.length = ne at *
    generalize s.c.txs.length = nt at *
    go_upto_region 11 with fail
    go_wp2_with fail
    go_region_law (first
      | (refine step_app 24 9 _ 1 16 Tryz.underlying24 info9 (by rfl) (by decide) (by decide) (by rfl) _ _ (by rfl) b (.slice tq nt ta) nt (tv s.c.txs) (by rfl) (own_next HO1.out ((Below.refl _ W.drew).alloc (Nat.le_refl _) _)) W.drew.heap.size [.string t] rfl H1.out (by rfl) (range_new W.drew _ _) HLN.out (by have := hzr; simp at this ⊢; omega) ?_; intro v9 W9 ho9 hg9; obtain ⟨q9, c9, rfl, ⟨f0, f1⟩, HA9⟩ := HX.out v9 W9 ho9.out hg9.out.1))
    all_goals
      clear ho9 hg9 HX x1 x2 z2a c1 c2 t0 t1 x4 y4
      go_wp2
      generalize W9.setCell ⟨ab, 2, none⟩ (.slice q9 (nt + 1) c9) = W5 at HA9 ⊢
      first | (change bodyPost Tryz.prog Tryz.f53 _ Exit.ret _ _) | (simp only [Exit.noGoto]) | skip
      go_ret
      refine ⟨by rw [HBo.out, HF.out]; rfl, ?_, HA9.out.2⟩
      intro s' e
      rw [HF.out] at e
      cases e
      exact ⟨_, _, _, _, _, _, _, HA9.out.1⟩
  rw [if_neg hp] at HU
  by_cases hf : tAt T 0 = ([102, 110], false)
  · rw [if_pos hf] at HU
    obtain ⟨hp1, hp2⟩ := tk_eq.1 hf
    rw [hp2] at t1
    have s1 : ((YtchinflkjcebjabGreatDoor.bk (tAt T 0).1).toList == [102, 110]) = true := by rw [toL, beq_iff_eq]; rw [show (YtchinflkjcebjabGreatDoor.bk (tAt T 0).1).data.toList = (tAt T 0).1 from HX0.out]; exact hp1
    have s2 : ((YtchinflkjcebjabGreatDoor.bk (tAt T 0).1).toList == [112, 111, 111, 108]) = false := by rw [toL, beq_eq_false_iff_ne]; rw [show (YtchinflkjcebjabGreatDoor.bk (tAt T 0).1).data.toList = (tAt T 0).1 from HX0.out, hp1]; decide
    have fu := HFu.out
    rw [← HU.out, ← HBo.out] at fu
    clear hp hf hp1 hp2 HI HFu HU HX0 hbg HTk HSz HA ha
    generalize YtchinflkjcebjabGreatDoor.bk (tAt T 0).1 = x0b at *
    go_enter Tryz.func53, Tryz.ntmps53
    go_wp2_with fail
    refine fu.mono ?_
    rintro e W6 ⟨rfl, hw6⟩
    go_wp2
    first | (change bodyPost Tryz.prog Tryz.f53 _ Exit.ret _ _) | (simp only [Exit.noGoto]) | skip
    go_ret
    exact ⟨rfl, hw6⟩
  rw [if_neg hf] at HU
  have fi := HI.out
  rw [← HU.out, ← HBo.out] at fi
  cases hq0 : (tAt T 0).2 with
  | true =>
    rw [hq0] at t1
    clear hp hf HI HFu HU hbg HTk HSz HA ha
    by_cases h1 : (tAt T 0).1 = [112, 111, 111, 108]
    · have s1 : ((YtchinflkjcebjabGreatDoor.bk (tAt T 0).1).toList == [112, 111, 111, 108]) = true := by rw [toL, beq_iff_eq]; rw [show (YtchinflkjcebjabGreatDoor.bk (tAt T 0).1).data.toList = (tAt T 0).1 from HX0.out]; exact h1
      have s2 : ((YtchinflkjcebjabGreatDoor.bk (tAt T 0).1).toList == [102, 110]) = false := by rw [toL, beq_eq_false_iff_ne]; rw [show (YtchinflkjcebjabGreatDoor.bk (tAt T 0).1).data.toList = (tAt T 0).1 from HX0.out, h1]; decide
      clear HX0
      generalize YtchinflkjcebjabGreatDoor.bk (tAt T 0).1 = x0b at *
      go_enter Tryz.func53, Tryz.ntmps53
      go_wp2_with fail
      refine fi.mono ?_
      rintro e W6 ⟨rfl, hw6⟩
      go_wp2
      first | (change bodyPost Tryz.prog Tryz.f53 _ Exit.ret _ _) | (simp only [Exit.noGoto]) | skip
      go_ret
      exact ⟨rfl, hw6⟩
    have s1 : ((YtchinflkjcebjabGreatDoor.bk (tAt T 0).1).toList == [112, 111, 111, 108]) = false := by rw [toL, beq_eq_false_iff_ne]; rw [show (YtchinflkjcebjabGreatDoor.bk (tAt T 0).1).data.toList = (tAt T 0).1 from HX0.out]; exact h1
    by_cases h2 : (tAt T 0).1 = [102, 110]
    · have s2 : ((YtchinflkjcebjabGreatDoor.bk (tAt T 0).1).toList == [102, 110]) = true := by rw [toL, beq_iff_eq]; rw [show (YtchinflkjcebjabGreatDoor.bk (tAt T 0).1).data.toList = (tAt T 0).1 from HX0.out]; exact h2
      clear HX0
      generalize YtchinflkjcebjabGreatDoor.bk (tAt T 0).1 = x0b at *
      go_enter Tryz.func53, Tryz.ntmps53
      go_wp2_with fail
      refine fi.mono ?_
      rintro e W6 ⟨rfl, hw6⟩
      go_wp2
      first | (change bodyPost Tryz.prog Tryz.f53 _ Exit.ret _ _) | (simp only [Exit.noGoto]) | skip
      go_ret
      exact ⟨rfl, hw6⟩
    · have s2 : ((YtchinflkjcebjabGreatDoor.bk (tAt T 0).1).toList == [102, 110]) = false := by rw [toL, beq_eq_false_iff_ne]; rw [show (YtchinflkjcebjabGreatDoor.bk (tAt T 0).1).data.toList = (tAt T 0).1 from HX0.out]; exact h2
      clear HX0
      generalize YtchinflkjcebjabGreatDoor.bk (tAt T 0).1 = x0b at *
      go_enter Tryz.func53, Tryz.ntmps53
      go_wp2_with fail
      refine fi.mono ?_
      rintro e W6 ⟨rfl, hw6⟩
      go_wp2
      first | (change bodyPost Tryz.prog Tryz.f53 _ Exit.ret _ _) | (simp only [Exit.noGoto]) | skip
      go_ret
      exact ⟨rfl, hw6⟩
  | false =>
    rw [hq0] at t1
    have h1 : (tAt T 0).1 ≠ [112, 111, 111, 108] := fun x => hp (tk_eq.2 ⟨x, hq0⟩)
    have h2 : (tAt T 0).1 ≠ [102, 110] := fun x => hf (tk_eq.2 ⟨x, hq0⟩)
    clear hp hf HI HFu HU hbg HTk HSz HA ha
    have s1 : ((YtchinflkjcebjabGreatDoor.bk (tAt T 0).1).toList == [112, 111, 111, 108]) = false := by rw [toL, beq_eq_false_iff_ne]; rw [show (YtchinflkjcebjabGreatDoor.bk (tAt T 0).1).data.toList = (tAt T 0).1 from HX0.out]; exact h1
    have s2 : ((YtchinflkjcebjabGreatDoor.bk (tAt T 0).1).toList == [102, 110]) = false := by rw [toL, beq_eq_false_iff_ne]; rw [show (YtchinflkjcebjabGreatDoor.bk (tAt T 0).1).data.toList = (tAt T 0).1 from HX0.out]; exact h2
    clear HX0
    generalize YtchinflkjcebjabGreatDoor.bk (tAt T 0).1 = x0b at *
    go_enter Tryz.func53, Tryz.ntmps53
    go_wp2_with fail
    refine fi.mono ?_
    rintro e W6 ⟨rfl, hw6⟩
    go_wp2
    first | (change bodyPost Tryz.prog Tryz.f53 _ Exit.ret _ _) | (simp only [Exit.noGoto]) | skip
    go_ret
    exact ⟨rfl, hw6⟩
end Go.Proofs.YtchinflkjcebjabGreatDoor
