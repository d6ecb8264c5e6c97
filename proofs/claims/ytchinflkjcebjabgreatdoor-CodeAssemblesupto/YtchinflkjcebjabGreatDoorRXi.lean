import Derived.Test.YtchinflkjcebjabGreatDoorRX3
import Derived.Deep.RegionHeld3
namespace Go.Proofs.YtchinflkjcebjabGreatDoor
open Go.RowKit

theorem callSo (a : Value) (w : World) : (callFunc 103 #[a]).run Tryz.prog w = .ok (.enter 103 #[a]) w := by kernel_rfl
/-- A function that is being made. -/
structure Ei (W wx : World) (p : Nat) (C : Array Value) : Prop where
  b : Below W.heap.size W wx
  c : wx.heap[p]? = some (.cells C 50)
  l : W.heap.size ≤ p
theorem Ei.next {W wx wy : World} {p : Nat} {C : Array Value} (h : Ei W wx p C) (k : Below wx.heap.size wx wy) : Ei W wy p C := ⟨below2 h.b k, (k.block _ (Array.getElem?_eq_some_iff.1 h.c).1).trans h.c, h.l⟩
theorem Ei.set {W wx : World} {p : Nat} {C : Array Value} (h : Ei W wx p C) (j : Nat) (v : Value) : Ei W (wx.setCell ⟨p, j, none⟩ v) p (C.set! j v) := ⟨h.b.setCell (p := ⟨p, j, none⟩) h.l v, set_blk h.c v, h.l⟩
theorem Ei.grown {W wx wy : World} {p : Nat} {C : Array Value} (h : Ei W wx p C) {row : Option Nat} (hg : wx.grownBy wy row) (hr : ∀ k, row = some k → W.heap.size ≤ k ∧ k ≠ p) : Ei W wy p C :=
  ⟨h.b.grown hg h.b.size (fun k hk => (hr k hk).1), (hg.block p (Array.getElem?_eq_some_iff.1 h.c).1 (fun q => (hr _ q.symm).2 rfl)).trans h.c, h.l⟩
theorem below5 {B : Nat} {w w' : World} (h : Below B w w') {p : Nat} (hp : B ≤ p) (a b c d e : Value) : Below B w (((((w'.setCell ⟨p, 0, none⟩ a).setCell ⟨p, 1, none⟩ b).setCell ⟨p, 2, none⟩ c).setCell ⟨p, 3, none⟩ d).setCell ⟨p, 4, none⟩ e) :=
  ((((h.setCell (p := ⟨p, 0, none⟩) hp a).setCell (p := ⟨p, 1, none⟩) hp b).setCell (p := ⟨p, 2, none⟩) hp c).setCell (p := ⟨p, 3, none⟩) hp d).setCell (p := ⟨p, 4, none⟩) hp e
theorem rd12 (t : Tk) : rdO 12 t = match rnumT t with | some m => if 0 ≤ m ∧ m ≤ 8 then some m else none | none => none := by
  unfold rdO rnumT
  cases t.2 with
  | true => rfl
  | false =>
    show readO 12 t.1 = match rnumS t.1 with | some m => if 0 ≤ m ∧ m ≤ 8 then some m else none | none => none
    rw [readO_num (by decide) rfl]
    cases rnumS t.1 with
    | none => rfl
    | some m =>
      simp only
      have : mayS 12 m = true ↔ 0 ≤ m ∧ m ≤ 8 := by
        unfold mayS
        simp only [Bool.and_eq_true, decide_eq_true_eq]
        exact ⟨fun x => ⟨x.1, x.2.1⟩, fun x => ⟨x.1, x.2, rfl⟩⟩
      by_cases hm : 0 ≤ m ∧ m ≤ 8
      · rw [if_pos hm, if_pos (this.2 hm)]
      · rw [if_neg hm, if_neg (fun x => hm (this.1 x))]
set_option maxRecDepth 100000 in
set_option maxHeartbeats 16000000 in
theorem bfunction_any {W : World} {b ab : Nat} {s : St} (h : BdX W b ab s) {q : Option Addr} {n cap : Nat} {T : List Tk} (hw : Tks W W.heap.size q n T) (hn : 0 < n) :
    Calls Tryz.prog 88 #[.pointer (some ⟨ab, 0, none⟩), .slice q n cap] W fun e w' => e = .returned (.bool (rlEnt s T).isSome) ∧ Hid ((∀ s', rlEnt s T = some s' → BdX w' b ab s') ∧ Below b W w') := by
  obtain ⟨R, HR⟩ : ∃ R, Hid (R = rlEnt s T) := ⟨_, rfl⟩
  rw [← HR.out]
  obtain ⟨B, HBo⟩ : ∃ B : Bool, Hid (B = R.isSome) := ⟨_, rfl⟩
  rw [← HBo.out]
  obtain ⟨iq, eq, tq, ia, ea, ta, Es, ha⟩ := h
  have HbW : Hid (b ≤ W.heap.size) := by have h1 := ha.lb; have h2 := ha.lt; exact Nat.le_trans h1 (Nat.le_of_lt h2)
  have HU : Hid (R = if s.c.ens.length ≠ 60 ∧ s.c.ins.length ≠ 60000 ∧ bareS s.c = false then (rEnt T).map fun e => ⟨{ s.c with ens := s.c.ens ++ [{ e with start := (s.c.ins.length : Int) }] }, s.begun⟩ else none) := HR.out
  have l1 := ha.l1
  have l2 := ha.l2
  have HA : Hid (Bd W b ab s iq eq tq ia ea ta Es) := ha
  have HTk : Hid (∀ W', Below W.heap.size W W' → ∀ i, i < n → ∃ g o, q = some ⟨g, o, none⟩ ∧ W'.cell? ⟨g, o + i * 2, none⟩ = some (.string (YtchinflkjcebjabGreatDoor.bk (tAt T i).1)) ∧ W'.cell? ⟨g, o + i * 2 + 1, none⟩ = some (.bool (tAt T i).2)) := fun W' hb i hi => by
    obtain ⟨g, o, e, -, c1, c2⟩ := (hw.below hb (Nat.le_refl _)).at i hi
    exact ⟨g, o, e, c1, c2⟩
  obtain ⟨g, o, rfl, -, -⟩ := HTk.out W (Below.refl _ _) 0 hn
  have HTc : Hid (∀ W', Below W.heap.size W W' → ∀ i, i < n → W'.cell? ⟨g, o + i * 2, none⟩ = some (.string (YtchinflkjcebjabGreatDoor.bk (tAt T i).1)) ∧ W'.cell? ⟨g, o + i * 2 + 1, none⟩ = some (.bool (tAt T i).2)) := fun W' hb i hi => by
    obtain ⟨g', o', e, c1, c2⟩ := HTk.out W' hb i hi
    cases e
    exact ⟨c1, c2⟩
  have HnT : Hid (n = T.length) := hw.len
  have HSz : Hid (∀ i, (YtchinflkjcebjabGreatDoor.bk (tAt T i).1).size ≤ 1048576) := fun i => by rw [bk_size]; exact hw.szAt i
  have hbig := hw.big
  have hnb : (n : Int) ≤ 1048576 := by omega
  have cB := rempty_any ha
  clear hw HR ha HTk
  generalize bareS s.c = bb at *
  obtain ⟨q1, HQ1⟩ : ∃ q1 : Bool, Hid (q1 = (tAt T 1).2) := ⟨_, rfl⟩
  obtain ⟨q3, HQ3⟩ : ∃ q3 : Bool, Hid (q3 = (tAt T 3).2) := ⟨_, rfl⟩
  go_enter Tryz.func88, Tryz.ntmps88
  go_wp2_with fail
  refine cB.mono ?_
  rintro e Wb ⟨rfl, hwb0⟩
  have hwb : Hid (Below W.heap.size W Wb) := hwb0
  clear cB hwb0
  go_upto_region 2 with fail
  go_cut [47] (fun c wx => c = .bool (decide (n < 4 ∨ bb = true ∨ 60 ≤ s.c.ens.length ∨ 60000 ≤ s.c.ins.length ∨ q1 = true ∨ q3 = true)) ∧ Hid (Below W.heap.size W wx))
  case first =>
    obtain ⟨x0, -⟩ := blk_cell (HA.out.next hwb.out).box 0 (.slice iq s.c.ins.length ia) rfl
    obtain ⟨x1, -⟩ := blk_cell (HA.out.next hwb.out).box 1 (.slice eq s.c.ens.length ea) rfl
    by_cases h4 : n < 4
    · have z4 : (n : Int) < 4 := by omega
      have z4c : decide ((n : Int) < 4) = true := decide_eq_true z4
      have HD : Hid (decide (n < 4 ∨ bb = true ∨ 60 ≤ s.c.ens.length ∨ 60000 ≤ s.c.ins.length ∨ q1 = true ∨ q3 = true) = true) := decide_eq_true (.inl h4)
      go_wp2
      go_meet
      case rel => exact ⟨by rw [HD.out], hwb⟩
    have z4 : ¬ (n : Int) < 4 := by omega
    have z4c : decide ((n : Int) < 4) = false := decide_eq_false z4
    cases hbb : bb with
    | true =>
      subst hbb
      have HD : Hid (decide (n < 4 ∨ true = true ∨ 60 ≤ s.c.ens.length ∨ 60000 ≤ s.c.ins.length ∨ q1 = true ∨ q3 = true) = true) := decide_eq_true (.inr (.inl rfl))
      go_wp2
      go_meet
      case rel => exact ⟨by rw [HD.out], hwb⟩
    | false =>
      by_cases h60 : 60 ≤ s.c.ens.length
      · have z60 : (60 : Int) ≤ (s.c.ens.length : Int) := by omega
        have z60c : decide ((60 : Int) ≤ (s.c.ens.length : Int)) = true := decide_eq_true z60
        subst hbb
        have HD : Hid (decide (n < 4 ∨ false = true ∨ 60 ≤ s.c.ens.length ∨ 60000 ≤ s.c.ins.length ∨ q1 = true ∨ q3 = true) = true) := decide_eq_true (.inr (.inr (.inl h60)))
        go_wp2
        go_meet
        case rel => exact ⟨by rw [HD.out], hwb⟩
      have z60 : ¬ (60 : Int) ≤ (s.c.ens.length : Int) := by omega
      have z60c : decide ((60 : Int) ≤ (s.c.ens.length : Int)) = false := decide_eq_false z60
      by_cases h6 : 60000 ≤ s.c.ins.length
      · have z6 : (60000 : Int) ≤ (s.c.ins.length : Int) := by omega
        have z6c : decide ((60000 : Int) ≤ (s.c.ins.length : Int)) = true := decide_eq_true z6
        subst hbb
        have HD : Hid (decide (n < 4 ∨ false = true ∨ 60 ≤ s.c.ens.length ∨ 60000 ≤ s.c.ins.length ∨ q1 = true ∨ q3 = true) = true) := decide_eq_true (.inr (.inr (.inr (.inl h6))))
        go_wp2
        go_meet
        case rel => exact ⟨by rw [HD.out], hwb⟩
      have z6 : ¬ (60000 : Int) ≤ (s.c.ins.length : Int) := by omega
      have z6c : decide ((60000 : Int) ≤ (s.c.ins.length : Int)) = false := decide_eq_false z6
      obtain ⟨c1, c2⟩ := HTc.out Wb hwb.out 1 (by omega)
      obtain ⟨c3, c4⟩ := HTc.out Wb hwb.out 3 (by omega)
      rw [← HQ1.out] at c2
      rw [← HQ3.out] at c4
      rw [show 1 * 2 = 2 from rfl] at c1 c2
      rw [show 3 * 2 = 6 from rfl] at c3 c4
      have w1 : (1 : Int) < (n : Int) := by omega
      have w3 : (3 : Int) < (n : Int) := by omega
      cases hq1 : q1 with
      | true =>
        subst hbb hq1
        have HD : Hid (decide (n < 4 ∨ false = true ∨ 60 ≤ s.c.ens.length ∨ 60000 ≤ s.c.ins.length ∨ true = true ∨ q3 = true) = true) := decide_eq_true (.inr (.inr (.inr (.inr (.inl rfl)))))
        go_wp2
        go_meet
        case rel => exact ⟨by rw [HD.out], hwb⟩
      | false =>
        cases hq3 : q3 with
        | true =>
          subst hbb hq1 hq3
          have HD : Hid (decide (n < 4 ∨ false = true ∨ 60 ≤ s.c.ens.length ∨ 60000 ≤ s.c.ins.length ∨ false = true ∨ true = true) = true) := decide_eq_true (.inr (.inr (.inr (.inr (.inr rfl)))))
          go_wp2
          go_meet
          case rel => exact ⟨by rw [HD.out], hwb⟩
        | false =>
          subst hbb hq1 hq3
          have HD : Hid (decide (n < 4 ∨ false = true ∨ 60 ≤ s.c.ens.length ∨ 60000 ≤ s.c.ins.length ∨ false = true ∨ false = true) = false) := decide_eq_false (by simp; omega)
          go_wp2
          go_meet
          case rel => exact ⟨by rw [HD.out], hwb⟩
  case rest =>
    obtain ⟨rfl, hwc⟩ := hcut
    clear hwb
    by_cases hBad : n < 4 ∨ bb = true ∨ 60 ≤ s.c.ens.length ∨ 60000 ≤ s.c.ins.length ∨ q1 = true ∨ q3 = true
    · have HF : Hid (R = none) := by
        show R = none
        rw [HU.out]
        split
        · rename_i hcc
          have : rEnt T = none := by
            unfold rEnt
            rw [if_pos (show T.length < 4 ∨ (tAt T 1).2 = true ∨ (tAt T 3).2 = true from ?_)]
            rw [← HnT.out, ← HQ1.out, ← HQ3.out]
            rcases hBad with x | x | x | x | x | x
            · exact .inl x
            · rw [hcc.2.2] at x; cases x
            · omega
            · omega
            · exact .inr (.inl x)
            · exact .inr (.inr x)
          rw [this]
          rfl
        · rfl
      rw [decide_eq_true hBad]
      have HB2 : Hid (Below b W wc) := hwc.out.mono HbW.out
      clear hBad HU HTc HA hwc
      go_wp2
      first | (change bodyPost Tryz.prog Tryz.f88 _ Exit.ret _ _) | (simp only [Exit.noGoto]) | skip
      go_ret
      refine ⟨by rw [HBo.out, HF.out]; rfl, ?_, HB2.out⟩
      intro s' e
      rw [HF.out] at e
      cases e
    rw [decide_eq_false hBad]
    have hn4 : 4 ≤ n := by omega
    have HU2 : Hid (R = (rEnt T).map fun e => ⟨{ s.c with ens := s.c.ens ++ [{ e with start := (s.c.ins.length : Int) }] }, s.begun⟩) := by
      show R = _
      rw [HU.out, if_pos ⟨by omega, by omega, by cases hb : bb with | false => rfl | true => exact absurd (.inr (.inl hb)) hBad⟩]
    have HE : Hid (rEnt T = match rdO 12 (tAt T 2) with
      | none => none
      | some p => if sortT (tAt T 3) = 0 ∧ (tAt T 3).1 ≠ [45] then none else
        let e : En := ⟨YtchinflkjcebjabGreatDoor.bk (tAt T 1).1, 0, p, (T.drop 4).map sortT, sortT (tAt T 3)⟩
        if entS e then some e else none) := by
      have hcc : ¬ (T.length < 4 ∨ (tAt T 1).2 = true ∨ (tAt T 3).2 = true) := by
        rw [← HnT.out, ← HQ1.out, ← HQ3.out]
        exact fun x => hBad (by
          rcases x with x | x | x
          · exact .inl x
          · exact .inr (.inr (.inr (.inr (.inl x))))
          · exact .inr (.inr (.inr (.inr (.inr x)))))
      exact if_neg hcc
    have HL : Hid (s.c.ens.length < 60) := by show _ < _; omega
    have HLN : Hid (s.c.ens.length + 1 ≤ 1000000000) := by show _ ≤ _; omega
    clear hBad HU HQ1 HQ3 l1 l2
    obtain ⟨c1, c2⟩ := HTc.out wc hwc.out 2 (by omega)
    rw [show 2 * 2 = 4 from rfl] at c1 c2
    have w2 : (2 : Int) < (n : Int) := by omega
    have nu := rnumber_any (YtchinflkjcebjabGreatDoor.bk (tAt T 2).1) (tAt T 2).2 (HSz.out 2) wc
    rw [show lt (YtchinflkjcebjabGreatDoor.bk (tAt T 2).1) = (tAt T 2).1 from bk_data _] at nu
    have HE2 := rd12 (tAt T 2)
    have HE3 : Hid (rdO 12 (tAt T 2) = match rnumT (tAt T 2) with | some m => if 0 ≤ m ∧ m ≤ 8 then some m else none | none => none) := HE2
    clear HE2
    have HNm : Hid (rnumT ((tAt T 2).1, (tAt T 2).2) = rnumT (tAt T 2)) := rfl
    generalize rnumT ((tAt T 2).1, (tAt T 2).2) = N at *
    rw [← HNm.out] at HE3
    clear HNm
    generalize YtchinflkjcebjabGreatDoor.bk (tAt T 2).1 = x2 at *
    generalize (tAt T 2).2 = qq2 at *
    go_wp2_with fail
    refine nu.mono ?_
    rintro e W2 ⟨m, rfl, hm, -, hw2⟩
    have hb2 : Hid (Below W.heap.size W W2) := below2 hwc.out hw2
    clear nu hw2 c1 c2 hwc
    cases N with
    | none =>
      have HF : Hid (R = none) := by show R = none; rw [HU2.out, HE.out, HE3.out]; rfl
      have i1 : ((none : Option Int).isSome) = false := rfl
      have HB2 : Hid (Below b W W2) := hb2.out.mono HbW.out
      clear HE HE3 HU2 HTc HA hb2 hm
      go_wp2
      first | (change bodyPost Tryz.prog Tryz.f88 _ Exit.ret _ _) | (simp only [Exit.noGoto]) | skip
      go_ret
      refine ⟨by rw [HBo.out, HF.out]; rfl, ?_, HB2.out⟩
      intro s' e
      rw [HF.out] at e
      cases e
    | some m0 =>
      have em : m = m0 := hm m0 rfl
      subst em
      clear hm
      have i1 : ((some m : Option Int).isSome) = true := rfl
      by_cases hm0 : m < 0
      · have HF : Hid (R = none) := by show R = none; rw [HU2.out, HE.out, HE3.out]; simp only; rw [if_neg (fun x => by omega)]; rfl
        have HB2 : Hid (Below b W W2) := hb2.out.mono HbW.out
        clear HE HE3 HU2 HTc HA hb2
        go_wp2
        first | (change bodyPost Tryz.prog Tryz.f88 _ Exit.ret _ _) | (simp only [Exit.noGoto]) | skip
        go_ret
        refine ⟨by rw [HBo.out, HF.out]; rfl, ?_, HB2.out⟩
        intro s' e
        rw [HF.out] at e
        cases e
      by_cases hm8 : 8 < m
      · have HF : Hid (R = none) := by show R = none; rw [HU2.out, HE.out, HE3.out]; simp only; rw [if_neg (fun x => by omega)]; rfl
        have HB2 : Hid (Below b W W2) := hb2.out.mono HbW.out
        clear HE HE3 HU2 HTc HA hb2
        go_wp2
        first | (change bodyPost Tryz.prog Tryz.f88 _ Exit.ret _ _) | (simp only [Exit.noGoto]) | skip
        go_ret
        refine ⟨by rw [HBo.out, HF.out]; rfl, ?_, HB2.out⟩
        intro s' e
        rw [HF.out] at e
        cases e
      have HE4 : Hid (rEnt T = if sortT (tAt T 3) = 0 ∧ (tAt T 3).1 ≠ [45] then none else if entS ⟨YtchinflkjcebjabGreatDoor.bk (tAt T 1).1, 0, m, (T.drop 4).map sortT, sortT (tAt T 3)⟩ then some ⟨YtchinflkjcebjabGreatDoor.bk (tAt T 1).1, 0, m, (T.drop 4).map sortT, sortT (tAt T 3)⟩ else none) := by
        show _ = _
        rw [HE.out, HE3.out]
        simp only
        rw [if_pos ⟨by omega, by omega⟩]
      clear HE HE3
      have HSo : Hid (∀ (W' : World) (i : Nat), Calls Tryz.prog 103 #[.agg #[.string (YtchinflkjcebjabGreatDoor.bk (tAt T i).1), .bool (tAt T i).2]] W' fun e w'' => ∃ v, e = .returned v ∧ (v = .int .i64 (sortT (tAt T i)) ∧ Hid (Below W'.heap.size W' w''))) := fun W' i => by
        have := rsortOf_any (YtchinflkjcebjabGreatDoor.bk (tAt T i).1) (tAt T i).2 W'
        rw [show lt (YtchinflkjcebjabGreatDoor.bk (tAt T i).1) = (tAt T i).1 from bk_data _] at this
        exact this.mono fun _ _ ⟨a, b⟩ => ⟨_, a, rfl, b⟩
      obtain ⟨sr, HSR⟩ : ∃ sr, Hid (sr = sortT (tAt T 3)) := ⟨_, rfl⟩
      obtain ⟨nm, HNM⟩ : ∃ nm, Hid (nm = YtchinflkjcebjabGreatDoor.bk (tAt T 1).1) := ⟨_, rfl⟩
      obtain ⟨SO, HSO⟩ : ∃ SO, Hid (SO = (T.drop 4).map sortT) := ⟨_, rfl⟩
      rw [← HSR.out, ← HNM.out, ← HSO.out] at HE4
      have so3 := fun W' => HSo.out W' 3
      rw [← HSR.out] at so3
      obtain ⟨x3, HX3⟩ : ∃ x3, Hid (x3 = YtchinflkjcebjabGreatDoor.bk (tAt T 3).1) := ⟨_, rfl⟩
      obtain ⟨q3', HQ3'⟩ : ∃ q3' : Bool, Hid (q3' = (tAt T 3).2) := ⟨_, rfl⟩
      rw [← HX3.out, ← HQ3'.out] at so3
      have HC13 : Hid (∀ W', Below W.heap.size W W' → W'.cell? ⟨g, o + 2, none⟩ = some (.string nm) ∧ W'.cell? ⟨g, o + 6, none⟩ = some (.string x3) ∧ W'.cell? ⟨g, o + 6 + 1, none⟩ = some (.bool q3')) := fun W' hb => by
        have a := HTc.out W' hb 1 (by omega)
        have c := HTc.out W' hb 3 (by omega)
        rw [← HNM.out] at a
        rw [← HX3.out, ← HQ3'.out] at c
        exact ⟨a.1, c.1, c.2⟩
      go_upto_region 7 with fail
      go_cut [8] (fun u8 wx => ∃ p8 : Nat, u8 = .pointer (some ⟨p8, 0, none⟩) ∧ Hid (Ei W wx p8 (ev nm (s.c.ins.length : Int) m (.slice none 0 0) sr)))
      case first =>
        have bd : Below W2.heap.size W2 W2.drew := (Below.refl _ W2).drew
        obtain ⟨x0, -⟩ := blk_cell (HA.out.next hb2.out).box 0 (.slice iq s.c.ins.length ia) rfl
        obtain ⟨d1, d3, d4⟩ := HC13.out W2 hb2.out
        have w1 : (1 : Int) < (n : Int) := by omega
        have w3 : (3 : Int) < (n : Int) := by omega
        have SV : Hid (∀ w' : World, Below W2.heap.size W2 w' → w'.cell? ⟨ab, 0, none⟩ = some (.slice iq s.c.ins.length ia) ∧ w'.cell? ⟨g, o + 2, none⟩ = some (.string nm) ∧ w'.cell? ⟨g, o + 6, none⟩ = some (.string x3) ∧ w'.cell? ⟨g, o + 6 + 1, none⟩ = some (.bool q3') ∧ Below W2.heap.size W2 w') := fun w' hb => ⟨(blk_cell (HA.out.next (below2 hb2.out hb)).box 0 _ rfl).1, (HC13.out w' (below2 hb2.out hb)).1, (HC13.out w' (below2 hb2.out hb)).2.1, (HC13.out w' (below2 hb2.out hb)).2.2, hb⟩
        have HN9 : Hid (∀ W8, Below (W2.alloc (.cells #[.string ⟨#[]⟩, .int .i64 0, .int .i64 0, .slice none 0 0, .int .i64 0] 50)).drew.heap.size (W2.alloc (.cells #[.string ⟨#[]⟩, .int .i64 0, .int .i64 0, .slice none 0 0, .int .i64 0] 50)).drew W8 → Ei W W8 W2.heap.size (ev e0 0 0 (.slice none 0 0) 0) ∧ Below W2.heap.size W2 W8) := fun W8 hb => by
          have b0 : Below W2.heap.size W2 (W2.alloc (.cells #[.string ⟨#[]⟩, .int .i64 0, .int .i64 0, .slice none 0 0, .int .i64 0] 50)) := (Below.refl _ W2).alloc (Nat.le_refl _) _
          have b1 : Below W2.heap.size W2 (W2.alloc (.cells #[.string ⟨#[]⟩, .int .i64 0, .int .i64 0, .slice none 0 0, .int .i64 0] 50)).drew := b0.drew
          have E0 : Ei W (W2.alloc (.cells #[.string ⟨#[]⟩, .int .i64 0, .int .i64 0, .slice none 0 0, .int .i64 0] 50)) W2.heap.size (ev e0 0 0 (.slice none 0 0) 0) := ⟨below2 hb2.out b0, World.alloc_heap_new W2 _, hb2.out.size⟩
          exact ⟨(E0.next (Below.refl _ _).drew).next hb, below2 b1 hb⟩
        have hcd : Below W2.heap.size W2 W2.drew := bd
        have HEn : Hid (∀ w1, Below W2.heap.size W2 w1 → Ei W (w1.alloc (.cells (ev nm (s.c.ins.length : Int) m (.slice none 0 0) sr) 50)) w1.heap.size (ev nm (s.c.ins.length : Int) m (.slice none 0 0) sr)) := fun w1 hb => ⟨below2 (below2 hb2.out hb) ((Below.refl _ w1).alloc (Nat.le_refl _) _), World.alloc_heap_new w1 _, (below2 hb2.out hb).size⟩
        clear bd
        go_wp2_with fail
        go_region_held3 (fun w' => w'.cell? ⟨ab, 0, none⟩ = some (.slice iq s.c.ins.length ia) ∧ w'.cell? ⟨g, o + 2, none⟩ = some (.string nm) ∧ w'.cell? ⟨g, o + 6, none⟩ = some (.string x3) ∧ w'.cell? ⟨g, o + 6 + 1, none⟩ = some (.bool q3') ∧ Below W2.heap.size W2 w') (exact SV.out _ (by first | assumption | exact Below.alloc (by assumption) (Below.size (by assumption)) _ | exact below5 (by assumption) (by first | (with_reducible exact Nat.le_refl _) | (with_reducible exact Below.size (by assumption))) _ _ _ _ _))
          (first
          | (go_at_call 103; refine (so3 _).mono ?_; rintro e w1 ⟨v1, rfl, rfl, hb1⟩; (first
              | have hcd1 : Below W2.heap.size W2 w1 := hcd.trans (hb1.out.mono hcd.size)
              | (have zz1 : Ei W w1 W2.heap.size (ev e0 0 0 (.slice none 0 0) 0) ∧ Below W2.heap.size W2 w1 := HN9.out w1 hb1; obtain ⟨z1, hcd1⟩ := zz1; obtain ⟨r0, r0'⟩ := blk_cell z1.c 0 (.string e0) rfl; obtain ⟨r1, r1'⟩ := blk_cell z1.c 1 (.int .i64 0) rfl; obtain ⟨r2, r2'⟩ := blk_cell z1.c 2 (.int .i64 0) rfl; obtain ⟨r3, r3'⟩ := blk_cell z1.c 3 (.slice none 0 0) rfl; obtain ⟨r4, r4'⟩ := blk_cell z1.c 4 (.int .i64 0) rfl; have Z1 : Hid (Ei W w1 W2.heap.size (ev e0 0 0 (.slice none 0 0) 0)) := z1))))
        all_goals
          clear SV
          go_wp2
          go_meet
          case rel => first | exact ⟨_, rfl, ((((Z1.out.set 0 _).set 1 _).set 2 _).set 3 _).set 4 _⟩ | exact ⟨_, rfl, HEn.out w1 hcd1⟩
      case rest =>
        obtain ⟨p8, rfl, hE8⟩ := hcut
        clear hb2 so3
        have HX3d : Hid ((tAt T 3).1 = lt x3) := by show _ = _; rw [HX3.out]; exact (bk_data _).symm
        go_upto_region 8 with fail
        go_cut [90] (fun c wx => c = .bool (decide (sr = 0 ∧ lt x3 ≠ [45])) ∧ Hid (Ei W wx p8 (ev nm (s.c.ins.length : Int) m (.slice none 0 0) sr)))
        case first =>
          obtain ⟨e4, -⟩ := blk_cell hE8.out.c 4 (.int .i64 sr) rfl
          obtain ⟨-, d3, -⟩ := HC13.out wc hE8.out.b
          have w3 : (3 : Int) < (n : Int) := by omega
          by_cases hs0 : sr = 0
          · have b0 : (sr == 0) = true := by rw [beq_iff_eq]; exact hs0
            by_cases h45 : lt x3 = [45]
            · have s1 : (x3.toList == [45]) = true := by rw [toL, beq_iff_eq]; exact h45
              have s2 : (x3.toList != [45]) = false := by rw [bne, s1]; rfl
              have HD : Hid (decide (sr = 0 ∧ lt x3 ≠ [45]) = false) := decide_eq_false (fun x => x.2 h45)
              have HS0 : Hid (sr = 0) := hs0
              clear h45 hs0
              go_wp2
              go_meet
              case rel => exact ⟨by rw [HD.out], hE8⟩
            · have s1 : (x3.toList == [45]) = false := by rw [toL, beq_eq_false_iff_ne]; exact h45
              have s2 : (x3.toList != [45]) = true := by rw [bne, s1]; rfl
              have HD : Hid (decide (sr = 0 ∧ lt x3 ≠ [45]) = true) := decide_eq_true ⟨hs0, h45⟩
              clear h45 hs0
              go_wp2
              go_meet
              case rel => exact ⟨by rw [HD.out], hE8⟩
          · have b0 : (sr == 0) = false := by rw [beq_eq_false_iff_ne]; exact hs0
            have HD : Hid (decide (sr = 0 ∧ lt x3 ≠ [45]) = false) := decide_eq_false (fun x => hs0 x.1)
            clear hs0
            go_wp2
            go_meet
            case rel => exact ⟨by rw [HD.out], hE8⟩
        case rest =>
          obtain ⟨rfl, hE9⟩ := hcut
          clear hE8
          by_cases hbd : sr = 0 ∧ lt x3 ≠ [45]
          · have HF : Hid (R = none) := by show R = none; rw [HU2.out, HE4.out, if_pos ⟨hbd.1, by rw [HX3d.out]; exact hbd.2⟩]; rfl
            rw [decide_eq_true hbd]
            have HB2 : Hid (Below b W wc) := hE9.out.b.mono HbW.out
            clear hbd HE4 HU2 HTc HA hE9 HC13 HSo
            go_wp2
            first | (change bodyPost Tryz.prog Tryz.f88 _ Exit.ret _ _) | (simp only [Exit.noGoto]) | skip
            go_ret
            refine ⟨by rw [HBo.out, HF.out]; rfl, ?_, HB2.out⟩
            intro s' e
            rw [HF.out] at e
            cases e
          rw [decide_eq_false hbd]
          have HE5 : Hid (rEnt T = if entS ⟨nm, 0, m, SO, sr⟩ then some ⟨nm, 0, m, SO, sr⟩ else none) := by show _ = _; rw [HE4.out, if_neg (fun x => hbd ⟨x.1, by rw [← HX3d.out]; exact x.2⟩)]
          have HSL : Hid (SO.length = n - 4) := by show _ = _; rw [HSO.out, List.length_map, List.length_drop, ← HnT.out]
          have HSj : Hid (∀ t, t + 4 < n → SO.take (t + 1) = SO.take t ++ [sortT (tAt T (t + 4))]) := fun t ht => by
            have hl : t < SO.length := by rw [HSL.out]; omega
            rw [List.take_succ_eq_append_getElem hl]
            congr 2
            have hT : t + 4 < T.length := by rw [← HnT.out]; exact ht
            have e1 : tAt T (t + 4) = T[t + 4] := by unfold tAt; rw [List.getD_eq_getElem?_getD, List.getElem?_eq_getElem hT]; rfl
            have e2 : SO[t]? = some (sortT (tAt T (t + 4))) := by rw [HSO.out, List.getElem?_map, List.getElem?_drop, show 4 + t = t + 4 by omega, List.getElem?_eq_getElem hT, e1]; rfl
            rw [List.getElem?_eq_getElem hl] at e2
            exact Option.some.inj e2
          clear hbd HE4 HX3d HX3 HQ3' HC13 HSO HSR
          have HNMs : Hid (nm.size ≤ 1048576) := by show _ ≤ _; rw [HNM.out]; exact HSz.out 1
          clear HNM
          go_wp2_with fail
          go_loopw [9] (fun i wr => ∃ (j t : Nat) (qj : Option Addr) (cj : Nat), Hid (j = t + 4) ∧ j ≤ n ∧ i = .int .i64 (j : Int) ∧ Hid (Ei W wr p8 (ev nm (s.c.ins.length : Int) m (.slice qj t cj) sr)) ∧ Hid (wr.ownsRow W.heap.size 48 1 (.slice qj t cj) t (sv (SO.take t)))) (fun i _ => n - (intOf i).toNat)
          case atStart => exact ⟨4, 0, none, 0, rfl, hn4, rfl, hE9, by rw [List.take_zero]; exact World.ownsRow_nil _ _ _ _⟩
          case round =>
            clear hE9
            obtain ⟨j, t, qj, cj, hjt, hj, rfl, hM, hO⟩ := hrel
            by_cases hlt : j < n
            case neg =>
              obtain rfl : j = n := by omega
              have htl : t = SO.length := by rw [HSL.out]; have := hjt.out; omega
              subst htl
              have hO' : Hid (wr.ownsRow W.heap.size 48 1 (.slice qj SO.length cj) SO.length (sv SO)) := by
                have e := hO.out
                rw [List.take_of_length_le (Nat.le_refl _)] at e
                exact e
              clear hO HSj HSo HTc hjt
              obtain ⟨d0, -⟩ := blk_cell hM.out.c 0 (.string nm) rfl
              obtain ⟨d1, -⟩ := blk_cell hM.out.c 1 (.int .i64 (s.c.ins.length : Int)) rfl
              obtain ⟨d2, -⟩ := blk_cell hM.out.c 2 (.int .i64 m) rfl
              obtain ⟨d3, -⟩ := blk_cell hM.out.c 3 (.slice qj SO.length cj) rfl
              obtain ⟨d4, -⟩ := blk_cell hM.out.c 4 (.int .i64 sr) rfl
              have bd : Below wr.heap.size wr wr.drew := (Below.refl _ wr).drew
              have A3 := HA.out.next hM.out.b
              have A3d := A3.next bd
              have HA2 : Hid (Bd wr.drew b ab s iq eq tq ia ea ta Es) := A3d
              have eL : Es.length = s.c.ens.length := by rw [← A3d.en, List.length_map]
              have HO2 : Hid (wr.drew.ownsRow b 50 5 (.slice eq s.c.ens.length ea) s.c.ens.length (Es.flatMap ec)) := by have := A3d.rows.er; rw [eL] at this; exact this
              have HS2 : Hid (wr.drew.ownsRow b 48 1 (.slice qj SO.length cj) SO.length (sv SO)) := own_down (own_next hO'.out bd) HbW.out
              have HEd : Hid (Ei W wr.drew p8 (ev nm (s.c.ins.length : Int) m (.slice qj SO.length cj) sr)) := hM.out.next bd
              have HOlt : Hid (∀ gg, (Value.slice eq s.c.ens.length ea).ownBlock = some gg → gg < W.heap.size) := fun gg hgg => by
                have h0 := HA.out.rows.er
                exact (own_blk h0 gg hgg).lt
              obtain ⟨z0, -⟩ := blk_cell A3.box 1 (.slice eq s.c.ens.length ea) rfl
              obtain ⟨z0a, -⟩ := blk_cell (A3.next ((Below.refl _ wr).alloc (Nat.le_refl _) (.cells (ev nm (s.c.ins.length : Int) m (.slice qj SO.length cj) sr) 50))).box 1 (.slice eq s.c.ens.length ea) rfl
              have HB2 : Hid (Below b W wr.drew) := (below2 hM.out.b bd).mono HbW.out
              have hzr : b ≤ wr.drew.heap.size := Nat.le_trans HbW.out (below2 hM.out.b bd).size
              have H1 : Hid (∀ u ∈ ([.string nm, .int .i64 (s.c.ins.length : Int), .int .i64 m, .slice qj SO.length cj, .int .i64 sr] : List Value), u.oneCell' = true) := ec_one (⟨nm, (s.c.ins.length : Int), m, SO, sr⟩, qj, cj)
              have HX : Hid (∀ v4 w4, w4.ownsRow b 50 5 v4 (s.c.ens.length + 1) (Es.flatMap ec ++ [.string nm, .int .i64 (s.c.ins.length : Int), .int .i64 m, .slice qj SO.length cj, .int .i64 sr]) → (wr.drew.alloc (.cells (ev nm (s.c.ins.length : Int) m (.slice qj SO.length cj) sr) 50)).grownBy w4 (Value.slice eq s.c.ens.length ea).ownBlock → ∃ q4 c4, v4 = .slice q4 (s.c.ens.length + 1) c4 ∧ (w4.cell? ⟨ab, 1, none⟩ = some (.slice eq s.c.ens.length ea) ∧ w4.frozen? ⟨ab, 1, none⟩ = false) ∧ Hid (Bd (w4.setCell ⟨ab, 1, none⟩ (.slice q4 (s.c.ens.length + 1) c4)) b ab ⟨{ s.c with ens := s.c.ens ++ [⟨nm, (s.c.ins.length : Int), m, SO, sr⟩] }, s.begun⟩ iq q4 tq ia c4 ta (Es ++ [(⟨nm, (s.c.ins.length : Int), m, SO, sr⟩, qj, cj)]) ∧ Below b W (w4.setCell ⟨ab, 1, none⟩ (.slice q4 (s.c.ens.length + 1) c4)) ∧ (w4.setCell ⟨ab, 1, none⟩ (.slice q4 (s.c.ens.length + 1) c4)).heap[p8]? = some (.cells (ev nm (s.c.ins.length : Int) m (.slice qj SO.length cj) sr) 50))) := fun v4 w4 ho hg => by
                obtain ⟨q4, c4, rfl, -, -⟩ := own_slice ho
                have hp8 : p8 ≠ ab := fun e => by have h1 := HA.out.lt; have h2 := HEd.out.l; omega
                have hlt8 : p8 < wr.drew.heap.size := (Array.getElem?_eq_some_iff.1 HEd.out.c).1
                have hlt9 : p8 < wr.heap.size := (Array.getElem?_eq_some_iff.1 hM.out.c).1
                have hc8 : w4.heap[p8]? = some (.cells (ev nm (s.c.ins.length : Int) m (.slice qj SO.length cj) sr) 50) := (hg.block p8 (by simp; omega) (fun e => by have h1 := HOlt.out p8 e.symm; have h2 := HEd.out.l; omega)).trans ((Below.heap_alloc _ _ _ hlt8).trans HEd.out.c)
                refine ⟨q4, c4, rfl, blk_cell (HA2.out.boxB HO2.out (by decide) hg) 1 _ rfl, HA2.out.appE (x := (⟨nm, (s.c.ins.length : Int), m, SO, sr⟩, qj, cj)) hg ho HS2.out HL.out, ((HB2.out.alloc hzr _).grown hg (by have := hzr; simp at this ⊢; omega) (own_ge HO2.out)).setCell (p := ⟨ab, 1, none⟩) HA2.out.lb _, (set_heap (a := ⟨ab, 1, none⟩) hp8).trans hc8⟩
              have HRY : Hid (∀ EB, entS ⟨nm, (s.c.ins.length : Int), m, SO, sr⟩ = EB → R = if EB then some ⟨{ s.c with ens := s.c.ens ++ [⟨nm, (s.c.ins.length : Int), m, SO, sr⟩] }, s.begun⟩ else none) := fun EB he => by
                have he' : entS ⟨nm, 0, m, SO, sr⟩ = EB := he
                rw [HU2.out, HE5.out, he']
                cases EB <;> rfl
              have HSL2 : Hid (SO.length ≤ 9223372036854775807) := by have := HSL.out; show _ ≤ _; omega
              clear A3 A3d HA HEd hM bd eL HU2 HE5 HOlt hO' HSL
              have HEN : Hid (∀ (W5 : World) (q4 : Option Addr) (c4 : Nat), Bd W5 b ab ⟨{ s.c with ens := s.c.ens ++ [⟨nm, (s.c.ins.length : Int), m, SO, sr⟩] }, s.begun⟩ iq q4 tq ia c4 ta (Es ++ [(⟨nm, (s.c.ins.length : Int), m, SO, sr⟩, qj, cj)]) → Calls Tryz.prog 40 #[.agg (ev nm (s.c.ins.length : Int) m (.slice qj SO.length cj) sr)] W5 fun e w' => e = .returned (.bool (entS ⟨nm, (s.c.ins.length : Int), m, SO, sr⟩)) ∧ Below W5.heap.size W5 w') := fun W5 q4 c4 hB => rentry_any (⟨nm, (s.c.ins.length : Int), m, SO, sr⟩, qj, cj) W5 (row_of_own (hB.rows.sr _ (by simp))) (Nat.le_trans HNMs.out (by decide)) HSL2.out
              generalize entS ⟨nm, (s.c.ins.length : Int), m, SO, sr⟩ = EB at *
              have HR0 := HRY.out EB rfl
              have HR1 : Hid (R = if EB then some ⟨{ s.c with ens := s.c.ens ++ [⟨nm, (s.c.ins.length : Int), m, SO, sr⟩] }, s.begun⟩ else none) := HR0
              have hBE : B = EB := by rw [HBo.out, HR0]; cases EB <;> rfl
              subst hBE
              clear HRY HR0 HNMs HSL2
              generalize hni : s.c.ins.length = ni at *
              generalize hne : s.c.ens.length = ne at *
              generalize hns : SO.length = ns at *
              go_upto_region 14 with fail
              go_wp2_with fail
              go_region_law (first
                | (refine step_app 23 50 _ 5 64 Tryz.underlying23 infoEnt (by rfl) (by decide) (by decide) (by rfl) _ _ (by rfl) b (.slice eq ne ea) ne (Es.flatMap ec) (by rfl) (own_next HO2.out ((Below.refl _ wr.drew).alloc (Nat.le_refl _) _)) wr.drew.heap.size [.string nm, .int .i64 (ni : Int), .int .i64 m, .slice qj ns cj, .int .i64 sr] rfl H1.out (by rfl) (range_new wr.drew _ _) HLN.out (by have := hzr; simp at this ⊢; omega) ?_; intro v9 W9 ho9 hg9; obtain ⟨q9, c9, rfl, ⟨f0, f1⟩, HA9⟩ := HX.out v9 W9 ho9.out hg9.out.1))
              all_goals
                clear ho9 hg9 HX z0 z0a d0 d1 d2 d3 d4
                have HE9 := HEN.out _ _ _ HA9.out.1
                have HC9 := HA9.out.2.2
                have HB9 : Hid (Below b W (W9.setCell ⟨ab, 1, none⟩ (.slice q9 (ne + 1) c9))) := HA9.out.2.1
                obtain ⟨d0, -⟩ := blk_cell HC9 0 (.string nm) rfl
                obtain ⟨d1, -⟩ := blk_cell HC9 1 (.int .i64 (ni : Int)) rfl
                obtain ⟨d2, -⟩ := blk_cell HC9 2 (.int .i64 m) rfl
                obtain ⟨d3, -⟩ := blk_cell HC9 3 (.slice qj ns cj) rfl
                obtain ⟨d4, -⟩ := blk_cell HC9 4 (.int .i64 sr) rfl
                have HBX := HA9.out.1
                have HBX' : Hid (BdX (W9.setCell ⟨ab, 1, none⟩ (.slice q9 (ne + 1) c9)) b ab ⟨{ s.c with ens := s.c.ens ++ [⟨nm, (ni : Int), m, SO, sr⟩] }, s.begun⟩) := ⟨_, _, _, _, _, _, _, HBX⟩
                clear HA9 HC9 HBX HEN
                go_upto_region 15 with fail
                generalize W9.setCell ⟨ab, 1, none⟩ (.slice q9 (ne + 1) c9) = W5 at *
                go_wp2_with fail
                refine HE9.mono ?_
                rintro e W6 ⟨rfl, hw6⟩
                have HF6 : Hid (BdX W6 b ab ⟨{ s.c with ens := s.c.ens ++ [⟨nm, (ni : Int), m, SO, sr⟩] }, s.begun⟩ ∧ Below b W W6) := ⟨HBX'.out.next hw6, HB9.out.trans (hw6.mono (Nat.le_trans HbW.out (by have := HB9.out.size; exact Nat.le_trans (Nat.le_refl _) (by first | exact this | omega))))⟩
                clear HE9 hw6 HBX' HB9 d0 d1 d2 d3 d4
                go_wp2
                first | (change bodyPost Tryz.prog Tryz.f88 _ Exit.ret _ _) | (simp only [Exit.noGoto]) | skip
                go_ret
                refine ⟨rfl, ?_, HF6.out.2⟩
                intro s' e
                cases B with
                | false => rw [HR1.out] at e; cases e
                | true =>
                  rw [HR1.out] at e
                  have e' := Option.some.inj e
                  rw [← e']
                  exact HF6.out.1
            obtain ⟨cw1, cw2⟩ := HTc.out wr hM.out.b j hlt
            have bd : Below wr.heap.size wr wr.drew := (Below.refl _ wr).drew
            have n2 := fun W' => HSo.out W' j
            have HS1 : Hid (SO.take (t + 1) = SO.take t ++ [sortT (tAt T j)]) := by rw [hjt.out]; exact HSj.out t (by have := hjt.out; omega)
            have HTW : Hid (∀ W', Below wr.heap.size wr W' → W'.cell? ⟨g, o + j * 2, none⟩ = some (.string (YtchinflkjcebjabGreatDoor.bk (tAt T j).1)) ∧ W'.cell? ⟨g, o + j * 2 + 1, none⟩ = some (.bool (tAt T j).2)) := fun W' hb => HTc.out W' (below2 hM.out.b hb) j hlt
            generalize YtchinflkjcebjabGreatDoor.bk (tAt T j).1 = xw at *
            generalize (tAt T j).2 = qw at *
            generalize sortT (tAt T j) = vr at *
            have HW8 : Hid (∀ W8, Below wr.drew.heap.size wr.drew W8 → Ei W W8 p8 (ev nm (s.c.ins.length : Int) m (.slice qj t cj) sr) ∧ W8.ownsRow W.heap.size 48 1 (.slice qj t cj) t (sv (SO.take t))) := fun W8 hb => ⟨hM.out.next (below2 bd hb), own_next hO.out (below2 bd hb)⟩
            obtain ⟨x3', -⟩ := blk_cell hM.out.c 3 (.slice qj t cj) rfl
            have HWA : Hid (∀ W8 W9, Ei W W8 p8 (ev nm (s.c.ins.length : Int) m (.slice qj t cj) sr) → W8.ownsRow W.heap.size 48 1 (.slice qj t cj) t (sv (SO.take t)) → (W8.alloc (.cells #[.int .i64 vr] 48)).grownBy W9 (Value.slice qj t cj).ownBlock → Ei W W9 p8 (ev nm (s.c.ins.length : Int) m (.slice qj t cj) sr)) := fun W8 W9 hm ho hg => by
              refine (hm.next ((Below.refl _ W8).alloc (Nat.le_refl _) _)).grown hg (fun g hg' => ⟨own_ge ho g hg', fun e => ?_⟩)
              subst e; exact own_ne ho (b := g) (t := 50) (m := 5) ⟨_, hm.c, Nat.le_refl _⟩ (by decide) hg'
            have H1 : Hid (∀ u ∈ ([.int .i64 vr] : List Value), u.oneCell' = true) := fun u hu => by obtain rfl := List.mem_singleton.1 hu; rfl
            have j0 : (j : Int) < (n : Int) := by omega
            have htb : t + 1 ≤ 1000000000 := by have := hjt.out; omega
            have HTB : Hid (t + 1 ≤ 1000000000) := htb
            have HJ2 : Hid (j + 1 = t + 1 + 4) := by have := hjt.out; show _ = _; omega
            clear bd hM hO HSj HTc HSo htb hjt
            go_upto_region 13 with fail
            go_wp2_with fail
            go_region_law (first
              | (refine step_callw (by rfl) 103 [.tmp 102] #[125] [.agg #[.string xw, .bool qw]] (by rfl) (by rfl) (callSo _) _ (n2 wr.drew) ?_; rintro v8 W8 ⟨rfl, hw8⟩; obtain ⟨m8, o8⟩ := HW8.out W8 hw8.out; obtain ⟨x8, -⟩ := blk_cell m8.c 3 (.slice qj t cj) rfl; obtain ⟨x8a, -⟩ := blk_cell (m8.next ((Below.refl _ W8).alloc (Nat.le_refl _) (.cells #[.int .i64 vr] 48))).c 3 (.slice qj t cj) rfl)
              | (refine step_app 47 48 _ 1 8 Tryz.underlying47 infoSort (by rfl) (by decide) (by decide) (by rfl) _ _ (by rfl) W.heap.size (.slice qj t cj) t (sv (SO.take t)) (by rfl) (own_next o8 ((Below.refl _ W8).alloc (Nat.le_refl _) _)) W8.heap.size [.int .i64 vr] rfl H1.out (by rfl) (range_new W8 _ _) HTB.out (by have := m8.b.size; simp; omega) ?_; intro v9 W9 ho9 hg9; have m9 := HWA.out W8 W9 m8 o8 hg9.out.1; obtain ⟨x9, y9⟩ := blk_cell m9.c 3 (.slice qj t cj) rfl; obtain ⟨q9, c9, rfl, -, -⟩ := own_slice ho9.out))
            all_goals
              have HM10 : Hid (Ei W (W9.setCell ⟨p8, 3, none⟩ (.slice q9 (t + 1) c9)) p8 (ev nm (s.c.ins.length : Int) m (.slice q9 (t + 1) c9) sr)) := m9.set 3 _
              have hO10 : Hid ((W9.setCell ⟨p8, 3, none⟩ (.slice q9 (t + 1) c9)).ownsRow W.heap.size 48 1 (.slice q9 (t + 1) c9) (t + 1) (sv (SO.take t) ++ [.int .i64 vr])) := own_setB ho9.out m9.c (by decide) _
              clear m9 ho9 hg9 x8 x8a x9 y9 m8 o8 hw8 HWA HW8 n2 x3' cw1 cw2 HTW
              generalize W9.setCell ⟨p8, 3, none⟩ (.slice q9 (t + 1) c9) = W10 at *
              go_wp2
              exact ⟨⟨j + 1, t + 1, q9, c9, HJ2, by omega, by go_num, HM10, by rw [HS1.out, sv_app]; exact hO10⟩, by simp [intOf]; omega⟩
end Go.Proofs.YtchinflkjcebjabGreatDoor
