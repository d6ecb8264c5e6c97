import Derived.Test.YtdcaonfnhdjibaaDoorVPf
import Derived.Deep.RegionHeld3
import Derived.Deep.CutBlock
import Derived.Deep.DeepCutAuto
namespace Go.Proofs.YtdcaonfnhdjibaaDoor
open Go.RowKit

/-- A piece that is being made. -/
structure Pi (W wx : World) (p : Nat) (L : List Value) : Prop where
  b : Below W.heap.size W wx
  c : wx.heap[p]? = some (.cells L.toArray 93)
  l : W.heap.size ≤ p
theorem Pi.set {W wx : World} {p : Nat} {L : List Value} (h : Pi W wx p L) (j : Nat) (v : Value) : Pi W (wx.setCell ⟨p, j, none⟩ v) p (L.set j v) := ⟨h.b.setCell (p := ⟨p, j, none⟩) h.l v, by
  rw [set_blk h.c v, Array.set!_eq_setIfInBounds, List.setIfInBounds_toArray], h.l⟩
theorem Pi.next {W wx wy : World} {p : Nat} {L : List Value} (h : Pi W wx p L) (k : Below wx.heap.size wx wy) : Pi W wy p L := ⟨below2 h.b k, (k.block _ (Array.getElem?_eq_some_iff.1 h.c).1).trans h.c, h.l⟩
theorem Pi.cell {W wx : World} {p : Nat} {L : List Value} (h : Pi W wx p L) (j : Nat) (v : Value) (hv : L[j]? = some v) : wx.cell? ⟨p, j, none⟩ = some v ∧ wx.frozen? ⟨p, j, none⟩ = false := blk_cell h.c j v (by simpa using hv)
/-- A piece's cells as they are made. -/
abbrev pcZ : List Value := [.slice none 0 0, .slice none 0 0, .slice none 0 0, .int .i64 0, .string ⟨#[]⟩, .int .i64 0, .int .i64 0, .slice none 0 0, .int .i64 0, .int .i64 0, .slice none 0 0, .slice none 0 0]
theorem below12 {B : Nat} {w w' : World} (h : Below B w w') {p : Nat} (hp : B ≤ p) (v0 v1 v2 v3 v4 v5 v6 v7 v8 v9 v10 v11 : Value) : Below B w ((((((((((((w'.setCell ⟨p, 0, none⟩ v0).setCell ⟨p, 1, none⟩ v1).setCell ⟨p, 2, none⟩ v2).setCell ⟨p, 3, none⟩ v3).setCell ⟨p, 4, none⟩ v4).setCell ⟨p, 5, none⟩ v5).setCell ⟨p, 6, none⟩ v6).setCell ⟨p, 7, none⟩ v7).setCell ⟨p, 8, none⟩ v8).setCell ⟨p, 9, none⟩ v9).setCell ⟨p, 10, none⟩ v10).setCell ⟨p, 11, none⟩ v11) :=
  ((((((((((((h.setCell (p := ⟨p, 0, none⟩) hp v0).setCell (p := ⟨p, 1, none⟩) hp v1).setCell (p := ⟨p, 2, none⟩) hp v2).setCell (p := ⟨p, 3, none⟩) hp v3).setCell (p := ⟨p, 4, none⟩) hp v4).setCell (p := ⟨p, 5, none⟩) hp v5).setCell (p := ⟨p, 6, none⟩) hp v6).setCell (p := ⟨p, 7, none⟩) hp v7).setCell (p := ⟨p, 8, none⟩) hp v8).setCell (p := ⟨p, 9, none⟩) hp v9).setCell (p := ⟨p, 10, none⟩) hp v10).setCell (p := ⟨p, 11, none⟩) hp v11)
/-- Between two rounds. -/
structure SI (w wr : World) (B kg : Nat) (iq eq tq : Option Addr) (ia ea ta : Nat) (Es : List Em) (c : Cd) (f : Nat) (K : Kn) (R : Except (Int × Int) Kn) : Prop where
  b : Below w.heap.size w wr
  bx : Full wr w.heap.size 26 [.slice iq c.ins.length ia, .slice eq c.ens.length ea, .slice tq c.txs.length ta, .int .i64 c.main]
  kn : ∃ ks, KnM wr kg K ks
  kl : w.heap.size < kg
  pre : Pre c f K
  so : All SOk K
  eqn : fnsS c f (c.ens.length - f) K = R
theorem fns_step {c : Cd} {f : Nat} {K : Kn} (h : f < c.ens.length) : fnsS c f (c.ens.length - f) K = match fnS c f K with | .error k => .error k | .ok K' => fnsS c (f + 1) (c.ens.length - (f + 1)) K' := by
  rw [show c.ens.length - f = (c.ens.length - (f + 1)) + 1 by omega, fnsS]
  rfl
theorem fns_end {c : Cd} {K : Kn} : fnsS c c.ens.length (c.ens.length - c.ens.length) K = .ok K := by rw [Nat.sub_self]; rfl
section
variable {w : World} {B : Nat} {iq eq tq : Option Addr} {Es : List Em} {c : Cd}
set_option maxRecDepth 100000 in
set_option maxHeartbeats 16000000 in
theorem survey_any (m : CodeM w B iq eq tq Es c) (cp : ∀ y ∈ Es, y.1.sorts.length ≤ y.2.2 ∧ (y.2.1 = none → y.1.sorts.length = 0)) (ia ea ta : Nat) (hB : B ≤ w.heap.size) (ht : Tabs w) :
    Calls Tryd.prog 28 #[codeV iq eq tq ia ea ta c] w fun z w' => Hid (SurR w c (surS c) z w') := by
  obtain ⟨R, HR⟩ : ∃ R, Hid (surS c = R) := ⟨_, (rfl : surS c = _)⟩
  rw [HR.out]
  have B1 : Below w.heap.size w (w.alloc (.cells #[.slice iq c.ins.length ia, .slice eq c.ens.length ea, .slice tq c.txs.length ta, .int .i64 c.main] 26)) := (Below.refl _ w).alloc (Nat.le_refl _) _
  have F1 : Full (w.alloc (.cells #[.slice iq c.ins.length ia, .slice eq c.ens.length ea, .slice tq c.txs.length ta, .int .i64 c.main] 26)) w.heap.size 26 [.slice iq c.ins.length ia, .slice eq c.ens.length ea, .slice tq c.txs.length ta, .int .i64 c.main] := Full.new w _ _
  have x0 := (F1.cell 0 _ rfl).1
  have x1 := (F1.cell 1 _ rfl).1
  have x2 := (F1.cell 2 _ rfl).1
  have x3 := (F1.cell 3 _ rfl).1
  have c1 := valid_any (m.below B1 hB) ia ea ta (Nat.le_trans hB B1.size) (ht.next B1)
  obtain ⟨V, HV⟩ : ∃ V, Hid (validS c = V) := ⟨_, (rfl : validS c = _)⟩
  rw [HV.out] at c1
  have HM : Hid (CodeM w B iq eq tq Es c ∧ (∀ y ∈ Es, y.1.sorts.length ≤ y.2.2 ∧ (y.2.1 = none → y.1.sorts.length = 0)) ∧ B ≤ w.heap.size) := ⟨m, cp, hB⟩
  have HF1 : Hid (Full (w.alloc (.cells #[.slice iq c.ins.length ia, .slice eq c.ens.length ea, .slice tq c.txs.length ta, .int .i64 c.main] 26)) w.heap.size 26 [.slice iq c.ins.length ia, .slice eq c.ens.length ea, .slice tq c.txs.length ta, .int .i64 c.main] ∧ Below w.heap.size w (w.alloc (.cells #[.slice iq c.ins.length ia, .slice eq c.ens.length ea, .slice tq c.txs.length ta, .int .i64 c.main] 26))) := ⟨F1, B1⟩
  unfold codeV at c1 ⊢
  clear m cp hB ht F1 B1
  go_enter Tryd.func28, Tryd.ntmps28
  go_upto_region 1 with fail
  generalize w.alloc (.cells #[.slice iq c.ins.length ia, .slice eq c.ens.length ea, .slice tq c.txs.length ta, .int .i64 c.main] 26) = X at *
  go_wp2_with fail
  refine c1.mono ?_
  rintro z W2 ⟨rfl, b2⟩
  have HF2 : Hid (Full W2 w.heap.size 26 [.slice iq c.ins.length ia, .slice eq c.ens.length ea, .slice tq c.txs.length ta, .int .i64 c.main] ∧ Below w.heap.size w W2) := ⟨HF1.out.1.next b2, below2 HF1.out.2 b2⟩
  clear c1 b2 HF1 x0 x1 x2 x3
  by_cases hV : V = 0
  case neg =>
    have hv : (V == 0) = false := by rw [beq_eq_false_iff_ne]; exact hV
    have HE : Hid (R = .error (V, 0)) := by show R = _; rw [← HR.out]; unfold surS; rw [HV.out, if_pos hV]
    have c2 := refuse_any W2 V 0
    clear hV HR HV
    go_wp2_with fail
    refine c2.mono ?_
    rintro z W3 ⟨rfl, rfl⟩
    go_wp2
    refine ⟨rfl, ?_⟩
    rw [HE.out]
    exact ⟨rfl, HF2.out.2⟩
  subst hV
  have hc : CodeOk c := code_ok.1 HV.out
  have HCo : Hid (CodeOk c) := hc
  obtain ⟨mn, hmn⟩ : ∃ mn : Nat, c.main = (mn : Int) := ⟨c.main.toNat, by have := hc.m0; omega⟩
  have hml : mn < c.ens.length := by have := hc.ml; omega
  have HR2 : Hid ((if 0 < (enAt c.ens mn).params ∨ (enAt c.ens mn).result ≠ 0 then .error (142, (enAt c.ens mn).start) else fnsS c 0 c.ens.length (List.replicate c.ins.length none)) = R) := by
    show _ = R
    rw [← HR.out]
    unfold surS
    rw [HV.out, if_neg (show ¬ ((0 : Int) ≠ 0) from fun h => h rfl), hmn, Int.toNat_natCast]
  have x0 := (HF2.out.1.cell 0 _ rfl).1
  have x1 := (HF2.out.1.cell 1 _ rfl).1
  have x3 := (HF2.out.1.cell 3 _ rfl).1
  obtain ⟨g, o, dq, dc, hq, hg, hr, -⟩ := code_ent (HM.out.1.below HF2.out.2 HM.out.2.2) mn hml
  rw [hq] at x1
  rw [hmn] at x3
  have r0 := hr 0 _ rfl
  have r1 := hr 1 _ rfl
  have r2 := hr 2 _ rfl
  have r3 := hr 3 _ rfl
  have r4 := hr 4 _ rfl
  rw [Nat.add_zero] at r0
  have a0 : (0 : Int) ≤ (mn : Int) := by omega
  have a1 : (mn : Int) < (c.ens.length : Int) := by omega
  have hZ := mk_stacks c.ins.length hc.il
  obtain ⟨Z, HZ⟩ : ∃ Z : Array Value, Hid ((List.replicate c.ins.length (Value.slice none 0 0)).toArray = Z) := ⟨_, (rfl : (List.replicate c.ins.length (Value.slice none 0 0)).toArray = _)⟩
  rw [HZ.out] at hZ
  clear HR HV hc hr hmn hg
  generalize (enAt c.ens mn).params = pr at *
  generalize (enAt c.ens mn).result = rs at *
  generalize (enAt c.ens mn).start = st at *
  generalize (enAt c.ens mn).name = nm at *
  generalize (enAt c.ens mn).sorts.length = sl at *
  go_upto_region 5 with fail
  obtain ⟨W3, hW3⟩ : ∃ W3, W3 = W2.alloc (.cells #[.string nm, .int .i64 st, .int .i64 pr, .slice dq sl dc, .int .i64 rs] 47) := ⟨_, rfl⟩
  rw [← hW3]
  have b3 : Below W2.heap.size W2 W3 := by rw [hW3]; exact (Below.refl _ W2).alloc (Nat.le_refl _) _
  have F3 : Full W3 W2.heap.size 47 [.string nm, .int .i64 st, .int .i64 pr, .slice dq sl dc, .int .i64 rs] := by rw [hW3]; exact Full.new W2 _ _
  have e1 := (F3.cell 1 _ rfl).1
  have e2 := (F3.cell 2 _ rfl).1
  have e4 := (F3.cell 4 _ rfl).1
  have HF3 : Hid (Full W3 w.heap.size 26 [.slice iq c.ins.length ia, .slice eq c.ens.length ea, .slice tq c.txs.length ta, .int .i64 c.main] ∧ Below w.heap.size w W3 ∧ w.heap.size < W3.heap.size) := ⟨HF2.out.1.next b3, below2 HF2.out.2 b3, (HF2.out.1.next b3).lt⟩
  clear hW3 b3 F3 HF2 x0 x1 x3 r0 r1 r2 r3 r4 hq
  generalize W2.heap.size = g4 at *
  clear W2
  have x0 := (HF3.out.1.cell 0 _ rfl).1
  have x1 := (HF3.out.1.cell 1 _ rfl).1
  by_cases hp : 0 < pr
  · have HE : Hid (R = .error (142, st)) := by show R = _; rw [← HR2.out, if_pos (.inl hp)]
    have c2 := refuse_any W3 142 st
    clear HR2
    go_wp2_with fail
    refine c2.mono ?_
    rintro z W4 ⟨rfl, rfl⟩
    go_wp2
    refine ⟨rfl, ?_⟩
    rw [HE.out]
    exact ⟨rfl, HF3.out.2.1⟩
  by_cases hs : rs = 0
  case neg =>
    have hs1 : (rs == 0) = false := by rw [beq_eq_false_iff_ne]; exact hs
    have HE : Hid (R = .error (142, st)) := by show R = _; rw [← HR2.out, if_pos (.inr hs)]
    have c2 := refuse_any W3 142 st
    clear HR2 hs
    go_wp2_with fail
    refine c2.mono ?_
    rintro z W4 ⟨rfl, rfl⟩
    go_wp2
    refine ⟨rfl, ?_⟩
    rw [HE.out]
    exact ⟨rfl, HF3.out.2.1⟩
  have HE : Hid (fnsS c 0 (c.ens.length - 0) (List.replicate c.ins.length none) = R) := by show _ = R; rw [← HR2.out, if_neg (fun x => x.elim hp (fun y => y hs))]; rfl
  subst hs
  clear HR2
  go_upto_region 8 with fail
  obtain ⟨W4, hW4⟩ : ∃ W4, W4 = W3.alloc (.cells Z 72) := ⟨_, rfl⟩
  rw [← hW4]
  have b4 : Below W3.heap.size W3 W4 := by rw [hW4]; exact (Below.refl _ W3).alloc (Nat.le_refl _) _
  have HI0 : Hid (SI w W4 B W3.heap.size iq eq tq ia ea ta Es c 0 (List.replicate c.ins.length none) R) := by
    refine ⟨below2 HF3.out.2.1 b4, HF3.out.1.next b4, ⟨List.replicate c.ins.length (.slice none 0 0), ?_⟩, HF3.out.2.2, Pre.start c, fun i s hs => ?_, HE.out⟩
    · rw [hW4, ← HZ.out]; exact kn_new W3 _
    · rw [List.getD_eq_getElem?_getD, List.getElem?_replicate] at hs
      split at hs <;> cases hs
  have HSz : Hid (c.ens.length ≤ 60 ∧ c.ins.length ≤ 60000) := ⟨HCo.out.el, HCo.out.il⟩
  clear hW4 b4 HF3 x0 x1 e1 e2 e4 hZ HZ HE hp
  generalize W3.heap.size = kg at *
  clear W3
  have x0 := (HI0.out.bx.cell 0 _ rfl).1
  have x1 := (HI0.out.bx.cell 1 _ rfl).1
  go_wp2_with fail
  clear x0 x1
  go_loopw [39] (fun sv wr => ∃ f : Nat, f ≤ c.ens.length ∧ sv = .int .i64 (f : Int) ∧ ∃ K : Kn, Hid (SI w wr B kg iq eq tq ia ea ta Es c f K R)) (fun sv _ => c.ens.length - (intOf sv).toNat)
  case atStart => exact ⟨0, Nat.zero_le _, rfl, _, HI0⟩
  case round =>
    obtain ⟨f, hf, rfl, K, HI⟩ := hrel
    clear HI0
    by_cases hlt : f < c.ens.length
    · obtain ⟨g, o, dq, dc, hq, hg, hr, hrow, y, hy, hy1, hy2⟩ := code_ent (HM.out.1.below HI.out.b HM.out.2.2) f hlt
      have HFe : Hid (fnsS c f (c.ens.length - f) K = R) := HI.out.eqn
      have HRw : Hid (Row wr B dq (enAt c.ens f).sorts.length (sv (enAt c.ens f).sorts) ∧ (dq = none → (enAt c.ens f).sorts.length = 0) ∧ (enAt c.ens f).sorts.length ≤ dc) := by
        have h1 := HM.out.2.1 y hy
        rw [hy1, hy2] at h1
        exact ⟨hrow, h1.2, h1.1⟩
      have r0 := hr 0 _ rfl
      have r1 := hr 1 _ rfl
      have r2 := hr 2 _ rfl
      have r3 := hr 3 _ rfl
      have r4 := hr 4 _ rfl
      rw [Nat.add_zero] at r0
      have a0 : (0 : Int) ≤ (f : Int) := by omega
      have a1 : (f : Int) < (c.ens.length : Int) := by omega
      have h60 : (f : Int) ≤ 60 := by have := HSz.out; omega
      obtain ⟨nm, Hnm⟩ : ∃ nm, Hid ((enAt c.ens f).name = nm) := ⟨_, (rfl : (enAt c.ens f).name = _)⟩
      obtain ⟨st, Hst⟩ : ∃ st, Hid ((enAt c.ens f).start = st) := ⟨_, (rfl : (enAt c.ens f).start = _)⟩
      obtain ⟨pr, Hpr⟩ : ∃ pr, Hid ((enAt c.ens f).params = pr) := ⟨_, (rfl : (enAt c.ens f).params = _)⟩
      obtain ⟨sl, Hsl⟩ : ∃ sl, Hid ((enAt c.ens f).sorts.length = sl) := ⟨_, (rfl : (enAt c.ens f).sorts.length = _)⟩
      obtain ⟨rs, Hrs⟩ : ∃ rs, Hid ((enAt c.ens f).result = rs) := ⟨_, (rfl : (enAt c.ens f).result = _)⟩
      rw [Hnm.out] at r0
      rw [Hst.out] at r1
      rw [Hpr.out] at r2
      rw [Hsl.out] at r3
      rw [Hrs.out] at r4
      clear hr hrow hy hy1 hy2 hg
      subst hq
      go_upto_region 11 with fail
      obtain ⟨W5, hW5⟩ : ∃ W5, W5 = wr.alloc (.cells #[.string nm, .int .i64 st, .int .i64 pr, .slice dq sl dc, .int .i64 rs] 47) := ⟨_, rfl⟩
      rw [← hW5]
      have b5 : Below wr.heap.size wr W5 := by rw [hW5]; exact (Below.refl _ wr).alloc (Nat.le_refl _) _
      have F5 : Full W5 wr.heap.size 47 [.string nm, .int .i64 st, .int .i64 pr, .slice dq sl dc, .int .i64 rs] := by rw [hW5]; exact Full.new wr _ _
      have HI5 : Hid (SI w W5 B kg iq (some ⟨g, o, none⟩) tq ia ea ta Es c f K R) := by
        obtain ⟨ks, hk⟩ := HI.out.kn
        exact ⟨below2 HI.out.b b5, HI.out.bx.next b5, ⟨ks, hk.keep (b5.block kg hk.blk.lt) fun g hg => b5.block g hg.lt⟩, HI.out.kl, HI.out.pre, HI.out.so, HI.out.eqn⟩
      have HRw5 : Hid (Row W5 B dq (enAt c.ens f).sorts.length (sv (enAt c.ens f).sorts)) := HRw.out.1.below b5 (Nat.le_trans HM.out.2.2 HI.out.b.size)
      have HG7 : Hid (Full W5 wr.heap.size 47 [.string nm, .int .i64 st, .int .i64 pr, .slice dq sl dc, .int .i64 rs]) := F5
      obtain ⟨g7, hg7⟩ : ∃ g7, wr.heap.size = g7 := ⟨_, rfl⟩
      rw [hg7] at HG7 ⊢
      clear hW5 b5 F5 hg7 r0 r1 r2 r3 r4 HI
      have x0 := (HI5.out.bx.cell 0 _ rfl).1
      have x1 := (HI5.out.bx.cell 1 _ rfl).1
      have x2 := (HI5.out.bx.cell 2 _ rfl).1
      have x3 := (HI5.out.bx.cell 3 _ rfl).1
      have y0 := (HG7.out.cell 0 _ rfl).1
      have y1 := (HG7.out.cell 1 _ rfl).1
      have y2 := (HG7.out.cell 2 _ rfl).1
      have y3 := (HG7.out.cell 3 _ rfl).1
      have y4 := (HG7.out.cell 4 _ rfl).1
      obtain ⟨hi, Hhi⟩ : ∃ hi, Hid (endS c f = hi) := ⟨_, (rfl : endS c f = _)⟩
      have pE : Hid (∀ w', Below W5.heap.size W5 w' → Calls Tryd.prog 42 #[.agg #[.slice iq c.ins.length ia, .slice (some ⟨g, o, none⟩) c.ens.length ea, .slice tq c.txs.length ta, .int .i64 c.main], .int .i64 (f : Int)] w' fun z w'' => z = .returned (.int .i64 hi) ∧ Below w'.heap.size w' w'') := fun w' hb => by
        have hb' := below2 HI5.out.b hb
        have := pieceEnd_any (HM.out.1.below hb' HM.out.2.2) HCo.out ia ea ta (Nat.le_trans HM.out.2.2 hb'.size) f hlt
        rw [Hhi.out] at this
        exact this
      go_cut [8] (fun u8 wx => ∃ p8 : Nat, u8 = .pointer (some ⟨p8, 0, none⟩) ∧ Hid (Pi W5 wx p8 [.slice iq c.ins.length ia, .slice (some ⟨g, o, none⟩) c.ens.length ea, .slice tq c.txs.length ta, .int .i64 c.main, .string nm, .int .i64 st, .int .i64 pr, .slice dq sl dc, .int .i64 rs, .int .i64 hi, .slice (some ⟨kg, 0, none⟩) c.ins.length c.ins.length, .slice none 0 0]))
      case first =>
        have hcd : Below W5.heap.size W5 W5.drew := (Below.refl _ W5).drew
        have HCA : Hid (Below W5.heap.size W5 (W5.alloc (.cells #[.slice none 0 0, .slice none 0 0, .slice none 0 0, .int .i64 0, .string ⟨#[]⟩, .int .i64 0, .int .i64 0, .slice none 0 0, .int .i64 0, .int .i64 0, .slice none 0 0, .slice none 0 0] 93)).drew) := ((Below.refl _ W5).alloc (Nat.le_refl _) _).drew
        have SV : Hid (∀ w' : World, Below W5.heap.size W5 w' → w'.cell? ⟨w.heap.size, 0, none⟩ = some (.slice iq c.ins.length ia) ∧ w'.cell? ⟨w.heap.size, 1, none⟩ = some (.slice (some ⟨g, o, none⟩) c.ens.length ea) ∧ w'.cell? ⟨w.heap.size, 2, none⟩ = some (.slice tq c.txs.length ta) ∧ w'.cell? ⟨w.heap.size, 3, none⟩ = some (.int .i64 c.main) ∧ w'.cell? ⟨g7, 0, none⟩ = some (.string nm) ∧ w'.cell? ⟨g7, 1, none⟩ = some (.int .i64 st) ∧ w'.cell? ⟨g7, 2, none⟩ = some (.int .i64 pr) ∧ w'.cell? ⟨g7, 3, none⟩ = some (.slice dq sl dc) ∧ w'.cell? ⟨g7, 4, none⟩ = some (.int .i64 rs) ∧ Below W5.heap.size W5 w') := fun w' hb => ⟨((HI5.out.bx.next hb).cell 0 _ rfl).1, ((HI5.out.bx.next hb).cell 1 _ rfl).1, ((HI5.out.bx.next hb).cell 2 _ rfl).1, ((HI5.out.bx.next hb).cell 3 _ rfl).1, ((HG7.out.next hb).cell 0 _ rfl).1, ((HG7.out.next hb).cell 1 _ rfl).1, ((HG7.out.next hb).cell 2 _ rfl).1, ((HG7.out.next hb).cell 3 _ rfl).1, ((HG7.out.next hb).cell 4 _ rfl).1, hb⟩
        have HN9 : Hid (∀ W8, Below (W5.alloc (.cells #[.slice none 0 0, .slice none 0 0, .slice none 0 0, .int .i64 0, .string ⟨#[]⟩, .int .i64 0, .int .i64 0, .slice none 0 0, .int .i64 0, .int .i64 0, .slice none 0 0, .slice none 0 0] 93)).drew.heap.size (W5.alloc (.cells #[.slice none 0 0, .slice none 0 0, .slice none 0 0, .int .i64 0, .string ⟨#[]⟩, .int .i64 0, .int .i64 0, .slice none 0 0, .int .i64 0, .int .i64 0, .slice none 0 0, .slice none 0 0] 93)).drew W8 → Pi W5 W8 W5.heap.size [.slice none 0 0, .slice none 0 0, .slice none 0 0, .int .i64 0, .string ⟨#[]⟩, .int .i64 0, .int .i64 0, .slice none 0 0, .int .i64 0, .int .i64 0, .slice none 0 0, .slice none 0 0] ∧ Below W5.heap.size W5 W8) := fun W8 hb => by
          have E0 : Pi W5 (W5.alloc (.cells #[.slice none 0 0, .slice none 0 0, .slice none 0 0, .int .i64 0, .string ⟨#[]⟩, .int .i64 0, .int .i64 0, .slice none 0 0, .int .i64 0, .int .i64 0, .slice none 0 0, .slice none 0 0] 93)) W5.heap.size [.slice none 0 0, .slice none 0 0, .slice none 0 0, .int .i64 0, .string ⟨#[]⟩, .int .i64 0, .int .i64 0, .slice none 0 0, .int .i64 0, .int .i64 0, .slice none 0 0, .slice none 0 0] := ⟨(Below.refl _ W5).alloc (Nat.le_refl _) _, World.alloc_heap_new W5 _, Nat.le_refl _⟩
          have E1 := (E0.next (Below.refl _ _).drew).next hb
          exact ⟨E1, E1.b⟩
        have HEn : Hid (∀ w1, Below W5.heap.size W5 w1 → Pi W5 (w1.alloc (.cells #[.slice iq c.ins.length ia, .slice (some ⟨g, o, none⟩) c.ens.length ea, .slice tq c.txs.length ta, .int .i64 c.main, .string nm, .int .i64 st, .int .i64 pr, .slice dq sl dc, .int .i64 rs, .int .i64 hi, .slice (some ⟨kg, 0, none⟩) c.ins.length c.ins.length, .slice none 0 0] 93)) w1.heap.size [.slice iq c.ins.length ia, .slice (some ⟨g, o, none⟩) c.ens.length ea, .slice tq c.txs.length ta, .int .i64 c.main, .string nm, .int .i64 st, .int .i64 pr, .slice dq sl dc, .int .i64 rs, .int .i64 hi, .slice (some ⟨kg, 0, none⟩) c.ins.length c.ins.length, .slice none 0 0]) := fun w1 hb => ⟨below2 hb ((Below.refl _ w1).alloc (Nat.le_refl _) _), World.alloc_heap_new w1 _, hb.size⟩
        have pEd : Calls Tryd.prog 42 #[.agg #[.slice iq c.ins.length ia, .slice (some ⟨g, o, none⟩) c.ens.length ea, .slice tq c.txs.length ta, .int .i64 c.main], .int .i64 (f : Int)] W5.drew fun z w'' => z = .returned (.int .i64 hi) ∧ Hid (Below W5.heap.size W5 w'') := (pE.out _ hcd).mono fun _ _ h => ⟨h.1, hcd.trans (h.2.mono hcd.size)⟩
        have pEa : Calls Tryd.prog 42 #[.agg #[.slice iq c.ins.length ia, .slice (some ⟨g, o, none⟩) c.ens.length ea, .slice tq c.txs.length ta, .int .i64 c.main], .int .i64 (f : Int)] (W5.alloc (.cells #[.slice none 0 0, .slice none 0 0, .slice none 0 0, .int .i64 0, .string ⟨#[]⟩, .int .i64 0, .int .i64 0, .slice none 0 0, .int .i64 0, .int .i64 0, .slice none 0 0, .slice none 0 0] 93)).drew fun z w'' => z = .returned (.int .i64 hi) ∧ Hid (Pi W5 w'' W5.heap.size [.slice none 0 0, .slice none 0 0, .slice none 0 0, .int .i64 0, .string ⟨#[]⟩, .int .i64 0, .int .i64 0, .slice none 0 0, .int .i64 0, .int .i64 0, .slice none 0 0, .slice none 0 0]) := (pE.out _ HCA.out).mono fun _ _ h => ⟨h.1, (HN9.out _ h.2).1⟩
        clear pE HN9
        go_wp2_with fail
        go_region_held3 (fun w' => w'.cell? ⟨w.heap.size, 0, none⟩ = some (.slice iq c.ins.length ia) ∧ w'.cell? ⟨w.heap.size, 1, none⟩ = some (.slice (some ⟨g, o, none⟩) c.ens.length ea) ∧ w'.cell? ⟨w.heap.size, 2, none⟩ = some (.slice tq c.txs.length ta) ∧ w'.cell? ⟨w.heap.size, 3, none⟩ = some (.int .i64 c.main) ∧ w'.cell? ⟨g7, 0, none⟩ = some (.string nm) ∧ w'.cell? ⟨g7, 1, none⟩ = some (.int .i64 st) ∧ w'.cell? ⟨g7, 2, none⟩ = some (.int .i64 pr) ∧ w'.cell? ⟨g7, 3, none⟩ = some (.slice dq sl dc) ∧ w'.cell? ⟨g7, 4, none⟩ = some (.int .i64 rs) ∧ Below W5.heap.size W5 w') (exact SV.out _ (by first | with_reducible assumption | with_reducible exact HCA.out | with_reducible exact Below.alloc (by with_reducible assumption) (Below.size (by with_reducible assumption)) _ | with_reducible exact below12 (by with_reducible assumption) (by first | (with_reducible exact Nat.le_refl _) | (with_reducible exact Below.size (by assumption))) _ _ _ _ _ _ _ _ _ _ _ _))
          (first
          | (go_at_call 42; (with_reducible refine pEd.mono ?_); rintro e w1 ⟨rfl, hb1⟩; have hcd1 : Below W5.heap.size W5 w1 := hb1.out)
          | (go_at_call 42; (with_reducible refine pEa.mono ?_); rintro e w1 ⟨rfl, hb1⟩; have z1 : Pi W5 w1 W5.heap.size [.slice none 0 0, .slice none 0 0, .slice none 0 0, .int .i64 0, .string ⟨#[]⟩, .int .i64 0, .int .i64 0, .slice none 0 0, .int .i64 0, .int .i64 0, .slice none 0 0, .slice none 0 0] := hb1.out; have hcd1 : Below W5.heap.size W5 w1 := z1.b; obtain ⟨r0, r0'⟩ := z1.cell 0 (.slice none 0 0) rfl; obtain ⟨r1, r1'⟩ := z1.cell 1 (.slice none 0 0) rfl; obtain ⟨r2, r2'⟩ := z1.cell 2 (.slice none 0 0) rfl; obtain ⟨r3, r3'⟩ := z1.cell 3 (.int .i64 0) rfl; obtain ⟨r4, r4'⟩ := z1.cell 4 (.string ⟨#[]⟩) rfl; obtain ⟨r5, r5'⟩ := z1.cell 5 (.int .i64 0) rfl; obtain ⟨r6, r6'⟩ := z1.cell 6 (.int .i64 0) rfl; obtain ⟨r7, r7'⟩ := z1.cell 7 (.slice none 0 0) rfl; obtain ⟨r8, r8'⟩ := z1.cell 8 (.int .i64 0) rfl; obtain ⟨r9, r9'⟩ := z1.cell 9 (.int .i64 0) rfl; obtain ⟨r10, r10'⟩ := z1.cell 10 (.slice none 0 0) rfl; obtain ⟨r11, r11'⟩ := z1.cell 11 (.slice none 0 0) rfl; have Z1 : Hid (Pi W5 w1 W5.heap.size [.slice none 0 0, .slice none 0 0, .slice none 0 0, .int .i64 0, .string ⟨#[]⟩, .int .i64 0, .int .i64 0, .slice none 0 0, .int .i64 0, .int .i64 0, .slice none 0 0, .slice none 0 0]) := z1; clear z1)
          | fail)
        all_goals
          clear SV
          go_wp2
          go_meet
          case rel => first | exact ⟨_, rfl, ((((((((((((Z1.out.set 0 _).set 1 _).set 2 _).set 3 _).set 4 _).set 5 _).set 6 _).set 7 _).set 8 _).set 9 _).set 10 _).set 11 _)⟩ | exact ⟨_, rfl, HEn.out w1 hcd1⟩
      case rest =>
        obtain ⟨p8, rfl, hP8⟩ := hcut
        have b6 : Below W5.heap.size W5 wc := hP8.out.b
        have hSv : Sv wc B w.heap.size p8 kg iq (some ⟨g, o, none⟩) tq ia ea ta Es c (enAt c.ens f) dq dc hi K [] none 0 := by
          obtain ⟨ks, hk⟩ := HI5.out.kn
          have hb' := below2 HI5.out.b b6
          refine ⟨⟨?_, rfl, World.ownsRow_nil _ _ _ _⟩, ⟨ks, hk.keep (b6.block kg hk.blk.lt) fun g hg => b6.block g hg.lt⟩, HM.out.1.below hb' HM.out.2.2, HRw5.out.below b6 (Nat.le_trans HM.out.2.2 HI5.out.b.size), HRw.out.2, HM.out.2.1, ⟨HM.out.2.2, Nat.le_trans HM.out.2.2 (Nat.le_trans HI5.out.b.size hP8.out.l), Nat.le_trans HM.out.2.2 (Nat.le_of_lt HI5.out.kl), hb'.size⟩, HI5.out.pre.len, ?_⟩
          · have := hP8.out.c
            rw [← Hnm.out, ← Hst.out, ← Hpr.out, ← Hsl.out, ← Hrs.out] at this
            exact this
          · have e2 : K.countP (·.isNone) ≤ K.length := List.countP_le_length
            have e3 := HI5.out.pre.len
            have e4 := HSz.out.2
            unfold lft
            simp only [List.length_nil]
            omega
        obtain ⟨p1, p2, p3⟩ := piece_ok HCo.out hlt
        rw [Hhi.out] at p2 p3
        have c6 := psurvey_any eff16 hSv HCo.out (ent_ok.1 (HCo.out.es _ (en_mem hlt))) ⟨p1, p2⟩ p3 (fun i h => HI5.out.pre.none_at HCo.out hlt i h) HI5.out.so
        have hfn : fnS c f K = pieceS c (enAt c.ens f) hi (c.ins.length + 1) (K.set (enAt c.ens f).start.toNat (some []), pushH [] (enAt c.ens f).start) := by unfold fnS; rw [Hhi.out]
        rw [← hfn] at c6
        obtain ⟨Q, HQf⟩ : ∃ Q, Hid (fnS c f K = Q) := ⟨_, (rfl : fnS c f K = _)⟩
        rw [HQf.out] at c6
        have HP : Hid (∀ W6 q', Pt wc W6 p8 kg none q' → Below w.heap.size w W6 ∧ Full W6 w.heap.size 26 [.slice iq c.ins.length ia, .slice (some ⟨g, o, none⟩) c.ens.length ea, .slice tq c.txs.length ta, .int .i64 c.main]) := fun W6 q' pt => by
          have k1 := HI5.out.kl
          have k2 := Nat.le_trans HI5.out.b.size hP8.out.l
          have k3 : w.heap.size < W5.heap.size := HI5.out.bx.lt
          have k4 := hP8.out.l
          have hb' := below2 HI5.out.b b6
          refine ⟨hb'.trans (pt.kp.below (fun k x => ?_) hb'.size), (pt.kp.block _ (HI5.out.bx.next b6).lt fun x => ?_).trans (HI5.out.bx.next b6)⟩
          · rcases x with x | x | x
            · omega
            · omega
            · cases x
          · rcases x with x | x | x
            · omega
            · omega
            · cases x
        have HPre : Hid (Pre c f K ∧ All SOk K ∧ w.heap.size < kg) := ⟨HI5.out.pre, HI5.out.so, HI5.out.kl⟩
        have HF5 : Hid (fnsS c f (c.ens.length - f) K = R) := HI5.out.eqn
        clear hSv p1 p2 p3 hfn b6 HI5 HG7 pE x0 x1 x2 x3 y0 y1 y2 y3 y4 HRw HRw5 Hnm Hst Hpr Hsl Hrs hP8 Hhi
        go_wp2_with fail
        refine c6.mono ?_
        rintro z W6 h6
        replace h6 := h6.out
        clear c6
        cases hQ : Q with
        | error k =>
          rw [hQ] at h6 HQf
          obtain ⟨rfl, q', hpt⟩ := h6
          have HE : Hid (R = .error k) := by show R = _; rw [← HF5.out, fns_step hlt, HQf.out]
          have HPf : Hid (Below w.heap.size w W6) := (HP.out _ _ hpt).1
          clear hpt
          go_wp2
          refine ⟨rfl, ?_⟩
          rw [HE.out]
          exact ⟨rfl, HPf.out⟩
        | ok K' =>
          rw [hQ] at h6 HQf
          obtain ⟨rfl, O', q', cap', S6, hpt⟩ := h6
          have HI6 : Hid (SI w W6 B kg iq (some ⟨g, o, none⟩) tq ia ea ta Es c (f + 1) K' R) := by
            have h1 := HP.out _ _ hpt
            refine ⟨h1.1, h1.2, S6.kn, HPre.out.2.2, (HPre.out.1.next HCo.out hlt HQf.out).1, fn_sok HPre.out.1 HCo.out hlt HQf.out HPre.out.2.1, ?_⟩
            rw [← HF5.out, fns_step hlt, HQf.out]
          clear S6 hpt
          go_wp2
          exact ⟨⟨f + 1, by omega, by go_num, K', HI6⟩, by simp [intOf]; omega⟩
    · obtain rfl : f = c.ens.length := by omega
      have i1 : ¬ ((c.ens.length : Int) < (c.ens.length : Int)) := by omega
      have HE : Hid (R = .ok K) := by show R = _; rw [← HI.out.eqn, fns_end]
      go_wp2
      go_ret
      show SurR _ _ R _ _
      rw [HE.out]
      obtain ⟨ks, hk⟩ := HI.out.kn
      exact ⟨kg, ks, rfl, hk, Nat.le_of_lt HI.out.kl, HI.out.b⟩
end
end Go.Proofs.YtdcaonfnhdjibaaDoor
