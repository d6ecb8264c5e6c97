import Derived.Deep.CutBlock
import Derived.Deep.DeepCutAuto
import Derived.Test.YtdmiciblfbkndaaDoorA14
import Derived.Test.YtdmiciblfbkndaaDoorA19
import Derived.Test.YtdmiciblfbkndaaDoorA09
namespace Go.Proofs.YtdmiciblfbkndaaDoor
open Go.RowKit

theorem callNm (a : Value) (w : World) : (callFunc 94 #[a]).run Tryd.prog w = .ok (.enter 94 #[a]) w := by kernel_rfl
theorem hidAnd {a b : Prop} (h : a) (k : b) : Hid (a ∧ b) := ⟨h, k⟩
theorem and15u (c : UInt8) : bits BinOp.and IntKind.u8 (c.toNat : Int) 15 = ((c.toNat % 16 : Nat) : Int) := by
  have h : ∀ x : Fin 256, bits BinOp.and IntKind.u8 (((x : Nat) : Int)) 15 = (((x : Nat) % 16 : Nat) : Int) := by decide +kernel
  exact h ⟨c.toNat, UInt8.toNat_lt c⟩
theorem callRs (a : Value) (w : World) : (callFunc 74 #[a]).run Tryd.prog w = .ok (.enter 74 #[a]) w := by kernel_rfl
/-- Cells of a block that the caller had not. -/
theorem RdQ.boxS {B : Nat} {W w2 : World} {P R : Nat} {s : Rd} {t : TypeId} {vs : List Value} (h : RdQ B W P s w2) (hB : B ≤ W.heap.size) (hR : W.heap.size ≤ R) (f : Full w2 R t vs) (h1 : t ≠ 9) (h2 : t ≠ 131) (o : Nat) (us : List Value) : RdQ B W P s (w2.setCells R o us) := by
  obtain ⟨⟨nv, hr⟩, hb, ho⟩ := h.out
  refine ⟨⟨nv, hr.low, hr.box.other (hr.box.ne f (Ne.symm h2)), own_same hr.names fun g hg => sets_heap ?_ us o w2⟩, below_sets hb (Nat.le_trans hB hR) o us, fun g t' vs' fg k1 k2 => (ho g t' vs' fg k1 k2).other ?_⟩
  · have hbk := own_blk hr.names g hg
    exact fun e => hbk.ne (⟨_, f, Nat.zero_le _⟩ : Blk w2 R t 0) (Ne.symm h1) e
  · have := fg.lt
    show g ≠ R
    omega
/-- Where event stands: the reader, and the answer's block. -/
structure RvI (B : Nat) (W : World) (P R : Nat) (s : Rd) (w' : World) : Prop where
  q : RdQ B W P s w'
  e : Full w' R 37 EvZ
theorem RvI.step {B : Nat} {W a b : World} {P R : Nat} {s s' : Rd} (h : RvI B W P R s a) (k : RdQ B a P s' b) : RvI B W P R s' b := ⟨h.q.trans k, k.out.2.2 _ _ _ h.e (by decide) (by decide)⟩
theorem ret_ev {w : World} {R : Nat} {a b c d e f : Value} {tm : Array Value} (h : Full w R 37 [a, b, c, d, e, f]) (h2 : tm[2]?.getD undef = .pointer (some ⟨R, 0, none⟩)) : (results Tryd.f91 tm).run Tryd.prog w = .ok (.agg #[a, b, c, d, e, f]) w := by
  obtain ⟨⟨⟨r0, g0⟩, ⟨r1, g1⟩, r2, g2⟩, ⟨r3, g3⟩, ⟨r4, g4⟩, r5, g5⟩ := h.six2
  simp [results, Tryd.results91, go_sem, h2, r0, r1, r2, r3, r4, r5]
section
variable {B : Nat} {W : World} {P : Nat} {s : Rd}
set_option maxRecDepth 100000 in
set_option maxHeartbeats 40000000 in
theorem revent (h : RdS B W P s) (hz : s.r.length ≤ 140737488355328) (hns : s.ns.length ≤ 800) (hnd : -9223372036854775808 ≤ s.nd ∧ s.nd ≤ 9223372036854775807) :
    Calls Tryd.prog 91 #[.pointer (some ⟨P, 0, none⟩)] W fun e w' => e = .returned (.agg (ec (evR s).1).toArray) ∧ RdQ B W P (evR s).2 w' := by
  obtain ⟨nd, ns, r⟩ := s
  simp only at hz hns hnd
  obtain ⟨X, hX⟩ : ∃ X, W.alloc (.cells #[.int .i64 0, .int .i64 0, .string ⟨#[]⟩, .int .i64 0, .int .i64 0, .string ⟨#[]⟩] 37) = X := ⟨_, rfl⟩
  obtain ⟨R, hR⟩ : ∃ R, W.heap.size = R := ⟨_, rfl⟩
  have HI0 : Hid (RvI B W P R ⟨nd, ns, r⟩ X) := by
    rw [← hX, ← hR]
    exact ⟨RdQ.of h ((Below.refl _ W).alloc (Nat.le_refl _) _), Full.new W _ _⟩
  have HB : Hid (B ≤ W.heap.size ∧ W.heap.size ≤ R) := ⟨h.size, Nat.le_of_eq hR⟩
  have HC := rbyte HI0.out.q.out.1 hz
  simp only at HC
  obtain ⟨c, hc⟩ : ∃ c, (byteR r).1 = c := ⟨_, rfl⟩
  obtain ⟨r1, hr1⟩ : ∃ r1, (byteR r).2 = r1 := ⟨_, rfl⟩
  have hl1 : r1.length ≤ 140737488355328 := by have := byteR_len r; rw [hr1] at this; omega
  obtain ⟨u, hu⟩ : ∃ u, uz (nR r1).1 = u := ⟨_, rfl⟩
  obtain ⟨r2, hr2⟩ : ∃ r2, (nR r1).2 = r2 := ⟨_, rfl⟩
  have hl2 : r2.length ≤ 140737488355328 := by have := nR_len r1; rw [hr2] at this; omega
  obtain ⟨nm, hnm⟩ : ∃ nm, nmR ns r2 = nm := ⟨_, rfl⟩
  have hev : evR ⟨nd, ns, r⟩ = (⟨(c.toNat % 16 : Nat), wrp (nd + u), nm.1, (c.toNat / 16 : Nat), (vlR (c.toNat / 16 : Nat) nm.2.2).1, (vlR (c.toNat / 16 : Nat) nm.2.2).2.1⟩, ⟨wrp (nd + u), nm.2.1, (vlR (c.toNat / 16 : Nat) nm.2.2).2.2⟩) := by
    unfold evR
    simp only [hc, hr1, hu, hr2, hnm]
  rw [hc, hr1] at HC
  rw [hev]
  clear hev h hz
  go_enter Tryd.func91, Tryd.ntmps91
  go_wp2_with fail
  refine HC.mono ?_
  rintro e w2 ⟨rfl, hw2⟩
  have HI2 : Hid (RvI B W P R ⟨nd, ns, r1⟩ w2) := HI0.out.step hw2
  have HI2d : Hid (RvI B W P R ⟨nd, ns, r1⟩ w2.drew) := HI2.out.step (RdQ.of HI2.out.q.out.1 (Below.refl _ _).drew)
  have HC2 := rsigned HI2d.out.q.out.1 hl1
  simp only [hu, hr2] at HC2
  obtain ⟨-, -, ⟨c0, d0⟩, -, -, -, -⟩ := HI2.out.q.out.1.cells
  simp only at c0
  have HW : Hid (∀ x : Int, IntKind.i64.wrap x = wrp x) := fun x => by rw [IntKind.wrap_i64]; unfold wrp; rfl
  clear HC hw2 HI0 hX hc hr1 hu hr2
  go_upto_region 2 with fail
  go_cut [3] (fun v wx => v = .int .u8 (c.toNat : Int) ∧ Hid (RvI B W P R ⟨wrp (nd + u), ns, r2⟩ wx))
  case first =>
    go_region_law (first
      | (refine step_call (by rfl) 74 [.tmp 14] _ [.pointer (some ⟨P, 0, none⟩)] (by rfl) (by rfl) (callRs _) (fun v w' => v = .int .i64 u ∧ RdQ B w2.drew P ⟨nd, ns, r2⟩ w') (HC2.mono fun _ _ q => ⟨_, q.1, rfl, q.2⟩) ?_; rintro v5 w5 ⟨rfl, hw5⟩; obtain ⟨-, -, ⟨c5, d5⟩, -, -, -, -⟩ := hw5.out.1.cells; simp only at c5)
      | fail)
    all_goals
      have hI5 := HI2d.out.step hw5
      have hI6 := hI5.step (RdS.node hI5.q.out.1 (IntKind.i64.wrap (nd + u)))
      have HI6 : Hid (RvI B W P R ⟨wrp (nd + u), ns, r2⟩ (w5.setCell ⟨P, 0, none⟩ (.int .i64 (IntKind.i64.wrap (nd + u))))) := by rw [← HW.out]; exact hI6
      clear hI5 hI6 HI2 HI2d HC2 hw5
      go_wp2
      go_meet
      case rel => exact ⟨rfl, HI6⟩
  case rest =>
    obtain ⟨rfl, HI3⟩ := hcut
    clear HI2 HI2d HC2 c0 d0
    have hwr : -9223372036854775808 ≤ wrp (nd + u) ∧ wrp (nd + u) ≤ 9223372036854775807 := by unfold wrp; omega
    obtain ⟨n2, hn2⟩ : ∃ n2, wrp (nd + u) = n2 := ⟨_, rfl⟩
    rw [hn2] at HI3 hwr
    have HN2 : Hid (wrp (nd + u) = n2) := hn2
    have hct := UInt8.toNat_lt c
    have HC3 := rname HI3.out.q.out.1 hl2 (by simp only; omega)
    simp only [hnm] at HC3
    obtain ⟨-, -, ⟨c0, d0⟩, -, -, -, -⟩ := HI3.out.q.out.1.cells
    simp only at c0
    clear hn2
    have hl3 : nm.2.2.length ≤ 140737488355328 := by have h := (nmR_le ns r2).2; rw [hnm] at h; omega
    obtain ⟨nmx, ns3, r3⟩ := nm
    simp only at HC3 hl3
    obtain ⟨xb, hxb⟩ : ∃ b : ByteArray, b.data.toList = nmx := ⟨⟨nmx.toArray⟩, rfl⟩
    have HX : Hid (sV nmx = .string xb) := sV_at hxb
    have HId : Hid (RvI B W P R ⟨n2, ns, r2⟩ wc.drew) := HI3.out.step (RdQ.of HI3.out.q.out.1 (Below.refl _ _).drew)
    obtain ⟨we, hwe⟩ : ∃ we, wc.drew.alloc (.cells #[.int .i64 0, .int .i64 0, .string ⟨#[]⟩, .int .i64 0, .int .i64 0, .string ⟨#[]⟩] 37) = we := ⟨_, rfl⟩
    have nbe : Below wc.drew.heap.size wc.drew we := by rw [← hwe]; exact (Below.refl _ _).alloc (Nat.le_refl _) _
    have HIe : Hid (RvI B W P R ⟨n2, ns, r2⟩ we) := HId.out.step (RdQ.of HId.out.q.out.1 nbe)
    have HCa := rname HId.out.q.out.1 hl2 (by simp only; omega)
    have HCb := rname HIe.out.q.out.1 hl2 (by simp only; omega)
    simp only [hnm] at HCa HCb
    rw [HX.out] at HCa HCb
    obtain ⟨-, -, ⟨ce, de⟩, -, -, -, -⟩ := HIe.out.q.out.1.cells
    simp only at ce
    obtain ⟨E, hE⟩ : ∃ E, wc.heap.size = E := ⟨_, rfl⟩
    have HFe : Hid (Full we E 37 EvZ ∧ W.heap.size ≤ E ∧ E ≠ R) := by
      refine ⟨by rw [← hE, ← hwe]; exact Full.new wc.drew _ _, by rw [← hE]; exact Nat.le_trans (Nat.le_trans HB.out.2 (Nat.le_of_lt HI3.out.e.lt)) (Nat.le_refl _), ?_⟩
      have := HI3.out.e.lt
      omega
    have ha15 := and15u c
    obtain ⟨k16, hk16⟩ : ∃ k16, c.toNat % 16 = k16 := ⟨_, rfl⟩
    rw [hk16] at ha15
    have y0 : (0 : Int) ≤ (k16 : Int) := by omega
    have y1 : (k16 : Int) ≤ 15 := by omega
    clear HC3 hnm hxb nbe
    go_upto_region 3 with fail
    go_cut [4] (fun v wx => Hid (∃ E, v = .pointer (some ⟨E, 0, none⟩) ∧ RvI B W P R ⟨n2, ns3, r3⟩ wx ∧ Full wx E 37 [.int .i64 (k16 : Int), .int .i64 n2, .string xb, .int .i64 0, .int .i64 0, .string ⟨#[]⟩] ∧ W.heap.size ≤ E ∧ E ≠ R))
    case first =>
      have HAB : Hid (∀ wx, (wx = wc.drew ∨ wx = we) → Calls Tryd.prog 94 #[.pointer (some ⟨P, 0, none⟩)] wx (fun e w' => ∃ v, e = .returned v ∧ (v = .string xb ∧ RvI B W P R ⟨n2, ns3, r3⟩ w' ∧ (wx = we → Full w' E 37 EvZ)))) := fun wx hx => by
        rcases hx with rfl | rfl
        · refine HCa.mono fun _ _ q => ⟨_, q.1, rfl, HId.out.step q.2, fun e => ?_⟩
          exfalso
          have h1 := congrArg (fun w : World => w.heap.size) (e.trans hwe.symm)
          simp at h1
        · exact HCb.mono fun _ _ q => ⟨_, q.1, rfl, HIe.out.step q.2, fun _ => q.2.out.2.2 _ _ _ HFe.out.1 (by decide) (by decide)⟩
      clear HCa HCb
      go_region_law (first
        | (refine step_call (by rfl) 94 [.tmp 28] _ [.pointer (some ⟨P, 0, none⟩)] (by rfl) (by rfl) (callNm _) _ (HAB.out _ (by first | with_reducible exact Or.inl rfl | with_reducible exact Or.inr rfl)) ?_; rintro v5 w5 ⟨rfl, HI5, hfe⟩; obtain ⟨-, -, ⟨c5, d5⟩, -, -, -, -⟩ := HI5.q.out.1.cells; simp only at c5; have c6 : (w5.alloc (.cells #[.int .i64 0, .int .i64 0, .string ⟨#[]⟩, .int .i64 0, .int .i64 0, .string ⟨#[]⟩] 37)).cell? ⟨P, 0, none⟩ = some (.int .i64 n2) := (Below.cell (p := ⟨P, 0, none⟩) ((Below.refl w5.heap.size w5).alloc (Nat.le_refl _) _) (World.block_lt_of_cell? w5 _ c5)).trans c5; try (have HF5 := hfe (by with_reducible rfl); obtain ⟨⟨⟨e0, f0⟩, ⟨e1, f1⟩, e2, f2⟩, ⟨e3, f3⟩, ⟨e4, f4⟩, e5, f5⟩ := HF5.six2))
        | fail)
      all_goals
        have HWk : Hid (IntKind.i64.wrap (k16 : Int) = (k16 : Int)) := by show _ = _; rw [IntKind.wrap_i64]; omega
        have hRl := HI5.e.lt
        first
        | (have hz1 : RvI B W P R ⟨n2, ns3, r3⟩ (w5.setCells E 0 [.int .i64 (IntKind.i64.wrap (k16 : Int)), .int .i64 n2, .string xb, .int .i64 0, .int .i64 0, .string ⟨#[]⟩]) := ⟨HI5.q.boxS HB.out.1 HFe.out.2.1 HF5 (by decide) (by decide) 0 _, HI5.e.other (Ne.symm HFe.out.2.2)⟩
           have hz2 : Full (w5.setCells E 0 [.int .i64 (IntKind.i64.wrap (k16 : Int)), .int .i64 n2, .string xb, .int .i64 0, .int .i64 0, .string ⟨#[]⟩]) E 37 [.int .i64 (IntKind.i64.wrap (k16 : Int)), .int .i64 n2, .string xb, .int .i64 0, .int .i64 0, .string ⟨#[]⟩] := Full.put (a := []) (b := EvZ) (d := []) [.int .i64 (IntKind.i64.wrap (k16 : Int)), .int .i64 n2, .string xb, .int .i64 0, .int .i64 0, .string ⟨#[]⟩] HF5 rfl
           have hz3 := Eq.mp (congrArg (fun x : Int => Full (w5.setCells E 0 [.int .i64 (IntKind.i64.wrap (k16 : Int)), .int .i64 n2, .string xb, .int .i64 0, .int .i64 0, .string ⟨#[]⟩]) E 37 [.int .i64 x, .int .i64 n2, .string xb, .int .i64 0, .int .i64 0, .string ⟨#[]⟩]) HWk.out) hz2
           simp only [World.setCells, Nat.zero_add, Nat.reduceAdd] at hz1 hz3
           have HZ := hidAnd hz1 hz3
           clear hz1 hz2 hz3 hRl c5 d5 c6 ce de c0 d0 e0 e1 e2 e3 e4 e5 f0 f1 f2 f3 f4 f5 HAB
           go_wp2
           go_meet
           case rel => exact ⟨E, rfl, HZ.out.1, HZ.out.2, HFe.out.2⟩)
        | (have hz1 : RvI B W P R ⟨n2, ns3, r3⟩ (w5.alloc (.cells #[.int .i64 (IntKind.i64.wrap (k16 : Int)), .int .i64 n2, .string xb, .int .i64 0, .int .i64 0, .string ⟨#[]⟩] 37)) := HI5.step (RdQ.of HI5.q.out.1 ((Below.refl _ _).alloc (Nat.le_refl _) _))
           have hz2 : Full (w5.alloc (.cells #[.int .i64 (IntKind.i64.wrap (k16 : Int)), .int .i64 n2, .string xb, .int .i64 0, .int .i64 0, .string ⟨#[]⟩] 37)) w5.heap.size 37 [.int .i64 (IntKind.i64.wrap (k16 : Int)), .int .i64 n2, .string xb, .int .i64 0, .int .i64 0, .string ⟨#[]⟩] := Full.new w5 _ _
           have hz3 := Eq.mp (congrArg (fun x : Int => Full (w5.alloc (.cells #[.int .i64 (IntKind.i64.wrap (k16 : Int)), .int .i64 n2, .string xb, .int .i64 0, .int .i64 0, .string ⟨#[]⟩] 37)) w5.heap.size 37 [.int .i64 x, .int .i64 n2, .string xb, .int .i64 0, .int .i64 0, .string ⟨#[]⟩]) HWk.out) hz2
           have HZ := hidAnd hz1 hz3
           have HE2 : Hid (W.heap.size ≤ w5.heap.size ∧ w5.heap.size ≠ R) := ⟨by have := HB.out.2; omega, by omega⟩
           clear hz1 hz2 hz3 hRl c5 d5 c6 ce de c0 d0 HAB
           go_wp2
           go_meet
           case rel => exact ⟨w5.heap.size, rfl, HZ.out.1, HZ.out.2, HE2.out⟩)
    case rest =>
      obtain ⟨E, rfl, hic, hfc, hwe2, her⟩ := hcut.out
      have HQ : Hid (RvI B W P R ⟨n2, ns3, r3⟩ wc ∧ Full wc E 37 [.int .i64 (k16 : Int), .int .i64 n2, .string xb, .int .i64 0, .int .i64 0, .string ⟨#[]⟩] ∧ W.heap.size ≤ E ∧ E ≠ R) := ⟨hic, hfc, hwe2, her⟩
      have HX2 : Hid (sV nmx = .string xb ∧ c.toNat % 16 = k16 ∧ r3.length ≤ 140737488355328) := ⟨HX.out, hk16, hl3⟩
      clear hcut hic hfc hwe2 her HId HIe HCa HCb ce de hE HFe hwe c0 d0 HI3 HX hk16 ha15 y0 y1 hl1 hl2 hl3 hns hnd HW hwr
      have hkc : c.toNat / 16 = 0 ∨ c.toNat / 16 = 1 ∨ c.toNat / 16 = 2 ∨ c.toNat / 16 = 3 ∨ c.toNat / 16 = 4 ∨ 5 ≤ c.toNat / 16 := by omega
      rcases hkc with hk | hk | hk | hk | hk | hk
      · have HR := rowOf_at wc ((c.toNat : Int) / 16) 0 (by omega) (by decide)
        simp only [rowV] at HR
        have HK : Hid ((c.toNat : Int) / 16 = 0) := by show (c.toNat : Int) / 16 = 0; omega
        clear hk
        obtain ⟨vn, hvn⟩ : ∃ x, (vlR 0 r3).1 = x := ⟨_, rfl⟩
        obtain ⟨vs, hvs⟩ : ∃ x : ByteArray, x.data.toList = (vlR 0 r3).2.1 := ⟨⟨(vlR 0 r3).2.1.toArray⟩, rfl⟩
        obtain ⟨r4, hr4⟩ : ∃ x, (vlR 0 r3).2.2 = x := ⟨_, rfl⟩
        have hsv := sV_at hvs
        have HV0 : Hid ((vlR 0 r3).1 = vn ∧ sV (vlR 0 r3).2.1 = .string vs ∧ (vlR 0 r3).2.2 = r4) := ⟨hvn, hsv, hr4⟩
        have HV : Hid ((vlR ((c.toNat : Int) / 16) r3).1 = vn ∧ sV (vlR ((c.toNat : Int) / 16) r3).2.1 = .string vs ∧ (vlR ((c.toNat : Int) / 16) r3).2.2 = r4) := by rw [HK.out]; exact HV0.out
        clear hvn hvs hr4 hsv
        go_wp2_with fail
        refine HR.mono ?_
        rintro e w5 ⟨rfl, hb5⟩
        clear HR
        obtain ⟨Y, hY⟩ : ∃ Y, w5.alloc (.cells #[.func (.func 67) #[] #[], .func (.func 68) #[] #[], .func (.func 69) #[] #[]] 102) = Y := ⟨_, rfl⟩
        obtain ⟨G, hG⟩ : ∃ G, w5.heap.size = G := ⟨_, rfl⟩
        have bY : Below wc.heap.size wc Y := by rw [← hY]; exact hb5.trans (((Below.refl _ w5).alloc (Nat.le_refl _) _).mono hb5.size)
        have iY : RvI B W P R ⟨n2, ns3, r3⟩ Y := HQ.out.1.step (RdQ.of HQ.out.1.q.out.1 bY)
        have fG : Full Y G 102 [.func (.func 67) #[] #[], .func (.func 68) #[] #[], .func (.func 69) #[] #[]] := by rw [← hG, ← hY]; exact Full.new w5 _ _
        have HC := read_0 iY.q.out.1
        simp only at HC
        rw [HV0.out.1, HV0.out.2.1, HV0.out.2.2] at HC
        obtain ⟨-, -, g2, -⟩ := fG.three
        have HY : Hid (RvI B W P R ⟨n2, ns3, r3⟩ Y ∧ Full Y E 37 [.int .i64 (k16 : Int), .int .i64 n2, .string xb, .int .i64 0, .int .i64 0, .string ⟨#[]⟩] ∧ W.heap.size ≤ E ∧ E ≠ R) := ⟨iY, HQ.out.2.1.next bY, HQ.out.2.2⟩
        clear bY fG iY HQ hb5
        go_wp2_with fail
        refine HC.mono ?_
        rintro e w6 ⟨rfl, hw6⟩
        have i6 := HY.out.1.step hw6
        have f6 := hw6.out.2.2 _ _ _ HY.out.2.1 (by decide) (by decide)
        clear HC hw6 g2 hY
        have i7 : RvI B W P R ⟨n2, ns3, r4⟩ (w6.setCells E 3 [.int .i64 0, .int .i64 vn, .string vs]) := ⟨i6.q.boxS HB.out.1 HY.out.2.2.1 f6 (by decide) (by decide) 3 _, i6.e.other (Ne.symm HY.out.2.2.2)⟩
        have f7 : Full (w6.setCells E 3 [.int .i64 0, .int .i64 vn, .string vs]) E 37 [.int .i64 (k16 : Int), .int .i64 n2, .string xb, .int .i64 0, .int .i64 vn, .string vs] := Full.put (a := [.int .i64 (k16 : Int), .int .i64 n2, .string xb]) (b := [.int .i64 0, .int .i64 0, .string ⟨#[]⟩]) (d := []) [.int .i64 0, .int .i64 vn, .string vs] f6 rfl
        obtain ⟨W7, hW7⟩ : ∃ W7, w6.setCells E 3 [.int .i64 0, .int .i64 vn, .string vs] = W7 := ⟨_, rfl⟩
        rw [hW7] at i7 f7
        simp only [World.setCells, Nat.reduceAdd] at hW7
        obtain ⟨-, ⟨p3, q3⟩, ⟨p4, q4⟩, p5, q5⟩ := f6.six2
        clear i6 f6
        have i8 : RvI B W P R ⟨n2, ns3, r4⟩ (W7.setCell ⟨E, 3, none⟩ (.int .i64 ((c.toNat : Int) / 16))) := ⟨i7.q.box HB.out.1 HY.out.2.2.1 f7 (by decide) (by decide) 3 _, i7.e.other1 (Ne.symm HY.out.2.2.2)⟩
        have f8 : Full (W7.setCell ⟨E, 3, none⟩ (.int .i64 ((c.toNat : Int) / 16))) E 37 [.int .i64 (k16 : Int), .int .i64 n2, .string xb, .int .i64 ((c.toNat : Int) / 16), .int .i64 vn, .string vs] := Full.put1 (a := [.int .i64 (k16 : Int), .int .i64 n2, .string xb]) (d := [.int .i64 vn, .string vs]) f7 _
        obtain ⟨W8, hW8⟩ : ∃ W8, W7.setCell ⟨E, 3, none⟩ (.int .i64 ((c.toNat : Int) / 16)) = W8 := ⟨_, rfl⟩
        rw [hW8] at i8 f8
        have H8 : Hid (RvI B W P R ⟨n2, ns3, r4⟩ W8) := i8
        obtain ⟨⟨⟨e0, f0⟩, ⟨e1, f1⟩, e2, f2⟩, ⟨e3, f3⟩, ⟨e4, f4⟩, e5, f5⟩ := f8.six2
        obtain ⟨⟨⟨s0, t0⟩, ⟨s1, t1⟩, s2, t2⟩, ⟨s3, t3⟩, ⟨s4, t4⟩, s5, t5⟩ := i8.e.six2
        obtain ⟨-, ⟨a3, b3⟩, -, -⟩ := f7.six2
        clear i7 f7 i8 f8
        go_wp2_with fail
        have q9 : RdQ B W P ⟨n2, ns3, r4⟩ (W8.setCells R 0 [.int .i64 (k16 : Int), .int .i64 n2, .string xb, .int .i64 ((c.toNat : Int) / 16), .int .i64 vn, .string vs]) := H8.out.q.boxS HB.out.1 HB.out.2 H8.out.e (by decide) (by decide) 0 _
        have f9 : Full (W8.setCells R 0 [.int .i64 (k16 : Int), .int .i64 n2, .string xb, .int .i64 ((c.toNat : Int) / 16), .int .i64 vn, .string vs]) R 37 [.int .i64 (k16 : Int), .int .i64 n2, .string xb, .int .i64 ((c.toNat : Int) / 16), .int .i64 vn, .string vs] := Full.put (a := []) (b := EvZ) (d := []) [.int .i64 (k16 : Int), .int .i64 n2, .string xb, .int .i64 ((c.toNat : Int) / 16), .int .i64 vn, .string vs] H8.out.e rfl
        simp only [World.setCells, Nat.zero_add, Nat.reduceAdd] at q9 f9
        refine bodyPost_ret (ret_ev f9 rfl) rfl ?_
        have hm : (c.toNat : Int) % 16 = (k16 : Int) := by have := HX2.out.2.1; omega
        refine ⟨congrArg (fun l : List Value => Ending.returned (.agg l.toArray)) ?_, ?_⟩
        · unfold ec
          simp only
          rw [HX2.out.1, HN2.out, HV.out.1, HV.out.2.1, hm]
        · rw [HN2.out, HV.out.2.2]
          exact q9
      · have HR := rowOf_at wc ((c.toNat : Int) / 16) 1 (by omega) (by decide)
        simp only [rowV] at HR
        have HK : Hid ((c.toNat : Int) / 16 = 1) := by show (c.toNat : Int) / 16 = 1; omega
        clear hk
        obtain ⟨vn, hvn⟩ : ∃ x, (vlR 1 r3).1 = x := ⟨_, rfl⟩
        obtain ⟨vs, hvs⟩ : ∃ x : ByteArray, x.data.toList = (vlR 1 r3).2.1 := ⟨⟨(vlR 1 r3).2.1.toArray⟩, rfl⟩
        obtain ⟨r4, hr4⟩ : ∃ x, (vlR 1 r3).2.2 = x := ⟨_, rfl⟩
        have hsv := sV_at hvs
        have HV0 : Hid ((vlR 1 r3).1 = vn ∧ sV (vlR 1 r3).2.1 = .string vs ∧ (vlR 1 r3).2.2 = r4) := ⟨hvn, hsv, hr4⟩
        have HV : Hid ((vlR ((c.toNat : Int) / 16) r3).1 = vn ∧ sV (vlR ((c.toNat : Int) / 16) r3).2.1 = .string vs ∧ (vlR ((c.toNat : Int) / 16) r3).2.2 = r4) := by rw [HK.out]; exact HV0.out
        clear hvn hvs hr4 hsv
        go_wp2_with fail
        refine HR.mono ?_
        rintro e w5 ⟨rfl, hb5⟩
        clear HR
        obtain ⟨Y, hY⟩ : ∃ Y, w5.alloc (.cells #[.func (.func 70) #[] #[], .func (.func 71) #[] #[], .func (.func 73) #[] #[]] 102) = Y := ⟨_, rfl⟩
        obtain ⟨G, hG⟩ : ∃ G, w5.heap.size = G := ⟨_, rfl⟩
        have bY : Below wc.heap.size wc Y := by rw [← hY]; exact hb5.trans (((Below.refl _ w5).alloc (Nat.le_refl _) _).mono hb5.size)
        have iY : RvI B W P R ⟨n2, ns3, r3⟩ Y := HQ.out.1.step (RdQ.of HQ.out.1.q.out.1 bY)
        have fG : Full Y G 102 [.func (.func 70) #[] #[], .func (.func 71) #[] #[], .func (.func 73) #[] #[]] := by rw [← hG, ← hY]; exact Full.new w5 _ _
        have HC := read_1 iY.q.out.1 HX2.out.2.2
        simp only at HC
        rw [HV0.out.1, HV0.out.2.1, HV0.out.2.2] at HC
        obtain ⟨-, -, g2, -⟩ := fG.three
        have HY : Hid (RvI B W P R ⟨n2, ns3, r3⟩ Y ∧ Full Y E 37 [.int .i64 (k16 : Int), .int .i64 n2, .string xb, .int .i64 0, .int .i64 0, .string ⟨#[]⟩] ∧ W.heap.size ≤ E ∧ E ≠ R) := ⟨iY, HQ.out.2.1.next bY, HQ.out.2.2⟩
        clear bY fG iY HQ hb5
        go_wp2_with fail
        refine HC.mono ?_
        rintro e w6 ⟨rfl, hw6⟩
        have i6 := HY.out.1.step hw6
        have f6 := hw6.out.2.2 _ _ _ HY.out.2.1 (by decide) (by decide)
        clear HC hw6 g2 hY
        have i7 : RvI B W P R ⟨n2, ns3, r4⟩ (w6.setCells E 3 [.int .i64 0, .int .i64 vn, .string vs]) := ⟨i6.q.boxS HB.out.1 HY.out.2.2.1 f6 (by decide) (by decide) 3 _, i6.e.other (Ne.symm HY.out.2.2.2)⟩
        have f7 : Full (w6.setCells E 3 [.int .i64 0, .int .i64 vn, .string vs]) E 37 [.int .i64 (k16 : Int), .int .i64 n2, .string xb, .int .i64 0, .int .i64 vn, .string vs] := Full.put (a := [.int .i64 (k16 : Int), .int .i64 n2, .string xb]) (b := [.int .i64 0, .int .i64 0, .string ⟨#[]⟩]) (d := []) [.int .i64 0, .int .i64 vn, .string vs] f6 rfl
        obtain ⟨W7, hW7⟩ : ∃ W7, w6.setCells E 3 [.int .i64 0, .int .i64 vn, .string vs] = W7 := ⟨_, rfl⟩
        rw [hW7] at i7 f7
        simp only [World.setCells, Nat.reduceAdd] at hW7
        obtain ⟨-, ⟨p3, q3⟩, ⟨p4, q4⟩, p5, q5⟩ := f6.six2
        clear i6 f6
        have i8 : RvI B W P R ⟨n2, ns3, r4⟩ (W7.setCell ⟨E, 3, none⟩ (.int .i64 ((c.toNat : Int) / 16))) := ⟨i7.q.box HB.out.1 HY.out.2.2.1 f7 (by decide) (by decide) 3 _, i7.e.other1 (Ne.symm HY.out.2.2.2)⟩
        have f8 : Full (W7.setCell ⟨E, 3, none⟩ (.int .i64 ((c.toNat : Int) / 16))) E 37 [.int .i64 (k16 : Int), .int .i64 n2, .string xb, .int .i64 ((c.toNat : Int) / 16), .int .i64 vn, .string vs] := Full.put1 (a := [.int .i64 (k16 : Int), .int .i64 n2, .string xb]) (d := [.int .i64 vn, .string vs]) f7 _
        obtain ⟨W8, hW8⟩ : ∃ W8, W7.setCell ⟨E, 3, none⟩ (.int .i64 ((c.toNat : Int) / 16)) = W8 := ⟨_, rfl⟩
        rw [hW8] at i8 f8
        have H8 : Hid (RvI B W P R ⟨n2, ns3, r4⟩ W8) := i8
        obtain ⟨⟨⟨e0, f0⟩, ⟨e1, f1⟩, e2, f2⟩, ⟨e3, f3⟩, ⟨e4, f4⟩, e5, f5⟩ := f8.six2
        obtain ⟨⟨⟨s0, t0⟩, ⟨s1, t1⟩, s2, t2⟩, ⟨s3, t3⟩, ⟨s4, t4⟩, s5, t5⟩ := i8.e.six2
        obtain ⟨-, ⟨a3, b3⟩, -, -⟩ := f7.six2
        clear i7 f7 i8 f8
        go_wp2_with fail
        have q9 : RdQ B W P ⟨n2, ns3, r4⟩ (W8.setCells R 0 [.int .i64 (k16 : Int), .int .i64 n2, .string xb, .int .i64 ((c.toNat : Int) / 16), .int .i64 vn, .string vs]) := H8.out.q.boxS HB.out.1 HB.out.2 H8.out.e (by decide) (by decide) 0 _
        have f9 : Full (W8.setCells R 0 [.int .i64 (k16 : Int), .int .i64 n2, .string xb, .int .i64 ((c.toNat : Int) / 16), .int .i64 vn, .string vs]) R 37 [.int .i64 (k16 : Int), .int .i64 n2, .string xb, .int .i64 ((c.toNat : Int) / 16), .int .i64 vn, .string vs] := Full.put (a := []) (b := EvZ) (d := []) [.int .i64 (k16 : Int), .int .i64 n2, .string xb, .int .i64 ((c.toNat : Int) / 16), .int .i64 vn, .string vs] H8.out.e rfl
        simp only [World.setCells, Nat.zero_add, Nat.reduceAdd] at q9 f9
        refine bodyPost_ret (ret_ev f9 rfl) rfl ?_
        have hm : (c.toNat : Int) % 16 = (k16 : Int) := by have := HX2.out.2.1; omega
        refine ⟨congrArg (fun l : List Value => Ending.returned (.agg l.toArray)) ?_, ?_⟩
        · unfold ec
          simp only
          rw [HX2.out.1, HN2.out, HV.out.1, HV.out.2.1, hm]
        · rw [HN2.out, HV.out.2.2]
          exact q9
      · have HR := rowOf_at wc ((c.toNat : Int) / 16) 2 (by omega) (by decide)
        simp only [rowV] at HR
        have HK : Hid ((c.toNat : Int) / 16 = 2) := by show (c.toNat : Int) / 16 = 2; omega
        clear hk
        obtain ⟨vn, hvn⟩ : ∃ x, (vlR 2 r3).1 = x := ⟨_, rfl⟩
        obtain ⟨vs, hvs⟩ : ∃ x : ByteArray, x.data.toList = (vlR 2 r3).2.1 := ⟨⟨(vlR 2 r3).2.1.toArray⟩, rfl⟩
        obtain ⟨r4, hr4⟩ : ∃ x, (vlR 2 r3).2.2 = x := ⟨_, rfl⟩
        have hsv := sV_at hvs
        have HV0 : Hid ((vlR 2 r3).1 = vn ∧ sV (vlR 2 r3).2.1 = .string vs ∧ (vlR 2 r3).2.2 = r4) := ⟨hvn, hsv, hr4⟩
        have HV : Hid ((vlR ((c.toNat : Int) / 16) r3).1 = vn ∧ sV (vlR ((c.toNat : Int) / 16) r3).2.1 = .string vs ∧ (vlR ((c.toNat : Int) / 16) r3).2.2 = r4) := by rw [HK.out]; exact HV0.out
        clear hvn hvs hr4 hsv
        go_wp2_with fail
        refine HR.mono ?_
        rintro e w5 ⟨rfl, hb5⟩
        clear HR
        obtain ⟨Y, hY⟩ : ∃ Y, w5.alloc (.cells #[.func (.func 75) #[] #[], .func (.func 76) #[] #[], .func (.func 77) #[] #[]] 102) = Y := ⟨_, rfl⟩
        obtain ⟨G, hG⟩ : ∃ G, w5.heap.size = G := ⟨_, rfl⟩
        have bY : Below wc.heap.size wc Y := by rw [← hY]; exact hb5.trans (((Below.refl _ w5).alloc (Nat.le_refl _) _).mono hb5.size)
        have iY : RvI B W P R ⟨n2, ns3, r3⟩ Y := HQ.out.1.step (RdQ.of HQ.out.1.q.out.1 bY)
        have fG : Full Y G 102 [.func (.func 75) #[] #[], .func (.func 76) #[] #[], .func (.func 77) #[] #[]] := by rw [← hG, ← hY]; exact Full.new w5 _ _
        have HC := read_2 iY.q.out.1 HX2.out.2.2
        simp only at HC
        rw [HV0.out.1, HV0.out.2.1, HV0.out.2.2] at HC
        obtain ⟨-, -, g2, -⟩ := fG.three
        have HY : Hid (RvI B W P R ⟨n2, ns3, r3⟩ Y ∧ Full Y E 37 [.int .i64 (k16 : Int), .int .i64 n2, .string xb, .int .i64 0, .int .i64 0, .string ⟨#[]⟩] ∧ W.heap.size ≤ E ∧ E ≠ R) := ⟨iY, HQ.out.2.1.next bY, HQ.out.2.2⟩
        clear bY fG iY HQ hb5
        go_wp2_with fail
        refine HC.mono ?_
        rintro e w6 ⟨rfl, hw6⟩
        have i6 := HY.out.1.step hw6
        have f6 := hw6.out.2.2 _ _ _ HY.out.2.1 (by decide) (by decide)
        clear HC hw6 g2 hY
        have i7 : RvI B W P R ⟨n2, ns3, r4⟩ (w6.setCells E 3 [.int .i64 0, .int .i64 vn, .string vs]) := ⟨i6.q.boxS HB.out.1 HY.out.2.2.1 f6 (by decide) (by decide) 3 _, i6.e.other (Ne.symm HY.out.2.2.2)⟩
        have f7 : Full (w6.setCells E 3 [.int .i64 0, .int .i64 vn, .string vs]) E 37 [.int .i64 (k16 : Int), .int .i64 n2, .string xb, .int .i64 0, .int .i64 vn, .string vs] := Full.put (a := [.int .i64 (k16 : Int), .int .i64 n2, .string xb]) (b := [.int .i64 0, .int .i64 0, .string ⟨#[]⟩]) (d := []) [.int .i64 0, .int .i64 vn, .string vs] f6 rfl
        obtain ⟨W7, hW7⟩ : ∃ W7, w6.setCells E 3 [.int .i64 0, .int .i64 vn, .string vs] = W7 := ⟨_, rfl⟩
        rw [hW7] at i7 f7
        simp only [World.setCells, Nat.reduceAdd] at hW7
        obtain ⟨-, ⟨p3, q3⟩, ⟨p4, q4⟩, p5, q5⟩ := f6.six2
        clear i6 f6
        have i8 : RvI B W P R ⟨n2, ns3, r4⟩ (W7.setCell ⟨E, 3, none⟩ (.int .i64 ((c.toNat : Int) / 16))) := ⟨i7.q.box HB.out.1 HY.out.2.2.1 f7 (by decide) (by decide) 3 _, i7.e.other1 (Ne.symm HY.out.2.2.2)⟩
        have f8 : Full (W7.setCell ⟨E, 3, none⟩ (.int .i64 ((c.toNat : Int) / 16))) E 37 [.int .i64 (k16 : Int), .int .i64 n2, .string xb, .int .i64 ((c.toNat : Int) / 16), .int .i64 vn, .string vs] := Full.put1 (a := [.int .i64 (k16 : Int), .int .i64 n2, .string xb]) (d := [.int .i64 vn, .string vs]) f7 _
        obtain ⟨W8, hW8⟩ : ∃ W8, W7.setCell ⟨E, 3, none⟩ (.int .i64 ((c.toNat : Int) / 16)) = W8 := ⟨_, rfl⟩
        rw [hW8] at i8 f8
        have H8 : Hid (RvI B W P R ⟨n2, ns3, r4⟩ W8) := i8
        obtain ⟨⟨⟨e0, f0⟩, ⟨e1, f1⟩, e2, f2⟩, ⟨e3, f3⟩, ⟨e4, f4⟩, e5, f5⟩ := f8.six2
        obtain ⟨⟨⟨s0, t0⟩, ⟨s1, t1⟩, s2, t2⟩, ⟨s3, t3⟩, ⟨s4, t4⟩, s5, t5⟩ := i8.e.six2
        obtain ⟨-, ⟨a3, b3⟩, -, -⟩ := f7.six2
        clear i7 f7 i8 f8
        go_wp2_with fail
        have q9 : RdQ B W P ⟨n2, ns3, r4⟩ (W8.setCells R 0 [.int .i64 (k16 : Int), .int .i64 n2, .string xb, .int .i64 ((c.toNat : Int) / 16), .int .i64 vn, .string vs]) := H8.out.q.boxS HB.out.1 HB.out.2 H8.out.e (by decide) (by decide) 0 _
        have f9 : Full (W8.setCells R 0 [.int .i64 (k16 : Int), .int .i64 n2, .string xb, .int .i64 ((c.toNat : Int) / 16), .int .i64 vn, .string vs]) R 37 [.int .i64 (k16 : Int), .int .i64 n2, .string xb, .int .i64 ((c.toNat : Int) / 16), .int .i64 vn, .string vs] := Full.put (a := []) (b := EvZ) (d := []) [.int .i64 (k16 : Int), .int .i64 n2, .string xb, .int .i64 ((c.toNat : Int) / 16), .int .i64 vn, .string vs] H8.out.e rfl
        simp only [World.setCells, Nat.zero_add, Nat.reduceAdd] at q9 f9
        refine bodyPost_ret (ret_ev f9 rfl) rfl ?_
        have hm : (c.toNat : Int) % 16 = (k16 : Int) := by have := HX2.out.2.1; omega
        refine ⟨congrArg (fun l : List Value => Ending.returned (.agg l.toArray)) ?_, ?_⟩
        · unfold ec
          simp only
          rw [HX2.out.1, HN2.out, HV.out.1, HV.out.2.1, hm]
        · rw [HN2.out, HV.out.2.2]
          exact q9
      · have HR := rowOf_at wc ((c.toNat : Int) / 16) 3 (by omega) (by decide)
        simp only [rowV] at HR
        have HK : Hid ((c.toNat : Int) / 16 = 3) := by show (c.toNat : Int) / 16 = 3; omega
        clear hk
        obtain ⟨vn, hvn⟩ : ∃ x, (vlR 3 r3).1 = x := ⟨_, rfl⟩
        obtain ⟨vs, hvs⟩ : ∃ x : ByteArray, x.data.toList = (vlR 3 r3).2.1 := ⟨⟨(vlR 3 r3).2.1.toArray⟩, rfl⟩
        obtain ⟨r4, hr4⟩ : ∃ x, (vlR 3 r3).2.2 = x := ⟨_, rfl⟩
        have hsv := sV_at hvs
        have HV0 : Hid ((vlR 3 r3).1 = vn ∧ sV (vlR 3 r3).2.1 = .string vs ∧ (vlR 3 r3).2.2 = r4) := ⟨hvn, hsv, hr4⟩
        have HV : Hid ((vlR ((c.toNat : Int) / 16) r3).1 = vn ∧ sV (vlR ((c.toNat : Int) / 16) r3).2.1 = .string vs ∧ (vlR ((c.toNat : Int) / 16) r3).2.2 = r4) := by rw [HK.out]; exact HV0.out
        clear hvn hvs hr4 hsv
        go_wp2_with fail
        refine HR.mono ?_
        rintro e w5 ⟨rfl, hb5⟩
        clear HR
        obtain ⟨Y, hY⟩ : ∃ Y, w5.alloc (.cells #[.func (.func 79) #[] #[], .func (.func 80) #[] #[], .func (.func 83) #[] #[]] 102) = Y := ⟨_, rfl⟩
        obtain ⟨G, hG⟩ : ∃ G, w5.heap.size = G := ⟨_, rfl⟩
        have bY : Below wc.heap.size wc Y := by rw [← hY]; exact hb5.trans (((Below.refl _ w5).alloc (Nat.le_refl _) _).mono hb5.size)
        have iY : RvI B W P R ⟨n2, ns3, r3⟩ Y := HQ.out.1.step (RdQ.of HQ.out.1.q.out.1 bY)
        have fG : Full Y G 102 [.func (.func 79) #[] #[], .func (.func 80) #[] #[], .func (.func 83) #[] #[]] := by rw [← hG, ← hY]; exact Full.new w5 _ _
        have HC := read_3 iY.q.out.1 HX2.out.2.2
        simp only at HC
        rw [HV0.out.1, HV0.out.2.1, HV0.out.2.2] at HC
        obtain ⟨-, -, g2, -⟩ := fG.three
        have HY : Hid (RvI B W P R ⟨n2, ns3, r3⟩ Y ∧ Full Y E 37 [.int .i64 (k16 : Int), .int .i64 n2, .string xb, .int .i64 0, .int .i64 0, .string ⟨#[]⟩] ∧ W.heap.size ≤ E ∧ E ≠ R) := ⟨iY, HQ.out.2.1.next bY, HQ.out.2.2⟩
        clear bY fG iY HQ hb5
        go_wp2_with fail
        refine HC.mono ?_
        rintro e w6 ⟨rfl, hw6⟩
        have i6 := HY.out.1.step hw6
        have f6 := hw6.out.2.2 _ _ _ HY.out.2.1 (by decide) (by decide)
        clear HC hw6 g2 hY
        have i7 : RvI B W P R ⟨n2, ns3, r4⟩ (w6.setCells E 3 [.int .i64 0, .int .i64 vn, .string vs]) := ⟨i6.q.boxS HB.out.1 HY.out.2.2.1 f6 (by decide) (by decide) 3 _, i6.e.other (Ne.symm HY.out.2.2.2)⟩
        have f7 : Full (w6.setCells E 3 [.int .i64 0, .int .i64 vn, .string vs]) E 37 [.int .i64 (k16 : Int), .int .i64 n2, .string xb, .int .i64 0, .int .i64 vn, .string vs] := Full.put (a := [.int .i64 (k16 : Int), .int .i64 n2, .string xb]) (b := [.int .i64 0, .int .i64 0, .string ⟨#[]⟩]) (d := []) [.int .i64 0, .int .i64 vn, .string vs] f6 rfl
        obtain ⟨W7, hW7⟩ : ∃ W7, w6.setCells E 3 [.int .i64 0, .int .i64 vn, .string vs] = W7 := ⟨_, rfl⟩
        rw [hW7] at i7 f7
        simp only [World.setCells, Nat.reduceAdd] at hW7
        obtain ⟨-, ⟨p3, q3⟩, ⟨p4, q4⟩, p5, q5⟩ := f6.six2
        clear i6 f6
        have i8 : RvI B W P R ⟨n2, ns3, r4⟩ (W7.setCell ⟨E, 3, none⟩ (.int .i64 ((c.toNat : Int) / 16))) := ⟨i7.q.box HB.out.1 HY.out.2.2.1 f7 (by decide) (by decide) 3 _, i7.e.other1 (Ne.symm HY.out.2.2.2)⟩
        have f8 : Full (W7.setCell ⟨E, 3, none⟩ (.int .i64 ((c.toNat : Int) / 16))) E 37 [.int .i64 (k16 : Int), .int .i64 n2, .string xb, .int .i64 ((c.toNat : Int) / 16), .int .i64 vn, .string vs] := Full.put1 (a := [.int .i64 (k16 : Int), .int .i64 n2, .string xb]) (d := [.int .i64 vn, .string vs]) f7 _
        obtain ⟨W8, hW8⟩ : ∃ W8, W7.setCell ⟨E, 3, none⟩ (.int .i64 ((c.toNat : Int) / 16)) = W8 := ⟨_, rfl⟩
        rw [hW8] at i8 f8
        have H8 : Hid (RvI B W P R ⟨n2, ns3, r4⟩ W8) := i8
        obtain ⟨⟨⟨e0, f0⟩, ⟨e1, f1⟩, e2, f2⟩, ⟨e3, f3⟩, ⟨e4, f4⟩, e5, f5⟩ := f8.six2
        obtain ⟨⟨⟨s0, t0⟩, ⟨s1, t1⟩, s2, t2⟩, ⟨s3, t3⟩, ⟨s4, t4⟩, s5, t5⟩ := i8.e.six2
        obtain ⟨-, ⟨a3, b3⟩, -, -⟩ := f7.six2
        clear i7 f7 i8 f8
        go_wp2_with fail
        have q9 : RdQ B W P ⟨n2, ns3, r4⟩ (W8.setCells R 0 [.int .i64 (k16 : Int), .int .i64 n2, .string xb, .int .i64 ((c.toNat : Int) / 16), .int .i64 vn, .string vs]) := H8.out.q.boxS HB.out.1 HB.out.2 H8.out.e (by decide) (by decide) 0 _
        have f9 : Full (W8.setCells R 0 [.int .i64 (k16 : Int), .int .i64 n2, .string xb, .int .i64 ((c.toNat : Int) / 16), .int .i64 vn, .string vs]) R 37 [.int .i64 (k16 : Int), .int .i64 n2, .string xb, .int .i64 ((c.toNat : Int) / 16), .int .i64 vn, .string vs] := Full.put (a := []) (b := EvZ) (d := []) [.int .i64 (k16 : Int), .int .i64 n2, .string xb, .int .i64 ((c.toNat : Int) / 16), .int .i64 vn, .string vs] H8.out.e rfl
        simp only [World.setCells, Nat.zero_add, Nat.reduceAdd] at q9 f9
        refine bodyPost_ret (ret_ev f9 rfl) rfl ?_
        have hm : (c.toNat : Int) % 16 = (k16 : Int) := by have := HX2.out.2.1; omega
        refine ⟨congrArg (fun l : List Value => Ending.returned (.agg l.toArray)) ?_, ?_⟩
        · unfold ec
          simp only
          rw [HX2.out.1, HN2.out, HV.out.1, HV.out.2.1, hm]
        · rw [HN2.out, HV.out.2.2]
          exact q9
      · have HR := rowOf_at wc ((c.toNat : Int) / 16) 4 (by omega) (by decide)
        simp only [rowV] at HR
        have HK : Hid ((c.toNat : Int) / 16 = 4) := by show (c.toNat : Int) / 16 = 4; omega
        clear hk
        obtain ⟨vn, hvn⟩ : ∃ x, (vlR 4 r3).1 = x := ⟨_, rfl⟩
        obtain ⟨vs, hvs⟩ : ∃ x : ByteArray, x.data.toList = (vlR 4 r3).2.1 := ⟨⟨(vlR 4 r3).2.1.toArray⟩, rfl⟩
        obtain ⟨r4, hr4⟩ : ∃ x, (vlR 4 r3).2.2 = x := ⟨_, rfl⟩
        have hsv := sV_at hvs
        have HV0 : Hid ((vlR 4 r3).1 = vn ∧ sV (vlR 4 r3).2.1 = .string vs ∧ (vlR 4 r3).2.2 = r4) := ⟨hvn, hsv, hr4⟩
        have HV : Hid ((vlR ((c.toNat : Int) / 16) r3).1 = vn ∧ sV (vlR ((c.toNat : Int) / 16) r3).2.1 = .string vs ∧ (vlR ((c.toNat : Int) / 16) r3).2.2 = r4) := by rw [HK.out]; exact HV0.out
        clear hvn hvs hr4 hsv
        go_wp2_with fail
        refine HR.mono ?_
        rintro e w5 ⟨rfl, hb5⟩
        clear HR
        obtain ⟨Y, hY⟩ : ∃ Y, w5.alloc (.cells #[.func (.func 86) #[] #[], .func (.func 87) #[] #[], .func (.func 88) #[] #[]] 102) = Y := ⟨_, rfl⟩
        obtain ⟨G, hG⟩ : ∃ G, w5.heap.size = G := ⟨_, rfl⟩
        have bY : Below wc.heap.size wc Y := by rw [← hY]; exact hb5.trans (((Below.refl _ w5).alloc (Nat.le_refl _) _).mono hb5.size)
        have iY : RvI B W P R ⟨n2, ns3, r3⟩ Y := HQ.out.1.step (RdQ.of HQ.out.1.q.out.1 bY)
        have fG : Full Y G 102 [.func (.func 86) #[] #[], .func (.func 87) #[] #[], .func (.func 88) #[] #[]] := by rw [← hG, ← hY]; exact Full.new w5 _ _
        have HC := read_4 iY.q.out.1 HX2.out.2.2
        simp only at HC
        rw [HV0.out.1, HV0.out.2.1, HV0.out.2.2] at HC
        obtain ⟨-, -, g2, -⟩ := fG.three
        have HY : Hid (RvI B W P R ⟨n2, ns3, r3⟩ Y ∧ Full Y E 37 [.int .i64 (k16 : Int), .int .i64 n2, .string xb, .int .i64 0, .int .i64 0, .string ⟨#[]⟩] ∧ W.heap.size ≤ E ∧ E ≠ R) := ⟨iY, HQ.out.2.1.next bY, HQ.out.2.2⟩
        clear bY fG iY HQ hb5
        go_wp2_with fail
        refine HC.mono ?_
        rintro e w6 ⟨rfl, hw6⟩
        have i6 := HY.out.1.step hw6
        have f6 := hw6.out.2.2 _ _ _ HY.out.2.1 (by decide) (by decide)
        clear HC hw6 g2 hY
        have i7 : RvI B W P R ⟨n2, ns3, r4⟩ (w6.setCells E 3 [.int .i64 0, .int .i64 vn, .string vs]) := ⟨i6.q.boxS HB.out.1 HY.out.2.2.1 f6 (by decide) (by decide) 3 _, i6.e.other (Ne.symm HY.out.2.2.2)⟩
        have f7 : Full (w6.setCells E 3 [.int .i64 0, .int .i64 vn, .string vs]) E 37 [.int .i64 (k16 : Int), .int .i64 n2, .string xb, .int .i64 0, .int .i64 vn, .string vs] := Full.put (a := [.int .i64 (k16 : Int), .int .i64 n2, .string xb]) (b := [.int .i64 0, .int .i64 0, .string ⟨#[]⟩]) (d := []) [.int .i64 0, .int .i64 vn, .string vs] f6 rfl
        obtain ⟨W7, hW7⟩ : ∃ W7, w6.setCells E 3 [.int .i64 0, .int .i64 vn, .string vs] = W7 := ⟨_, rfl⟩
        rw [hW7] at i7 f7
        simp only [World.setCells, Nat.reduceAdd] at hW7
        obtain ⟨-, ⟨p3, q3⟩, ⟨p4, q4⟩, p5, q5⟩ := f6.six2
        clear i6 f6
        have i8 : RvI B W P R ⟨n2, ns3, r4⟩ (W7.setCell ⟨E, 3, none⟩ (.int .i64 ((c.toNat : Int) / 16))) := ⟨i7.q.box HB.out.1 HY.out.2.2.1 f7 (by decide) (by decide) 3 _, i7.e.other1 (Ne.symm HY.out.2.2.2)⟩
        have f8 : Full (W7.setCell ⟨E, 3, none⟩ (.int .i64 ((c.toNat : Int) / 16))) E 37 [.int .i64 (k16 : Int), .int .i64 n2, .string xb, .int .i64 ((c.toNat : Int) / 16), .int .i64 vn, .string vs] := Full.put1 (a := [.int .i64 (k16 : Int), .int .i64 n2, .string xb]) (d := [.int .i64 vn, .string vs]) f7 _
        obtain ⟨W8, hW8⟩ : ∃ W8, W7.setCell ⟨E, 3, none⟩ (.int .i64 ((c.toNat : Int) / 16)) = W8 := ⟨_, rfl⟩
        rw [hW8] at i8 f8
        have H8 : Hid (RvI B W P R ⟨n2, ns3, r4⟩ W8) := i8
        obtain ⟨⟨⟨e0, f0⟩, ⟨e1, f1⟩, e2, f2⟩, ⟨e3, f3⟩, ⟨e4, f4⟩, e5, f5⟩ := f8.six2
        obtain ⟨⟨⟨s0, t0⟩, ⟨s1, t1⟩, s2, t2⟩, ⟨s3, t3⟩, ⟨s4, t4⟩, s5, t5⟩ := i8.e.six2
        obtain ⟨-, ⟨a3, b3⟩, -, -⟩ := f7.six2
        clear i7 f7 i8 f8
        go_wp2_with fail
        have q9 : RdQ B W P ⟨n2, ns3, r4⟩ (W8.setCells R 0 [.int .i64 (k16 : Int), .int .i64 n2, .string xb, .int .i64 ((c.toNat : Int) / 16), .int .i64 vn, .string vs]) := H8.out.q.boxS HB.out.1 HB.out.2 H8.out.e (by decide) (by decide) 0 _
        have f9 : Full (W8.setCells R 0 [.int .i64 (k16 : Int), .int .i64 n2, .string xb, .int .i64 ((c.toNat : Int) / 16), .int .i64 vn, .string vs]) R 37 [.int .i64 (k16 : Int), .int .i64 n2, .string xb, .int .i64 ((c.toNat : Int) / 16), .int .i64 vn, .string vs] := Full.put (a := []) (b := EvZ) (d := []) [.int .i64 (k16 : Int), .int .i64 n2, .string xb, .int .i64 ((c.toNat : Int) / 16), .int .i64 vn, .string vs] H8.out.e rfl
        simp only [World.setCells, Nat.zero_add, Nat.reduceAdd] at q9 f9
        refine bodyPost_ret (ret_ev f9 rfl) rfl ?_
        have hm : (c.toNat : Int) % 16 = (k16 : Int) := by have := HX2.out.2.1; omega
        refine ⟨congrArg (fun l : List Value => Ending.returned (.agg l.toArray)) ?_, ?_⟩
        · unfold ec
          simp only
          rw [HX2.out.1, HN2.out, HV.out.1, HV.out.2.1, hm]
        · rw [HN2.out, HV.out.2.2]
          exact q9
      · have HR := rowOf_any wc ((c.toNat : Int) / 16)
        have hno : ¬ (0 ≤ (c.toNat : Int) / 16 ∧ (c.toNat : Int) / 16 < 5) := by omega
        rw [if_neg hno, decide_eq_false hno] at HR
        simp only [rowV] at HR
        clear hno
        have HV : Hid ((vlR ((c.toNat : Int) / 16) r3).1 = 0 ∧ sV (vlR ((c.toNat : Int) / 16) r3).2.1 = .string ⟨#[]⟩ ∧ (vlR ((c.toNat : Int) / 16) r3).2.2 = r3) := by
          have e : vlR ((c.toNat : Int) / 16) r3 = (0, [], r3) := by
            unfold vlR
            rw [if_neg (by omega), if_neg (by omega), if_neg (by omega), if_neg (by omega)]
          rw [e]
          exact ⟨rfl, rfl, rfl⟩
        clear hk
        go_wp2_with fail
        refine HR.mono ?_
        rintro e w5 ⟨rfl, hb5⟩
        clear HR
        obtain ⟨Y0, hY0⟩ : ∃ Y, w5.alloc (.cells #[.nilFunc, .nilFunc, .nilFunc] 102) = Y := ⟨_, rfl⟩
        obtain ⟨G, hG⟩ : ∃ G, w5.heap.size = G := ⟨_, rfl⟩
        have bY0 : Below wc.heap.size wc Y0 := by rw [← hY0]; exact hb5.trans (((Below.refl _ w5).alloc (Nat.le_refl _) _).mono hb5.size)
        have fG : Full Y0 G 102 [.nilFunc, .nilFunc, .nilFunc] := by rw [← hG, ← hY0]; exact Full.new w5 _ _
        obtain ⟨⟨g0, z0⟩, ⟨g1, z1⟩, g2, z2⟩ := fG.three
        obtain ⟨Y, hY⟩ : ∃ Y, Y0.setCells G 0 [.nilFunc, .nilFunc, .nilFunc] = Y := ⟨_, rfl⟩
        have bY : Below wc.heap.size wc Y := by rw [← hY]; exact below_sets bY0 (by have := hb5.size; omega) 0 _
        simp only [World.setCells, Nat.zero_add, Nat.reduceAdd] at hY
        have iY : RvI B W P R ⟨n2, ns3, r3⟩ Y := HQ.out.1.step (RdQ.of HQ.out.1.q.out.1 bY)
        have i7 := iY
        have f7 := HQ.out.2.1.next bY
        have HY : Hid (True ∧ True ∧ W.heap.size ≤ E ∧ E ≠ R) := ⟨trivial, trivial, HQ.out.2.2⟩
        obtain ⟨W7, hW7⟩ : ∃ W7, Y = W7 := ⟨_, rfl⟩
        subst hW7
        clear bY iY HQ hb5
        have i8 : RvI B W P R ⟨n2, ns3, r3⟩ (Y.setCell ⟨E, 3, none⟩ (.int .i64 ((c.toNat : Int) / 16))) := ⟨i7.q.box HB.out.1 HY.out.2.2.1 f7 (by decide) (by decide) 3 _, i7.e.other1 (Ne.symm HY.out.2.2.2)⟩
        have f8 : Full (Y.setCell ⟨E, 3, none⟩ (.int .i64 ((c.toNat : Int) / 16))) E 37 [.int .i64 (k16 : Int), .int .i64 n2, .string xb, .int .i64 ((c.toNat : Int) / 16), .int .i64 0, .string ⟨#[]⟩] := Full.put1 (a := [.int .i64 (k16 : Int), .int .i64 n2, .string xb]) (d := [.int .i64 0, .string ⟨#[]⟩]) f7 _
        obtain ⟨W8, hW8⟩ : ∃ W8, Y.setCell ⟨E, 3, none⟩ (.int .i64 ((c.toNat : Int) / 16)) = W8 := ⟨_, rfl⟩
        rw [hW8] at i8 f8
        have H8 : Hid (RvI B W P R ⟨n2, ns3, r3⟩ W8) := i8
        obtain ⟨⟨⟨e0, f0⟩, ⟨e1, f1⟩, e2, f2⟩, ⟨e3, f3⟩, ⟨e4, f4⟩, e5, f5⟩ := f8.six2
        obtain ⟨⟨⟨s0, t0⟩, ⟨s1, t1⟩, s2, t2⟩, ⟨s3, t3⟩, ⟨s4, t4⟩, s5, t5⟩ := i8.e.six2
        obtain ⟨-, ⟨a3, b3⟩, -, -⟩ := f7.six2
        clear i7 f7 i8 f8
        go_wp2_with fail
        have q9 : RdQ B W P ⟨n2, ns3, r3⟩ (W8.setCells R 0 [.int .i64 (k16 : Int), .int .i64 n2, .string xb, .int .i64 ((c.toNat : Int) / 16), .int .i64 0, .string ⟨#[]⟩]) := H8.out.q.boxS HB.out.1 HB.out.2 H8.out.e (by decide) (by decide) 0 _
        have f9 : Full (W8.setCells R 0 [.int .i64 (k16 : Int), .int .i64 n2, .string xb, .int .i64 ((c.toNat : Int) / 16), .int .i64 0, .string ⟨#[]⟩]) R 37 [.int .i64 (k16 : Int), .int .i64 n2, .string xb, .int .i64 ((c.toNat : Int) / 16), .int .i64 0, .string ⟨#[]⟩] := Full.put (a := []) (b := EvZ) (d := []) [.int .i64 (k16 : Int), .int .i64 n2, .string xb, .int .i64 ((c.toNat : Int) / 16), .int .i64 0, .string ⟨#[]⟩] H8.out.e rfl
        simp only [World.setCells, Nat.zero_add, Nat.reduceAdd] at q9 f9
        refine bodyPost_ret (ret_ev f9 rfl) rfl ?_
        have hm : (c.toNat : Int) % 16 = (k16 : Int) := by have := HX2.out.2.1; omega
        refine ⟨congrArg (fun l : List Value => Ending.returned (.agg l.toArray)) ?_, ?_⟩
        · unfold ec
          simp only
          rw [HX2.out.1, HN2.out, HV.out.1, HV.out.2.1, hm]
        · rw [HN2.out, HV.out.2.2]
          exact q9
end
end Go.Proofs.YtdmiciblfbkndaaDoor
