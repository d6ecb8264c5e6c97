import Derived.Test.YtahdkffijlfmnaaGreatDoorT30
import Derived.Test.YtahdkffijlfmnaaGreatDoorT29
import Derived.Test.YtahdkffijlfmnaaGreatDoorT28
import Derived.Test.YtahdkffijlfmnaaGreatDoorT14
import Derived.Test.YtahdkffijlfmnaaGreatDoorT24
namespace Go.Proofs.YtahdkffijlfmnaaGreatDoor
open Go.RowKit
open Hp (V vc vcs)
theorem frOk_len' {K : Cg} {f : Fr} (hK : KOk K) (h : FrOk K f) : f.sl.length ≤ 250 := by
  obtain ⟨i, -, hi, e⟩ := h.fn
  rw [e]
  have hm : K.Es[i].1 ∈ K.c.ens := by
    rw [← hK.en]
    exact List.mem_map.2 ⟨_, List.getElem_mem hi, rfl⟩
  have := hK.c.es _ hm
  unfold entS at this
  simp only [Bool.and_eq_true, decide_eq_true_eq] at this
  omega
theorem callHC (a : Value) (w : World) : (callFunc 35 #[a]).run Tryz.prog w = .ok (.enter 35 #[a]) w := by kernel_rfl
theorem callBy (a : Value) (w : World) : (callFunc 36 #[a]).run Tryz.prog w = .ok (.enter 36 #[a]) w := by kernel_rfl
theorem callCopied' (a : Value) (w : World) : (callFunc 23 #[a]).run Tryz.prog w = .ok (.enter 23 #[a]) w := by kernel_rfl
theorem callInt64' (a : Value) (w : World) : (callFunc 24 #[a]).run Tryz.prog w = .ok (.enter 24 #[a]) w := by kernel_rfl
set_option maxRecDepth 100000 in
set_option maxHeartbeats 2000000 in
theorem MachM.clone {w : World} {g : Nat} {K : Cg} {S : Ms} {L : List Fm} {fv ov : Value} {F Q : Nat → Prop} (h : MachM w g K S L fv ov F Q) (hK : KOk K) (hS : StOk K S) (ho : S.out.length ≤ 900000000) :
    Calls Tryz.prog 16 #[.pointer (some ⟨g, 0, none⟩)] w fun z w' => z = .returned (.pointer (some ⟨w.heap.size, 0, none⟩)) ∧ Hid (∃ K' L' fv' ov' F' Q', MachM w' w.heap.size K' S L' fv' ov' F' Q' ∧ KOk K' ∧ (K'.c = K.c ∧ K'.inp = K.inp ∧ K'.dep = K.dep ∧ K'.lim = K.lim) ∧ (∀ b, foot L' fv' ov' F' b ∨ Q' b → w.heap.size ≤ b) ∧ Below w.heap.size w w') := by
  obtain ⟨fq, fcap, hfv, -, -⟩ := rown_slice h.fr
  obtain ⟨oq, ocap, hov, -, -⟩ := rown_slice h.out
  have hll : L.length = S.fs.length := by rw [← h.abs, List.length_map]
  rw [hll] at hfv
  subst hfv hov
  obtain ⟨u, r, a, ⟨rq, rn, rfl⟩, ⟨aq, an, ac, rfl⟩, hcl⟩ := h.full
  have HCL : Hid _ := hcl
  have HM : Hid (∀ W, Below w.heap.size w W → MachM W g K S L (.slice fq S.fs.length fcap) (.slice oq S.out.length ocap) F Q) := fun W b => h.next b
  have c0 := hcl w (Below.refl _ w) 0 _ rfl
  have c1 := hcl w (Below.refl _ w) 1 _ rfl
  have c2 := hcl w (Below.refl _ w) 2 _ rfl
  have c3 := hcl w (Below.refl _ w) 3 _ rfl
  have c4 := hcl w (Below.refl _ w) 4 _ rfl
  have c5 := hcl w (Below.refl _ w) 5 _ rfl
  have c6 := hcl w (Below.refl _ w) 6 _ rfl
  have c7 := hcl w (Below.refl _ w) 7 _ rfl
  have c8 := hcl w (Below.refl _ w) 8 _ rfl
  have c9 := hcl w (Below.refl _ w) 9 _ rfl
  have c10 := hcl w (Below.refl _ w) 10 _ rfl
  have c11 := hcl w (Below.refl _ w) 11 _ rfl
  have c12 := hcl w (Below.refl _ w) 12 _ rfl
  have c13 := hcl w (Below.refl _ w) 13 _ rfl
  have c14 := hcl w (Below.refl _ w) 14 _ rfl
  have c15 := hcl w (Below.refl _ w) 15 _ rfl
  have c16 := hcl w (Below.refl _ w) 16 _ rfl
  have HPO : Hid (∀ W, Below w.heap.size w W → (Calls Tryz.prog 23 #[.agg #[.slice K.iq K.c.ins.length K.ia, .slice K.eq K.c.ens.length K.ea, .slice K.tq K.c.txs.length K.ta, .int .i64 K.c.main]] W fun z w' => ∃ q5 k5 q6 k6 q7 k7, z = .returned (.agg #[.slice q5 K.c.ins.length k5, .slice q6 K.c.ens.length k6, .slice q7 K.c.txs.length k7, .int .i64 K.c.main]) ∧ Hid ((∃ M, CdN w' W.heap.size q5 q6 q7 M K.c) ∧ Below W.heap.size W w')) ∧ (Calls Tryz.prog 24 #[.slice K.nq K.inp.length K.na] W fun z w' => ∃ v', z = .returned v' ∧ Hid (w'.ownsRow W.heap.size 2 1 v' K.inp.length (sv K.inp)) ∧ Below W.heap.size W w')) := fun W b => by
    have q := (HM.out W b).code
    have hi := hK.inp
    exact ⟨copiedCode_any ⟨q.en, rds_rowq q.ir, rds_rowq q.er, rds_rowq q.tr, fun x hx => rds_rowq (q.sr x hx)⟩ hK.c, cloneInt64_any (rds_rowq q.nr) (by rw [sv_len]; omega) (sv_one _) (by omega)⟩
  have SV : Hid (∀ W, Below w.heap.size w W → W.cell? ⟨g, 0, none⟩ = some (.slice K.iq K.c.ins.length K.ia) ∧ W.cell? ⟨g, 1, none⟩ = some (.slice K.eq K.c.ens.length K.ea) ∧ W.cell? ⟨g, 2, none⟩ = some (.slice K.tq K.c.txs.length K.ta) ∧ W.cell? ⟨g, 3, none⟩ = some (.int .i64 K.c.main) ∧ W.cell? ⟨g, 4, none⟩ = some (.slice K.nq K.inp.length K.na)) := fun W b => ⟨HCL.out W b 0 _ rfl, HCL.out W b 1 _ rfl, HCL.out W b 2 _ rfl, HCL.out W b 3 _ rfl, HCL.out W b 4 _ rfl⟩
  clear hcl h
  go_enter Tryz.func16, Tryz.ntmps16
  go_wp2_with fail
  have bX : Below w.heap.size w (w.alloc (.cells #[.slice K.iq K.c.ins.length K.ia, .slice K.eq K.c.ens.length K.ea, .slice K.tq K.c.txs.length K.ta, .int .i64 K.c.main, .slice K.nq K.inp.length K.na, .int .i64 K.dep, .int .i64 (K.lim : Int), .slice fq S.fs.length fcap, .int .i64 (K.lim : Int), .int .i64 (u : Int), .slice rq rn rn, .slice aq an ac, .int .i64 (S.rd : Int), .slice oq S.out.length ocap, .int .i64 S.steps, .int .i64 S.ph, .int .i64 S.tr] 82)) := (Below.refl _ w).alloc (Nat.le_refl _) _
  have fX := Full.new w #[.slice K.iq K.c.ins.length K.ia, .slice K.eq K.c.ens.length K.ea, .slice K.tq K.c.txs.length K.ta, .int .i64 K.c.main, .slice K.nq K.inp.length K.na, .int .i64 K.dep, .int .i64 (K.lim : Int), .slice fq S.fs.length fcap, .int .i64 (K.lim : Int), .int .i64 (u : Int), .slice rq rn rn, .slice aq an ac, .int .i64 (S.rd : Int), .slice oq S.out.length ocap, .int .i64 S.steps, .int .i64 S.ph, .int .i64 S.tr] 82
  have hXs := World.size_alloc w (.cells #[.slice K.iq K.c.ins.length K.ia, .slice K.eq K.c.ens.length K.ea, .slice K.tq K.c.txs.length K.ta, .int .i64 K.c.main, .slice K.nq K.inp.length K.na, .int .i64 K.dep, .int .i64 (K.lim : Int), .slice fq S.fs.length fcap, .int .i64 (K.lim : Int), .int .i64 (u : Int), .slice rq rn rn, .slice aq an ac, .int .i64 (S.rd : Int), .slice oq S.out.length ocap, .int .i64 S.steps, .int .i64 S.ph, .int .i64 S.tr] 82)
  generalize w.alloc (.cells #[.slice K.iq K.c.ins.length K.ia, .slice K.eq K.c.ens.length K.ea, .slice K.tq K.c.txs.length K.ta, .int .i64 K.c.main, .slice K.nq K.inp.length K.na, .int .i64 K.dep, .int .i64 (K.lim : Int), .slice fq S.fs.length fcap, .int .i64 (K.lim : Int), .int .i64 (u : Int), .slice rq rn rn, .slice aq an ac, .int .i64 (S.rd : Int), .slice oq S.out.length ocap, .int .i64 S.steps, .int .i64 S.ph, .int .i64 S.tr] 82) = X at bX fX hXs ⊢
  clear c0 c1 c2 c3 c4 c5 c6 c7 c8 c9 c10 c11 c12 c13 c14 c15 c16
  have HBX : Hid (Below w.heap.size w X) := bX
  have HXD : Hid (Below w.heap.size w X.drew) := bX.drew
  have HST : Hid (∀ W, Below X.heap.size X W → (W.frozen? ⟨w.heap.size, 0, none⟩ = false ∧ W.frozen? ⟨w.heap.size, 1, none⟩ = false ∧ W.frozen? ⟨w.heap.size, 2, none⟩ = false ∧ W.frozen? ⟨w.heap.size, 3, none⟩ = false ∧ W.frozen? ⟨w.heap.size, 4, none⟩ = false) ∧ W.cell? ⟨w.heap.size, 0, none⟩ = some (.slice K.iq K.c.ins.length K.ia) ∧ W.cell? ⟨w.heap.size, 1, none⟩ = some (.slice K.eq K.c.ens.length K.ea) ∧ W.cell? ⟨w.heap.size, 2, none⟩ = some (.slice K.tq K.c.txs.length K.ta) ∧ W.cell? ⟨w.heap.size, 3, none⟩ = some (.int .i64 K.c.main) ∧ W.cell? ⟨w.heap.size, 4, none⟩ = some (.slice K.nq K.inp.length K.na)) := fun W b => by
    have f := fX.next b
    exact ⟨⟨(f.cell 0 _ rfl).2, (f.cell 1 _ rfl).2, (f.cell 2 _ rfl).2, (f.cell 3 _ rfl).2, (f.cell 4 _ rfl).2⟩, (f.cell 0 _ rfl).1, (f.cell 1 _ rfl).1, (f.cell 2 _ rfl).1, (f.cell 3 _ rfl).1, (f.cell 4 _ rfl).1⟩
  have HMK : Hid (∀ w5 w6 q5 k5 q6 k6 q7 k7 qn kn, Hid ((∃ M, CdN w5 X.drew.heap.size q5 q6 q7 M K.c) ∧ Below X.drew.heap.size X.drew w5) → Hid (w6.ownsRow w5.heap.size 2 1 (.slice qn K.inp.length kn) K.inp.length (sv K.inp)) → Hid (Below w5.heap.size w5 w6) → ∃ K2, ClC w (w6.setCells w.heap.size 0 [.slice q5 K.c.ins.length k5, .slice q6 K.c.ens.length k6, .slice q7 K.c.txs.length k7, .int .i64 K.c.main, .slice qn K.inp.length kn]) K K2 S (.slice fq S.fs.length fcap) (.int .i64 (u : Int)) (.slice rq rn rn) (.slice aq an ac) (.slice oq S.out.length ocap) w6.heap.size) := fun w5 w6 q5 k5 q6 k6 q7 k7 qn kn H5 H6 B6 => ClC.mk2 hK bX hXs fX rfl ⟨H5.out.1, below2 (Below.refl _ X).drew H5.out.2⟩ H6.out B6.out
  clear bX fX
  go_cut [0, 3] (fun u0 u3 wx => u0 = .pointer (some ⟨g, 0, none⟩) ∧ u3 = .pointer (some ⟨w.heap.size, 0, none⟩) ∧ ∃ K2 E, Hid (ClC w wx K K2 S (.slice fq S.fs.length fcap) (.int .i64 (u : Int)) (.slice rq rn rn) (.slice aq an ac) (.slice oq S.out.length ocap) E))
  case first =>
    obtain ⟨s0, s1, s2, s3, s4⟩ := SV.out _ HXD.out
    have d1 := (HPO.out X.drew HXD.out).1
    go_region_law (first
      | (refine step_call (by rfl) 23 [.tmp 12] _ [.agg #[.slice K.iq K.c.ins.length K.ia, .slice K.eq K.c.ens.length K.ea, .slice K.tq K.c.txs.length K.ta, .int .i64 K.c.main]] (by rfl) (by rfl) (callCopied' _) (fun v w' => ∃ q5 k5 q6 k6 q7 k7, v = .agg #[.slice q5 K.c.ins.length k5, .slice q6 K.c.ens.length k6, .slice q7 K.c.txs.length k7, .int .i64 K.c.main] ∧ Hid ((∃ M, CdN w' X.drew.heap.size q5 q6 q7 M K.c) ∧ Below X.drew.heap.size X.drew w')) (d1.mono fun _ _ q => by (obtain ⟨q5, k5, q6, k6, q7, k7, r1, r2⟩ := q; exact ⟨_, r1, q5, k5, q6, k6, q7, k7, rfl, r2⟩)) ?_; rintro v5 w5 ⟨q5, k5, q6, k6, q7, k7, rfl, H5⟩; have HB5 : Hid (Below w.heap.size w w5) := below2 HXD.out H5.out.2; obtain ⟨t0, t1, t2, t3, t4⟩ := SV.out _ HB5.out; have d5 := (HPO.out w5 HB5.out).2)
      | (refine step_call (by rfl) 24 [.tmp 17] _ [.slice K.nq K.inp.length K.na] (by rfl) (by rfl) (callInt64' _) (fun v w' => Hid (w'.ownsRow w5.heap.size 2 1 v K.inp.length (sv K.inp)) ∧ Hid (Below w5.heap.size w5 w')) (d5.mono fun _ _ q => by (obtain ⟨v, q1, q2, q3⟩ := q; exact ⟨v, q1, q2, q3⟩)) ?_; rintro v6 w6 ⟨H6, B6⟩; obtain ⟨qn, kn, e6, -, -⟩ := own_slice H6.out; subst e6; have HXB6 : Hid (Below X.heap.size X w6) := below2 (below2 (Below.refl _ X).drew H5.out.2) B6.out; obtain ⟨⟨z0, z1, z2, z3, z4⟩, y0, y1, y2, y3, y4⟩ := HST.out _ HXB6.out))
    all_goals
      clear s0 s1 s2 s3 s4 t0 t1 t2 t3 t4 y0 y1 y2 y3 y4 z0 z1 z2 z3 z4 d1 d5
      go_wp2_with fail
      go_meet
      obtain ⟨K2, hK2⟩ := HMK.out w5 w6 q5 k5 q6 k6 q7 k7 qn kn H5 H6 B6
      exact ⟨rfl, rfl, K2, _, hK2⟩
  case rest =>
    obtain ⟨rfl, rfl, K2, E, HI⟩ := hcut
    clear HMK HST HXD HBX HPO hXs
    have k7 := HCL.out wc HI.out.bl 7 _ rfl
    have hMc := HM.out wc HI.out.bl
    have hfr := hMc.fr
    rw [hll] at hfr
    have dF := cloneFrame_any (rds_own hfr) (by rw [flat_lenF fmc 4 (fun _ => rfl), hll]) (fmc_one hMc.rows) (by have := hS.dp; have := hK.d2; omega)
    obtain ⟨t7, z7⟩ := HI.out.tw.cell 7 _ rfl
    clear hfr hMc
    go_wp2_with (first
      | (go_at_call 33; refine dF.mono ?_; rintro e1 w1 ⟨v1, rfl, ho1, hb1⟩; obtain ⟨fq2, fc2, e2, -, -⟩ := own_slice ho1.out; subst e2; have HI1 : Hid (ClC w w1 K K2 S (.slice fq S.fs.length fcap) (.int .i64 (u : Int)) (.slice rq rn rn) (.slice aq an ac) (.slice oq S.out.length ocap) E) := HI.out.next hb1; obtain ⟨x7, y7⟩ := HI1.out.tw.cell 7 _ rfl; have hBz : Below w.heap.size w (w1.setCell ⟨w.heap.size, 7, none⟩ (.slice fq2 S.fs.length fc2)) := HI1.out.bl.setCell (p := ⟨w.heap.size, 7, none⟩) (Nat.le_refl _) _; have k7b := HCL.out _ hBz 7 _ rfl; have HF0 : Hid _ := ClF.start HI.out ho1.out hb1 hll)
      | fail)
    have HSt : Hid (StOk K S) := hS
    have HKk : Hid (KOk K) := hK
    have HLL : Hid (L.length = S.fs.length) := hll
    have HN : Hid (S.fs.length ≤ 1000) := by have := hS.dp; have := hK.d2; show _ ≤ _; omega
    clear HI HI1 k7 k7b t7 z7 x7 y7 hBz hb1 ho1 dF hll hK hS
    go_loopw [32] (fun v wr => ∃ j : Nat, j ≤ S.fs.length ∧ v = .int .i64 (j : Int) ∧ Hid (ClF w wr K K2 S L (.int .i64 (u : Int)) (.slice rq rn rn) (.slice aq an ac) (.slice oq S.out.length ocap) E fq2 fc2 wc.heap.size w1.heap.size j)) (fun v _ => S.fs.length - (intOf v).toNat)
    case atStart => exact ⟨0, Nat.zero_le _, rfl, HF0⟩
    case round =>
      clear HF0
      obtain ⟨j, hj, rfl, hI⟩ := hrel
      have j0 : (0 : Int) ≤ (j : Int) := Int.natCast_nonneg _
      by_cases hlt : j < S.fs.length
      case neg =>
        obtain rfl : j = S.fs.length := by omega
        have HIW : Hid (ClF w wr K K2 S L (.int .i64 (u : Int)) (.slice rq rn rn) (.slice aq an ac) (.slice oq S.out.length ocap) E fq2 fc2 wc.heap.size w1.heap.size S.fs.length) := hI
        have b0 : Below wr.heap.size wr wr.drew := (Below.refl _ wr).drew
        have HX0 : Hid (ClF w wr.drew K K2 S L (.int .i64 (u : Int)) (.slice rq rn rn) (.slice aq an ac) (.slice oq S.out.length ocap) E fq2 fc2 wc.heap.size w1.heap.size S.fs.length) := HIW.out.next b0
        obtain ⟨gz, hgz⟩ : ∃ gz, wr.drew.heap.size = gz := ⟨_, rfl⟩
        have HHC : Hid (∀ W z, Below w.heap.size w W → W.heap.size = z → Calls Tryz.prog 35 #[.pointer (some ⟨g, 8, none⟩)] W fun e w' => e = .returned (.pointer (some ⟨z, 0, none⟩)) ∧ Hid (∃ F', Hp.HeapOf w' (Hp.hz z) K.lim S.hp F' ∧ (∀ b, F' b → z ≤ b) ∧ Below W.heap.size W w')) := fun W z b hz => by
          subst hz
          have q := Hp.clone_heap (HM.out W b).heap
          exact q
        have HOC : Hid (∀ W, Below w.heap.size w W → Calls Tryz.prog 36 #[.slice oq S.out.length ocap] W fun z w' => ∃ v', z = .returned v' ∧ Hid (w'.ownsRow W.heap.size 5 1 v' S.out.length (Hp.bv S.out)) ∧ Below W.heap.size W w') := fun W b => cloneByte_any (rds_own (HM.out W b).out) (by rw [Hp.bv_len]; omega) (Hp.bv_one _) (by omega)
        have SV2 : Hid (∀ W, Below w.heap.size w W → W.cell? ⟨g, 13, none⟩ = some (.slice oq S.out.length ocap)) := fun W b => HCL.out W b 13 _ rfl
        have HTW : Hid (∀ W, ClF w W K K2 S L (.int .i64 (u : Int)) (.slice rq rn rn) (.slice aq an ac) (.slice oq S.out.length ocap) E fq2 fc2 wc.heap.size w1.heap.size S.fs.length → (W.cell? ⟨w.heap.size, 8, none⟩ = some (.int .i64 (K.lim : Int)) ∧ W.cell? ⟨w.heap.size, 9, none⟩ = some (.int .i64 (u : Int)) ∧ W.cell? ⟨w.heap.size, 10, none⟩ = some (.slice rq rn rn) ∧ W.cell? ⟨w.heap.size, 11, none⟩ = some (.slice aq an ac) ∧ W.cell? ⟨w.heap.size, 13, none⟩ = some (.slice oq S.out.length ocap)) ∧ W.frozen? ⟨w.heap.size, 8, none⟩ = false ∧ W.frozen? ⟨w.heap.size, 9, none⟩ = false ∧ W.frozen? ⟨w.heap.size, 10, none⟩ = false ∧ W.frozen? ⟨w.heap.size, 11, none⟩ = false ∧ W.frozen? ⟨w.heap.size, 13, none⟩ = false) := fun W h => by
          have f := h.c.tw
          exact ⟨⟨(f.cell 8 _ rfl).1, (f.cell 9 _ rfl).1, (f.cell 10 _ rfl).1, (f.cell 11 _ rfl).1, (f.cell 13 _ rfl).1⟩, (f.cell 8 _ rfl).2, (f.cell 9 _ rfl).2, (f.cell 10 _ rfl).2, (f.cell 11 _ rfl).2, (f.cell 13 _ rfl).2⟩
        have HAB : Hid (L.map (·.f) = S.fs) := (HM.out w (Below.refl _ w)).abs
        have HB0 : Hid (Below w.heap.size w wr.drew) := HX0.out.c.bl
        have hIc := hI
        clear hI hIc
        go_wp2_with fail
        have s13 := SV2.out wr.drew HB0.out
        have d1 := HHC.out wr.drew gz HB0.out hgz
        go_region_law (first
          | (refine step_call (by rfl) 35 [.tmp 56] _ [.pointer (some ⟨g, 8, none⟩)] (by rfl) (by rfl) (callHC _) (fun v w' => v = .pointer (some ⟨gz, 0, none⟩) ∧ Hid (∃ F', Hp.HeapOf w' (Hp.hz gz) K.lim S.hp F' ∧ (∀ b, F' b → gz ≤ b) ∧ Below wr.drew.heap.size wr.drew w')) (d1.mono fun _ _ q => ⟨_, q.1, rfl, q.2⟩) ?_; rintro v5 w5 ⟨rfl, H5⟩; obtain ⟨Fh, ⟨As, rq5, rn5, rg5, ro5, av5, hA5, hh5⟩, hF5, hb5⟩ := H5.out; obtain ⟨aq5, ac5, ea5, -, -⟩ := own_slice hh5.arrs; subst ea5; have n0 : w5.cell? ⟨gz, 0, none⟩ = some (.int .i64 (K.lim : Int)) := hh5.c0; have n1 : w5.cell? ⟨gz, 1, none⟩ = some (.int .i64 (Hp.usedS (Hp.absA As) : Int)) := hh5.c1; have n2 : w5.cell? ⟨gz, 2, none⟩ = some (.slice rq5 rn5 rn5) := hh5.c2; have n3 : w5.cell? ⟨gz, 3, none⟩ = some (.slice aq5 As.length ac5) := hh5.c3; have HX5 : Hid _ := HX0.out.next hb5; have HB5 : Hid (Below w.heap.size w w5) := below2 HB0.out hb5; have t13 := SV2.out w5 HB5.out; have d5 := HOC.out w5 HB5.out; have HHH : Hid _ := hh5; have HHF : Hid (∀ b, Fh b → gz ≤ b) := hF5; have HHA : Hid (Hp.absA As = S.hp) := hA5; have HHB : Hid _ := hb5; clear hh5 hF5 hA5 hb5 H5)
          | (refine step_call (by rfl) 36 [.tmp 63] _ [.slice oq S.out.length ocap] (by rfl) (by rfl) (callBy _) (fun v w' => Hid (w'.ownsRow w5.heap.size 5 1 v S.out.length (Hp.bv S.out)) ∧ Hid (Below w5.heap.size w5 w')) (d5.mono fun _ _ q => by (obtain ⟨v, q1, q2, q3⟩ := q; exact ⟨v, q1, q2, q3⟩)) ?_; rintro v6 w6 ⟨H6, B6⟩; obtain ⟨q6, k6, e6, -, -⟩ := own_slice H6.out; subst e6; have HX6 : Hid _ := HX5.out.next B6.out; obtain ⟨⟨y8, y9, y10, y11, y13⟩, z8, z9, z10, z11, z13⟩ := HTW.out w6 HX6.out; have m0 := (B6.out.cell (p := ⟨gz, 0, none⟩) (block_lt_of_cell n0)).trans n0; have m1 := (B6.out.cell (p := ⟨gz, 1, none⟩) (block_lt_of_cell n1)).trans n1; have m2 := (B6.out.cell (p := ⟨gz, 2, none⟩) (block_lt_of_cell n2)).trans n2; have m3 := (B6.out.cell (p := ⟨gz, 3, none⟩) (block_lt_of_cell n3)).trans n3))
        all_goals
          have HFI : Hid (ClD w (((((w6.setCell ⟨w.heap.size, 8, none⟩ (.int .i64 (K.lim : Int))).setCell ⟨w.heap.size, 9, none⟩ (.int .i64 (Hp.usedS (Hp.absA As) : Int))).setCell ⟨w.heap.size, 10, none⟩ (.slice rq5 rn5 rn5)).setCell ⟨w.heap.size, 11, none⟩ (.slice aq5 As.length ac5)).setCell ⟨w.heap.size, 13, none⟩ (.slice q6 S.out.length k6)) K S) := by
            subst hgz
            exact ClF.done HX0.out HAB.out HHH.out HHA.out HHF.out HHB.out H6.out B6.out
          clear s13 t13 d1 d5 n0 n1 n2 n3 m0 m1 m2 m3 y8 y9 y10 y11 y13 z8 z9 z10 z11 z13
          generalize ((((w6.setCell ⟨w.heap.size, 8, none⟩ (.int .i64 (K.lim : Int))).setCell ⟨w.heap.size, 9, none⟩ (.int .i64 (Hp.usedS (Hp.absA As) : Int))).setCell ⟨w.heap.size, 10, none⟩ (.slice rq5 rn5 rn5)).setCell ⟨w.heap.size, 11, none⟩ (.slice aq5 As.length ac5)).setCell ⟨w.heap.size, 13, none⟩ (.slice q6 S.out.length k6) = WF at HFI ⊢
          go_wp2
          go_ret
          exact ⟨rfl, HFI.out⟩
      have j1 : (j : Int) < (S.fs.length : Int) := Int.ofNat_lt.2 hlt
      have hw : IntKind.i64.wrap ((j : Int) + 1) = ((j + 1 : Nat) : Int) := by have := HN.out; rw [IntKind.wrap_i64]; omega
      have hjL : j < L.length := by rw [HLL.out]; exact hlt
      obtain ⟨m, hm⟩ : ∃ m, L[j]? = some m := ⟨_, List.getElem?_eq_getElem hjL⟩
      have hMr := HM.out wr hI.out.c.bl
      have hmem : m ∈ L := List.mem_of_getElem? hm
      have hfo : FrOk K m.f := HSt.out.fr _ (by rw [← hMr.abs]; exact List.mem_map_of_mem hmem)
      obtain ⟨gf, fcap2, efv, -, hfc, -⟩ := hMr.fc (by omega)
      obtain ⟨f0, f1, f2, f3⟩ := hfc j m hm
      obtain ⟨sq, sc, esv, -, -⟩ := rown_slice (hMr.rows m hmem).1
      obtain ⟨tq, tc, etv, -, -⟩ := rown_slice (hMr.rows m hmem).2
      rw [esv] at f2
      rw [etv] at f3
      rw [HLL.out] at efv
      cases efv
      have HCV : Hid (∀ W, Below w.heap.size w W → (Calls Tryz.prog 34 #[.slice sq m.f.sl.length sc] W fun z w' => ∃ v', z = .returned v' ∧ Hid (w'.ownsRow W.heap.size 52 3 v' m.f.sl.length (vcs m.f.sl)) ∧ Below W.heap.size W w') ∧ (Calls Tryz.prog 34 #[.slice tq m.f.st.length tc] W fun z w' => ∃ v', z = .returned v' ∧ Hid (w'.ownsRow W.heap.size 52 3 v' m.f.st.length (vcs m.f.st)) ∧ Below W.heap.size W w')) := fun W b => by
        have q := (HM.out W b).rows m hmem
        rw [esv, etv] at q
        have h250 := frOk_len' HKk.out hfo
        have h400 := hfo.ln
        exact ⟨copiedValues_any (rds_own q.1) (fun v hv => (hfo.sl v hv).1) (by omega), copiedValues_any (rds_own q.2) (fun v hv => (hfo.st v hv).1) (by omega)⟩
      have hgN : ∃ gN, fq2 = some ⟨gN, 0, none⟩ := by
        obtain ⟨L', a1, -⟩ := hI.out.ex
        obtain ⟨q', c', e', -, hq⟩ := own_slice a1
        cases e'
        obtain ⟨gN, e, -⟩ := hq (by omega)
        exact ⟨gN, e⟩
      obtain ⟨gN, rfl⟩ := hgN
      have HCE : Hid (∀ W, ClF w W K K2 S L (.int .i64 (u : Int)) (.slice rq rn rn) (.slice aq an ac) (.slice oq S.out.length ocap) E (some ⟨gN, 0, none⟩) fc2 wc.heap.size w1.heap.size j → W.cell? ⟨w.heap.size, 7, none⟩ = some (.slice (some ⟨gN, 0, none⟩) S.fs.length fc2) ∧ (W.cell? ⟨gN, j * 4 + 2, none⟩ = some (.slice sq m.f.sl.length sc) ∧ W.cell? ⟨gN, j * 4 + 3, none⟩ = some (.slice tq m.f.st.length tc)) ∧ W.frozen? ⟨gN, j * 4 + 2, none⟩ = false ∧ W.frozen? ⟨gN, j * 4 + 3, none⟩ = false ∧ w.heap.size ≠ gN) := fun W hW => by
        obtain ⟨L', a1, a2, a3, a4, a5, -⟩ := hW.ex
        have hMj : L'[j]? = some m := (a5 j (Nat.le_refl _)).trans hm
        obtain ⟨hjl, hjm⟩ := List.getElem?_eq_some_iff.1 hMj
        have hb := own_blk a1 gN rfl
        have hge := own_ge a1 gN rfl
        have he0 := hW.e0
        have hlt2 := hW.c.lt
        have cc : ∀ i, i < 4 → W.cell? ⟨gN, j * 4 + i, none⟩ = (fmc m)[i]? := fun i hi => by
          rw [← hjm]
          exact (a1.cellAt (j * 4 + i) (by omega)).trans (flat_at fmc 4 (fun _ => rfl) L' j i hjl hi)
        refine ⟨(hW.c.tw.cell 7 _ rfl).1, ⟨by rw [← esv]; exact cc 2 (by decide), by rw [← etv]; exact cc 3 (by decide)⟩, hb.unfrozen _, hb.unfrozen _, by omega⟩
      have HXC : Hid (ClF w (wr.alloc (.cells #[.int .i64 m.f.fn, .int .i64 m.f.pc, .slice sq m.f.sl.length sc, .slice tq m.f.st.length tc] 89)) K K2 S L (.int .i64 (u : Int)) (.slice rq rn rn) (.slice aq an ac) (.slice oq S.out.length ocap) E (some ⟨gN, 0, none⟩) fc2 wc.heap.size w1.heap.size j) := hI.out.next ((Below.refl _ wr).alloc (Nat.le_refl _) _)
      have fE := Full.new wr #[.int .i64 m.f.fn, .int .i64 m.f.pc, .slice sq m.f.sl.length sc, .slice tq m.f.st.length tc] 89
      have hgw : gN < wr.heap.size := by
        obtain ⟨L', a1, -⟩ := hI.out.ex
        exact (own_blk a1 gN rfl).lt
      have HPU : Hid (∀ W0 W1 W v5 v6, ClF w W0 K K2 S L (.int .i64 (u : Int)) (.slice rq rn rn) (.slice aq an ac) (.slice oq S.out.length ocap) E (some ⟨gN, 0, none⟩) fc2 wc.heap.size w1.heap.size j → Below W0.heap.size W0 W1 → Below W1.heap.size W1 W → W1.ownsRow W0.heap.size 52 3 v5 m.f.sl.length (vcs m.f.sl) → W.ownsRow W1.heap.size 52 3 v6 m.f.st.length (vcs m.f.st) → ClF w ((W.setCell ⟨gN, j * 4 + 2, none⟩ v5).setCell ⟨gN, j * 4 + 3, none⟩ v6) K K2 S L (.int .i64 (u : Int)) (.slice rq rn rn) (.slice aq an ac) (.slice oq S.out.length ocap) E (some ⟨gN, 0, none⟩) fc2 wc.heap.size w1.heap.size (j + 1)) := fun W0 W1 W v5 v6 h0 b0 b1 hs ht => by
        obtain ⟨gf', e, r⟩ := h0.put hm hlt b0 b1 hs ht
        cases e
        exact r
      clear hMr hfc esv etv hmem hm hfo hjL hI
      go_upto_region 7 with fail
      generalize wr.alloc (.cells #[.int .i64 m.f.fn, .int .i64 m.f.pc, .slice sq m.f.sl.length sc, .slice tq m.f.st.length tc] 89) = Y at HXC fE ⊢
      have b0 : Below Y.heap.size Y Y.drew := (Below.refl _ Y).drew
      have HX0 : Hid (ClF w Y.drew K K2 S L (.int .i64 (u : Int)) (.slice rq rn rn) (.slice aq an ac) (.slice oq S.out.length ocap) E (some ⟨gN, 0, none⟩) fc2 wc.heap.size w1.heap.size j) := HXC.out.next b0
      have HFE : Hid (∀ W, Below Y.heap.size Y W → W.cell? ⟨wr.heap.size, 2, none⟩ = some (.slice sq m.f.sl.length sc) ∧ W.cell? ⟨wr.heap.size, 3, none⟩ = some (.slice tq m.f.st.length tc)) := fun W b => ⟨((fE.next b).cell 2 _ rfl).1, ((fE.next b).cell 3 _ rfl).1⟩
      have HB0 : Hid (Below Y.heap.size Y Y.drew) := b0
      have HNE : Hid (gN ≠ w.heap.size ∧ gN ≠ wr.heap.size) := ⟨Ne.symm (HCE.out _ HX0.out).2.2.2.2, by omega⟩
      clear b0 fE f0 f1 f2 f3
      obtain ⟨Sp, hSp⟩ : ∃ Sp : World → Prop, ∀ W, Sp W ↔ (W.cell? ⟨w.heap.size, 7, none⟩ = some (.slice (some ⟨gN, 0, none⟩) S.fs.length fc2) ∧ W.cell? ⟨wr.heap.size, 2, none⟩ = some (.slice sq m.f.sl.length sc) ∧ W.cell? ⟨wr.heap.size, 3, none⟩ = some (.slice tq m.f.st.length tc)) := ⟨_, fun _ => Iff.rfl⟩
      have SVp : Hid (∀ W, Sp W → W.cell? ⟨w.heap.size, 7, none⟩ = some (.slice (some ⟨gN, 0, none⟩) S.fs.length fc2) ∧ W.cell? ⟨wr.heap.size, 2, none⟩ = some (.slice sq m.f.sl.length sc) ∧ W.cell? ⟨wr.heap.size, 3, none⟩ = some (.slice tq m.f.st.length tc)) := fun W h => (hSp W).1 h
      have SU : Hid (∀ W i v, Sp W → Sp (W.setCell ⟨gN, i, none⟩ v)) := fun W i v h => by
        rw [hSp] at h ⊢
        have k := fun b o (hb : b ≠ gN) => World.cell?_of_block (w := W) (w' := W.setCell ⟨gN, i, none⟩ v) (a := ⟨b, o, none⟩) (set_heap (a := ⟨gN, i, none⟩) hb)
        exact ⟨(k _ _ (Ne.symm HNE.out.1)).trans h.1, (k _ _ (Ne.symm HNE.out.2)).trans h.2.1, (k _ _ (Ne.symm HNE.out.2)).trans h.2.2⟩
      have SB : Hid (∀ W, Below Y.heap.size Y W → ClF w W K K2 S L (.int .i64 (u : Int)) (.slice rq rn rn) (.slice aq an ac) (.slice oq S.out.length ocap) E (some ⟨gN, 0, none⟩) fc2 wc.heap.size w1.heap.size j → Sp W) := fun W b hW => (hSp W).2 ⟨(HCE.out W hW).1, (HFE.out W b).1, (HFE.out W b).2⟩
      have sp0 : Sp Y.drew := SB.out _ HB0.out HX0.out
      have dS := (HCV.out Y.drew HX0.out.c.bl).1
      clear hSp
      go_region_held3 (fun w' => w'.cell? ⟨w.heap.size, 7, none⟩ = some (.slice (some ⟨gN, 0, none⟩) S.fs.length fc2) ∧ w'.cell? ⟨wr.heap.size, 2, none⟩ = some (.slice sq m.f.sl.length sc) ∧ w'.cell? ⟨wr.heap.size, 3, none⟩ = some (.slice tq m.f.st.length tc)) (exact SVp.out _ (by first | with_reducible assumption | exact SU.out _ _ _ (by with_reducible assumption) | exact SU.out _ _ _ (SU.out _ _ _ (by with_reducible assumption))))
        (first
        | (go_at_call 34; (with_reducible refine dS.mono ?_); rintro z5 w5 ⟨v5, rfl, H5, B5⟩; obtain ⟨q8, k8, e8, -, -⟩ := own_slice H5.out; subst e8; have HB5 : Hid (Below Y.heap.size Y w5) := below2 HB0.out B5; have HX5 : Hid _ := HX0.out.next B5; have HBB5 : Hid _ := B5; have sp5 : Sp w5 := SB.out _ HB5.out HX5.out; have d5 := (HCV.out w5 HX5.out.c.bl).2; clear dS)
        | (go_at_call 34; (with_reducible refine d5.mono ?_); rintro z6 w6 ⟨v6, rfl, H6, B6⟩; obtain ⟨q9, k9, e9, -, -⟩ := own_slice H6.out; subst e9; have HB6 : Hid (Below Y.heap.size Y w6) := below2 HB5.out B6; have HX6 : Hid _ := HX5.out.next B6; have sp6 : Sp w6 := SB.out _ HB6.out HX6.out; obtain ⟨-, ⟨r0, r3⟩, g0, g3, -⟩ := HCE.out w6 HX6.out; have HFI : Hid _ := HPU.out Y.drew w5 w6 _ _ HX0.out HBB5.out B6 H5.out H6.out)
        | fail)
      clear SVp SU SB sp0 sp5 sp6 d5 r0 r3 g0 g3
      go_wp2
      exact ⟨⟨j + 1, by omega, by first | rfl | (push_cast; rfl) | go_num, HFI.out⟩, by simp [intOf]; omega⟩
end Go.Proofs.YtahdkffijlfmnaaGreatDoor

namespace Go.Proofs.YtahdkffijlfmnaaGreatDoor
open Go.RowKit
open Hp (V vc vcs bv vaB vas_len vaB_len bv_len Grew)
def frB (f : Fr) : List UInt8 := [Hp.byteOf f.fn] ++ Hp.numB f.pc 4 ++ f.sl.flatMap vaB ++ Hp.numB (f.st.length : Int) 2 ++ f.st.flatMap vaB
def svH (S : Ms) : List UInt8 := [86, Hp.byteOf S.ph, Hp.byteOf S.tr] ++ Hp.numB S.steps 8 ++ Hp.numB (S.rd : Int) 8 ++ Hp.numB (S.fs.length : Int) 4
def svB (S : Ms) : List UInt8 := svH S ++ S.fs.flatMap frB ++ Hp.numB (S.out.length : Int) 8 ++ S.out ++ Hp.numB ((Hp.saveS S.hp).length : Int) 8 ++ Hp.saveS S.hp
def SvI (w W : World) (b : Value) (l : List UInt8) : Prop := W.ownsRow w.heap.size 5 1 b l.length (bv l) ∧ Below w.heap.size w W
theorem SvI.slice {w W : World} {b : Value} {l : List UInt8} (h : SvI w W b l) (h0 : 0 < l.length) : ∃ g c, b = .slice (some ⟨g, 0, none⟩) l.length c ∧ w.heap.size ≤ g := by
  obtain ⟨q, c, rfl, -, hq⟩ := own_slice h.1
  obtain ⟨g, rfl, -⟩ := hq h0
  exact ⟨g, c, rfl, own_ge h.1 g rfl⟩
theorem SvI.next {w W W' : World} {b : Value} {l : List UInt8} (h : SvI w W b l) (k : Below W.heap.size W W') : SvI w W' b l := ⟨own_next h.1 k, below2 h.2 k⟩
theorem SvI.grew {w W W' : World} {b b' : Value} {n : Nat} {l l' : List UInt8} (h : SvI w W b l) (G : Grew W W' w.heap.size b b' n l') : SvI w W' b' l' := by
  have e : n = l'.length := by have := G.own.1; rw [bv_len] at this; omega
  subst e
  exact ⟨G.own, h.2.trans (G.kp.below (fun k hk => own_ge h.1 k hk) h.2.size)⟩
def Kq (W W' : World) (b b' : Value) : Prop := ∀ B t fc, Full W B t fc → b.ownBlock ≠ some B → Full W' B t fc ∧ b'.ownBlock ≠ some B
theorem grew_kq {W W' : World} {base : Nat} {b b' : Value} {n : Nat} {l : List UInt8} (G : Grew W W' base b b' n l) : Kq W W' b b' := fun B t fc hF hb => by
  have hlt : B < W.heap.size := by
    by_cases q : B < W.heap.size
    · exact q
    · unfold Full at hF
      rw [Array.getElem?_eq_none (by omega)] at hF
      cases hF
  refine ⟨(G.kp.block B hlt fun q => hb q).trans hF, fun q => ?_⟩
  rcases G.sub B q with r | r
  · exact hb r
  · omega
theorem SvI.num {w W : World} {b : Value} {l : List UInt8} (h : SvI w W b l) (n : Int) (k : Nat) (hk : k ≤ 8) (hl : l.length ≤ 900000000) :
    Calls Tryz.prog 37 #[b, .int .i64 n, .int .i64 (k : Int)] W fun e W' => ∃ b', e = .returned b' ∧ Hid (SvI w W' b' (l ++ Hp.numB n k) ∧ Kq W W' b b') :=
  (Hp.mappNum_any n k hk w.heap.size b l.length l W h.1 h.2.size hl).mono fun _ _ ⟨b', e1, G⟩ => ⟨b', e1, h.grew G.out, grew_kq G.out⟩
theorem SvI.vals {w W : World} {b : Value} {l : List UInt8} (h : SvI w W b l) (h0 : 0 < l.length) {q : Option Addr} {c : Nat} {vs : List V} (hv : RdS W q vs.length c (vcs vs)) (hq : ∀ g o, 0 < vs.length → q = some ⟨g, o, none⟩ → g < w.heap.size) (hs : ∀ v ∈ vs, v.2.2.size ≤ 256) (hn : vs.length ≤ 100000) (hl : l.length + 300 * vs.length ≤ 800000000) :
    Calls Tryz.prog 38 #[b, .slice q vs.length c] W fun e W' => ∃ b', e = .returned b' ∧ Hid (SvI w W' b' (l ++ vs.flatMap vaB) ∧ Kq W W' b b') := by
  obtain ⟨g, cb, rfl, hg⟩ := h.slice h0
  exact (Hp.appVals_any hv hs hn w.heap.size g cb l.length l h.1 (fun g' o' e e2 => by have := hq g' o' e e2; omega) h.2.size hl).mono fun _ _ ⟨b', e1, G⟩ => ⟨b', e1, h.grew G.out, grew_kq G.out⟩
theorem rds_rown {w : World} {e : TypeId} {sz n c : Nat} {q : Option Addr} {xs : List Value} (h : OwnR w e sz (.slice q n c) n xs) : RdS w q n c xs := by
  obtain ⟨q', c', e1, hc, hq⟩ := rown_slice h
  cases e1
  refine ⟨fun hn => ?_, fun h0 => ?_⟩
  · subst hn
    rcases h with h | ⟨q, e2, rfl, -⟩ | ⟨-, -, g, cap, cur, fz, e3, -⟩
    · rcases h.2 with ⟨e3, h0⟩ | ⟨g, cap, cur, e3, _⟩
      · cases e3
        exact h0
      · cases e3
    · cases e2
      rfl
    · cases e3
  · obtain ⟨g, rfl, r⟩ := hq h0
    exact ⟨g, 0, rfl, r⟩
theorem frOk_len {K : Cg} {f : Fr} (hK : KOk K) (h : FrOk K f) : f.sl.length ≤ 250 := by
  obtain ⟨i, -, hi, e⟩ := h.fn
  rw [e]
  have hm : K.Es[i].1 ∈ K.c.ens := by
    rw [← hK.en]
    exact List.mem_map.2 ⟨_, List.getElem_mem hi, rfl⟩
  have := hK.c.es _ hm
  unfold entS at this
  simp only [Bool.and_eq_true, decide_eq_true_eq] at this
  omega
theorem frB_len {K : Cg} {f : Fr} (hK : KOk K) (h : FrOk K f) : (frB f).length ≤ 200000 := by
  have h1 := frOk_len hK h
  have h2 := h.ln
  have h3 := vas_len f.sl fun v hv => (h.sl v hv).1
  have h4 := vas_len f.st fun v hv => (h.st v hv).1
  unfold frB
  simp only [List.length_append, Hp.numB_len, List.length_cons, List.length_nil]
  omega
theorem frs_len {K : Cg} (hK : KOk K) : ∀ (l : List Fr), (∀ f ∈ l, FrOk K f) → (l.flatMap frB).length ≤ 200000 * l.length
  | [], _ => by simp
  | f :: l, h => by
    have h1 := frB_len hK (h f List.mem_cons_self)
    have h2 := frs_len hK l fun x hx => h x (List.mem_cons_of_mem _ hx)
    rw [List.flatMap_cons, List.length_append, List.length_cons]
    omega
theorem frs_take (l : List Fr) (j : Nat) (hj : j < l.length) : (l.take (j + 1)).flatMap frB = (l.take j).flatMap frB ++ frB l[j] := by
  rw [List.take_succ_eq_append_getElem hj, List.flatMap_append]
  simp
theorem sv_first {w X : World} (b : Below w.heap.size w X) (p t : Int) : SvI w (X.alloc (.cells #[.int .u8 86, .int .u8 (p % 256), .int .u8 (t % 256)] 5)) (.slice (some ⟨X.heap.size, 0, none⟩) 3 3) [86, Hp.byteOf p, Hp.byteOf t] := by
  have hn := World.alloc_heap_new X (.cells #[.int .u8 86, .int .u8 (p % 256), .int .u8 (t % 256)] 5)
  refine ⟨?_, b.alloc b.size _⟩
  have e : bv [86, Hp.byteOf p, Hp.byteOf t] = [.int .u8 86, .int .u8 (p % 256), .int .u8 (t % 256)] := by
    simp only [bv, List.map_cons, List.map_nil, Hp.byteOf_nat]
    rfl
  rw [e]
  exact ⟨rfl, .inr ⟨X.heap.size, 3, _, rfl, b.size, hn, Nat.le_refl _, by decide, rfl, rfl⟩⟩
theorem SvI.byte {w X w3 : World} {v3 : Value} {g2 c : Nat} {l : List UInt8} {k : Int} {C : Obj} (h : SvI w X (.slice (some ⟨g2, 0, none⟩) l.length c) l) (hg : (X.alloc C).grownBy w3 (Value.slice (some ⟨g2, 0, none⟩) l.length c).ownBlock) (hv : v3.ownBlock = (Value.slice (some ⟨g2, 0, none⟩) l.length c).ownBlock ∨ v3.ownBlock = some (X.heap.size + 1)) (ho : w3.ownsRow w.heap.size 5 1 v3 (l.length + 1) (bv l ++ [.int .u8 (k % 256)])) : SvI w w3 v3 (l ++ [Hp.byteOf k]) ∧ Kq X w3 (.slice (some ⟨g2, 0, none⟩) l.length c) v3 := by
  rw [← Hp.bv_byte] at ho
  have G := Grew.step (w := X) (wr := X) ⟨h.1, Kp.refl _ _, fun g hg => .inl hg⟩ C hg hv ho
  exact ⟨h.grew G, grew_kq G⟩
structure SvJ (w W : World) (g c n : Nat) (l : List UInt8) : Prop where
  i : SvI w W (.slice (some ⟨g, 0, none⟩) n c) l
  n : n = l.length
theorem SvI.j {w W : World} {b : Value} {l : List UInt8} (h : SvI w W b l) (h0 : 0 < l.length) : ∃ g c, b = .slice (some ⟨g, 0, none⟩) l.length c ∧ SvJ w W g c l.length l := by
  obtain ⟨g, c, rfl, -⟩ := h.slice h0
  exact ⟨g, c, rfl, h, rfl⟩
theorem SvJ.next {w W W' : World} {g c n : Nat} {l : List UInt8} (h : SvJ w W g c n l) (k : Below W.heap.size W W') : SvJ w W' g c n l := ⟨h.i.next k, h.n⟩
theorem SvJ.num {w W : World} {g c n : Nat} {l : List UInt8} (h : SvJ w W g c n l) (h0 : 0 < n) (z : Int) (k : Nat) (hk : k ≤ 8) (hl : n ≤ 900000000) :
    Calls Tryz.prog 37 #[.slice (some ⟨g, 0, none⟩) n c, .int .i64 z, .int .i64 (k : Int)] W fun e W' => ∃ g' c' n', e = .returned (.slice (some ⟨g', 0, none⟩) n' c') ∧ n ≤ n' ∧ n' ≤ n + k ∧ Hid (SvJ w W' g' c' n' (l ++ Hp.numB z k) ∧ Kq W W' (.slice (some ⟨g, 0, none⟩) n c) (.slice (some ⟨g', 0, none⟩) n' c')) := by
  obtain ⟨hi, hn⟩ := h
  subst hn
  refine (hi.num z k hk hl).mono fun e W' ⟨b', e1, G⟩ => ?_
  obtain ⟨g', c', rfl, hj⟩ := G.out.1.j (by rw [List.length_append]; omega)
  exact ⟨g', c', _, e1, by rw [List.length_append]; omega, by rw [List.length_append, Hp.numB_len]; omega, hj, G.out.2⟩
theorem SvJ.vals {w W : World} {g cb n : Nat} {l : List UInt8} (h : SvJ w W g cb n l) (h0 : 0 < n) {q : Option Addr} {c : Nat} {vs : List V} (hv : RdS W q vs.length c (vcs vs)) (hq : ∀ g o, 0 < vs.length → q = some ⟨g, o, none⟩ → g < w.heap.size) (hs : ∀ v ∈ vs, v.2.2.size ≤ 256) (hn : vs.length ≤ 100000) (hl : n + 300 * vs.length ≤ 800000000) :
    Calls Tryz.prog 38 #[.slice (some ⟨g, 0, none⟩) n cb, .slice q vs.length c] W fun e W' => ∃ g' c' n', e = .returned (.slice (some ⟨g', 0, none⟩) n' c') ∧ n ≤ n' ∧ n' ≤ n + 300 * vs.length ∧ Hid (SvJ w W' g' c' n' (l ++ vs.flatMap vaB) ∧ Kq W W' (.slice (some ⟨g, 0, none⟩) n cb) (.slice (some ⟨g', 0, none⟩) n' c')) := by
  obtain ⟨hi, e⟩ := h
  subst e
  refine (hi.vals h0 hv hq hs hn hl).mono fun e W' ⟨b', e1, G⟩ => ?_
  obtain ⟨g', c', rfl, hj⟩ := G.out.1.j (by rw [List.length_append]; omega)
  have := vas_len vs hs
  exact ⟨g', c', _, e1, by rw [List.length_append]; omega, by rw [List.length_append]; omega, hj, G.out.2⟩
theorem SvJ.byte {w X w3 : World} {v3 : Value} {g2 c n : Nat} {l : List UInt8} {k : Int} {C : Obj} (h : SvJ w X g2 c n l) (hg : (X.alloc C).grownBy w3 (Value.slice (some ⟨g2, 0, none⟩) n c).ownBlock) (hv : v3.ownBlock = (Value.slice (some ⟨g2, 0, none⟩) n c).ownBlock ∨ v3.ownBlock = some (X.heap.size + 1)) (ho : w3.ownsRow w.heap.size 5 1 v3 (n + 1) (bv l ++ [.int .u8 (k % 256)])) :
    ∃ g' c' n', v3 = .slice (some ⟨g', 0, none⟩) n' c' ∧ n ≤ n' ∧ n' ≤ n + 1 ∧ SvJ w w3 g' c' n' (l ++ [Hp.byteOf k]) ∧ Kq X w3 (.slice (some ⟨g2, 0, none⟩) n c) (.slice (some ⟨g', 0, none⟩) n' c') := by
  obtain ⟨hi, e⟩ := h
  subst e
  obtain ⟨h1, h2⟩ := hi.byte hg hv ho
  obtain ⟨g', c', rfl, hj⟩ := h1.j (by rw [List.length_append]; simp)
  exact ⟨g', c', _, rfl, by rw [List.length_append]; omega, by rw [List.length_append]; simp, hj, h2⟩
theorem saveS_len {A : Hp.Hp} (h : ∀ a ∈ A, ∀ v ∈ a.2, VOk v) (hu : Hp.usedS A ≤ 100000) : (Hp.saveS A).length ≤ 30000000 := by
  have h1 := Hp.ars_bound A fun a ha v hv => (h a ha v hv).1
  unfold Hp.saveS
  rw [List.length_cons, List.length_append, Hp.numB_len]
  omega
theorem MachM.hsave {w : World} {g : Nat} {K : Cg} {S : Ms} {L : List Fm} {fv ov : Value} {F Q : Nat → Prop} (h : MachM w g K S L fv ov F Q) {hb : ByteArray} (e : ⟨(Hp.saveS S.hp).toArray⟩ = hb) :
    Calls Tryz.prog 39 #[.pointer (some ⟨g, 8, none⟩)] w fun z w' => z = .returned (.string hb) ∧ Below w.heap.size w w' := by
  subst e
  have q := Hp.save_any h.heap
  exact q
theorem SvJ.out {w W : World} {g c n : Nat} {l : List UInt8} (h : SvJ w W g c n l) {oq : Option Addr} {oc : Nat} {out : List UInt8} (ho : OwnR W 5 1 (.slice oq out.length oc) out.length (bv out)) (hl : n + out.length ≤ 900000000) :
    ∃ g' c' n' W', (Builtin.append_ #[80, 80] 80 #[.slice (some ⟨g, 0, none⟩) n c, .slice oq out.length oc]).run Tryz.prog W = .ok (.slice (some ⟨g', 0, none⟩) n' c') W' ∧ n ≤ n' ∧ n' ≤ n + out.length ∧ Hid (SvJ w W' g' c' n' (l ++ out)) := by
  have hr := rds_rown ho
  have hn := h.n
  have ho1 := h.i.1
  rw [← hn] at ho1
  obtain ⟨G', c', W', r1, r2, r3⟩ := app_src (P := Tryz.prog) 80 80 (.int .u8 0) 1 Tryz.underlying80 Hp.info5 (by rfl) (by decide) (by decide) ho1 oq out.length oc (bv out) (by rw [bv_len, Nat.mul_one]) hr.nil hr.at_ (Hp.bv_one out) (by omega) h.i.2.size
  refine ⟨G', c', _, W', r1, by omega, by omega, ⟨?_, ?_⟩, by rw [List.length_append, hn]⟩
  · show W'.ownsRow w.heap.size 5 1 (.slice (some ⟨G', 0, none⟩) (n + out.length) c') (l ++ out).length (bv (l ++ out))
    rw [List.length_append, ← hn, Hp.bv_app]
    exact r2
  · exact h.i.2.trans (Kp.below (F := fun b => some g = some b) ((Kp.refl _ _).grown r3 (fun k hk => .inl hk)) (fun k hk => by cases hk; exact own_ge h.i.1 g rfl) h.i.2.size)
theorem SvJ.text {w W : World} {g c n : Nat} {l : List UInt8} (h : SvJ w W g c n l) (s : ByteArray) (hl : n + s.size ≤ 900000000) :
    ∃ g' c' n' W', (Builtin.append_ #[80, 9] 80 #[.slice (some ⟨g, 0, none⟩) n c, .string s]).run Tryz.prog W = .ok (.slice (some ⟨g', 0, none⟩) n' c') W' ∧ Hid (SvJ w W' g' c' n' (l ++ s.data.toList)) ∨ n = 0 := by
  rcases Nat.eq_zero_or_pos n with e | e
  · exact ⟨0, 0, 0, W, .inr e⟩
  have hn := h.n
  have ho := h.i.1
  rw [← hn] at ho
  obtain ⟨v', W', r1, r2, r3, r4⟩ := Hp.run_appS W 80 w.heap.size g c n l s ho (by omega) h.i.2.size
  obtain ⟨q, c', rfl, -, hq⟩ := own_slice r2
  obtain ⟨g', rfl, -⟩ := hq (by omega)
  refine ⟨g', c', _, W', .inl ⟨r1, ⟨?_, ?_⟩, by rw [List.length_append, ← hn]; congr 1⟩⟩
  · show W'.ownsRow w.heap.size 5 1 (.slice (some ⟨g', 0, none⟩) (n + s.size) c') (l ++ s.data.toList).length (bv (l ++ s.data.toList))
    have e2 : (l ++ s.data.toList).length = n + s.size := by rw [List.length_append, ← hn]; congr 1
    rw [e2]
    exact r2
  · exact h.i.2.trans (Kp.below (F := fun b => some g = some b) ((Kp.refl _ _).grown r3 (fun k hk => .inl hk)) (fun k hk => by cases hk; exact own_ge h.i.1 g rfl) h.i.2.size)
set_option maxRecDepth 100000 in
set_option maxHeartbeats 1500000 in
theorem Mz.save {w : World} {U : Nat → Prop} {g : Nat} {K : Cg} {S : Ms} (h : Mz w U g K S) (ho : S.out.length ≤ 100000000) :
    Calls Tryz.prog 17 #[.pointer (some ⟨g, 0, none⟩)] w fun z w' => z = .returned (.string ⟨(svB S).toArray⟩) ∧ Below w.heap.size w w' := by
  obtain ⟨L, fv, ov, F, Q, h1, -⟩ := h
  have hK := h1.k
  have hSt := h1.s
  have hd := hSt.dp
  have hd2 := hK.d2
  obtain ⟨fq, fcap, hfv, -, -⟩ := rown_slice h1.m.fr
  obtain ⟨oq, ocap, hov, -, -⟩ := rown_slice h1.m.out
  have hll : L.length = S.fs.length := by rw [← h1.m.abs, List.length_map]
  subst hfv hov
  have HM : Hid (∀ W, Below w.heap.size w W → MachM W g K S L (.slice fq L.length fcap) (.slice oq S.out.length ocap) F Q) := fun W b => h1.m.next b
  have HC : Hid (∀ W, Below w.heap.size w W → W.cell? ⟨g, 7, none⟩ = some (.slice fq S.fs.length fcap) ∧ W.cell? ⟨g, 12, none⟩ = some (.int .i64 (S.rd : Int)) ∧ W.cell? ⟨g, 13, none⟩ = some (.slice oq S.out.length ocap) ∧ W.cell? ⟨g, 14, none⟩ = some (.int .i64 S.steps)) := fun W b => by
    have m := HM.out W b
    refine ⟨?_, m.k12, m.k13, m.k14⟩
    have := m.k7
    rw [hll] at this
    exact this
  have HS : Hid (∀ w', Below w.heap.size w w' → w'.cell? ⟨g, 15, none⟩ = some (.int .i64 S.ph) ∧ w'.cell? ⟨g, 16, none⟩ = some (.int .i64 S.tr) ∧ Below w.heap.size w w') := fun w' b => ⟨(HM.out w' b).k15, (HM.out w' b).k16, b⟩
  have HFR : Hid ((S.fs.flatMap frB).length ≤ 200000 * S.fs.length) := frs_len hK S.fs hSt.fr
  have HSV : Hid ((Hp.saveS S.hp).length ≤ 30000000) := saveS_len hSt.hp h1.m.used
  have bD : Below w.heap.size w w.drew := (Below.refl _ w).drew
  clear h1
  go_enter Tryz.func17, Tryz.ntmps17
  go_upto_region 1 with fail
  go_region_held3 (fun w' => w'.cell? ⟨g, 15, none⟩ = some (.int .i64 S.ph) ∧ w'.cell? ⟨g, 16, none⟩ = some (.int .i64 S.tr) ∧ Below w.heap.size w w') (exact HS.out _ (by first | with_reducible assumption | with_reducible exact (((Below.refl _ w).alloc (Nat.le_refl _) _)).drew | with_reducible exact ((Below.refl _ w).drew.alloc (Nat.le_refl _) _)))
    (first
    | fail)
  have hI0 : SvI w (w.alloc (.cells #[.int .u8 86, .int .u8 (S.ph % 256), .int .u8 (S.tr % 256)] 5)).drew (.slice (some ⟨w.heap.size, 0, none⟩) 3 3) [86, Hp.byteOf S.ph, Hp.byteOf S.tr] := by
    exact (sv_first (Below.refl _ w) S.ph S.tr).next (Below.refl _ _).drew
  simp only [IntKind.wrap_u8]
  generalize (w.alloc (.cells #[.int .u8 86, .int .u8 (S.ph % 256), .int .u8 (S.tr % 256)] 5)).drew = X0 at hI0 ⊢
  have HI0 : Hid (SvJ w X0 w.heap.size 3 3 [86, Hp.byteOf S.ph, Hp.byteOf S.tr]) := ⟨hI0, rfl⟩
  obtain ⟨k7, k12, k13, k14⟩ := HC.out X0 hI0.2
  clear hI0 HS bD
  go_wp2_with (first
    | (go_at_call 37; refine (SvJ.num (l := [86, Hp.byteOf S.ph, Hp.byteOf S.tr]) HI0.out (by decide) S.steps 8 (by decide) (by decide)).mono ?_; rintro e1 X1 ⟨g1, c1, n1, rfl, l1, u1, HI1⟩; obtain ⟨a7, a12, a13, a14⟩ := HC.out X1 HI1.out.1.i.2; have HJ1 : Hid _ := HI1.out.1; clear HI0 HI1 k7 k12 k13 k14)
    | (go_at_call 37; refine (SvJ.num HJ1.out (by omega) (S.rd : Int) 8 (by decide) (by omega)).mono ?_; rintro e2 X2 ⟨g2, c2, n2, rfl, l2, u2, HI2⟩; obtain ⟨b7, b12, b13, b14⟩ := HC.out X2 HI2.out.1.i.2; have HJ2 : Hid _ := HI2.out.1; clear HJ1 HI2 a7 a12 a13 a14)
    | (go_at_call 37; refine (SvJ.num HJ2.out (by omega) (S.fs.length : Int) 4 (by decide) (by omega)).mono ?_; rintro e3 X3 ⟨g3, c3, n3, rfl, l3, u3, HI3⟩; obtain ⟨d7, d12, d13, d14⟩ := HC.out X3 HI3.out.1.i.2; have HJ3 : Hid _ := HI3.out.1; clear HJ2 HI3 b7 b12 b13 b14)
    | fail)
  have hLs : S.fs.length ≤ 1000 := by omega
  have HJ4 : Hid (SvJ w X3 g3 c3 n3 (svH S ++ (S.fs.take 0).flatMap frB)) := by
    have q := HJ3.out
    show SvJ w X3 g3 c3 n3 (svH S ++ [])
    rw [List.append_nil]
    exact q
  have HFO : Hid (∀ f ∈ S.fs, FrOk K f) := hSt.fr
  have HKO : Hid (KOk K) := hK
  have HLL : Hid (L.length = S.fs.length) := hll
  clear HJ3 hK hSt hd hd2 hll d7 d12 d13 d14
  go_loopw [3, 44] (fun b i wr => ∃ (j gb cb nb : Nat), j ≤ S.fs.length ∧ i = .int .i64 (j : Int) ∧ b = .slice (some ⟨gb, 0, none⟩) nb cb ∧ 0 < nb ∧ nb ≤ 100 + 200000 * j ∧ Hid (SvJ w wr gb cb nb (svH S ++ (S.fs.take j).flatMap frB))) (fun _ i _ => S.fs.length - (intOf i).toNat)
  case atStart => exact ⟨0, g3, c3, n3, Nat.zero_le _, rfl, rfl, by omega, by omega, HJ4⟩
  case round =>
    clear HJ4
    obtain ⟨j, gb, cb, nb, hj, rfl, rfl, hn0, hnb, hI⟩ := hrel
    have j0 : (0 : Int) ≤ (j : Int) := Int.natCast_nonneg _
    by_cases hlt : j < S.fs.length
    case neg =>
      obtain rfl : j = S.fs.length := by omega
      obtain ⟨k7, k12, k13, k14⟩ := HC.out wr hI.out.i.2
      rw [List.take_length] at hI
      obtain ⟨hb, hhb⟩ : ∃ hb : ByteArray, ⟨(Hp.saveS S.hp).toArray⟩ = hb := ⟨_, rfl⟩
      have HHB : Hid (⟨(Hp.saveS S.hp).toArray⟩ = hb) := hhb
      have hbs : hb.size ≤ 30000000 := by
        rw [← hhb]
        exact HSV.out
      clear hhb
      go_wp2_with (first
        | (go_at_call 37; refine (SvJ.num hI.out hn0 (S.out.length : Int) 8 (by decide) (by omega)).mono ?_; rintro e5 X5 ⟨g5, c5, n5, rfl, l5, u5, HI5⟩; obtain ⟨a7, a12, a13, a14⟩ := HC.out X5 HI5.out.1.i.2; have HJ5 : Hid _ := HI5.out.1; clear HI5 k7 k12 k13 k14 hI; obtain ⟨g6, c6, n6, X6, r6, l6, u6, HJ6⟩ := SvJ.out HJ5.out (HM.out X5 HJ5.out.i.2).out (by omega))
        | (at_builtin; refine wpList_apv (by rfl) _ _ 80 _ _ (by rfl) 80 (by rfl) (by rfl) (by rfl) r6 ?_)
        | (go_at_call 39; refine (MachM.hsave (HM.out X6 HJ6.out.i.2) HHB.out).mono ?_; rintro e7 X7 ⟨rfl, hb7⟩; have HJ7 : Hid _ := HJ6.out.next hb7; clear hb7 HJ6 HJ5)
        | (go_at_call 37; refine (SvJ.num HJ7.out (by omega) (hb.size : Int) 8 (by decide) (by omega)).mono ?_; rintro e8 X8 ⟨g8, c8, n8, rfl, l8, u8, HI8⟩; have HJ8 : Hid _ := HI8.out.1; clear HI8; obtain ⟨g9, c9, n9, X9, h9⟩ := SvJ.text HJ8.out hb (by omega); have h9 := h9.resolve_right (by omega); obtain ⟨r9, HJ9⟩ := h9; have hcv := Hp.conv_own HJ9.out.i.1; clear HJ7)
        | (at_builtin; refine Hp.wpList_ap2 (by rfl) _ _ 80 9 _ _ (by rfl) 80 (by rfl) (by rfl) (by rfl) r9 ?_)
        | fail)
      have e9 : hb.size = (Hp.saveS S.hp).length := by rw [← HHB.out]; rfl
      have e8 : hb.data.toList = Hp.saveS S.hp := by rw [← HHB.out]
      go_ret
      refine ⟨?_, HJ9.out.i.2⟩
      show Ending.returned (.string ⟨(svH S ++ (List.flatMap frB S.fs ++ (Hp.numB (S.out.length : Int) 8 ++ (S.out ++ (Hp.numB (hb.size : Int) 8 ++ hb.data.toList))))).toArray⟩) = _
      rw [e8, e9]
      unfold svB
      simp only [List.append_assoc]
    have j1 : (j : Int) < (S.fs.length : Int) := Int.ofNat_lt.2 hlt
    have hw : IntKind.i64.wrap ((j : Int) + 1) = ((j + 1 : Nat) : Int) := by rw [IntKind.wrap_i64]; omega
    have hjL : j < L.length := by rw [HLL.out]; exact hlt
    obtain ⟨m, hm⟩ : ∃ m, L[j]? = some m := ⟨_, List.getElem?_eq_getElem hjL⟩
    have hMr := HM.out wr hI.out.i.2
    have hmf : S.fs[j] = m.f := by
      have e1 : S.fs[j]? = some m.f := by rw [← hMr.abs, List.getElem?_map, hm]; rfl
      rw [List.getElem?_eq_getElem hlt] at e1
      exact Option.some.inj e1
    have hmem : m ∈ L := List.mem_of_getElem? hm
    have hfo : FrOk K m.f := HFO.out _ (by rw [← hmf]; exact List.getElem_mem hlt)
    have hsl := frOk_len HKO.out hfo
    have hstl := hfo.ln
    have htk : (S.fs.take (j + 1)).flatMap frB = (S.fs.take j).flatMap frB ++ frB m.f := by rw [frs_take _ _ hlt, hmf]
    obtain ⟨gf, fcap2, efv, -, hfc, -⟩ := hMr.fc (by omega)
    obtain ⟨f0, f1, f2, f3⟩ := hfc j m hm
    obtain ⟨sq, sc, esv, -, -⟩ := rown_slice (hMr.rows m hmem).1
    obtain ⟨tq, tc, etv, -, -⟩ := rown_slice (hMr.rows m hmem).2
    rw [esv] at f2
    rw [etv] at f3
    cases efv
    have HRW : Hid (∀ W, Below w.heap.size w W → RdS W sq m.f.sl.length sc (vcs m.f.sl) ∧ RdS W tq m.f.st.length tc (vcs m.f.st)) := fun W b => by
      have q := (HM.out W b).rows m hmem
      rw [esv, etv] at q
      exact ⟨rds_rown q.1, rds_rown q.2⟩
    have HQ : Hid ((∀ a o, 0 < m.f.sl.length → sq = some ⟨a, o, none⟩ → a < w.heap.size) ∧ (∀ a o, 0 < m.f.st.length → tq = some ⟨a, o, none⟩ → a < w.heap.size)) := by
      obtain ⟨r1, r2⟩ := HRW.out w (Below.refl _ w)
      refine ⟨fun a o h0 e => ?_, fun a o h0 e => ?_⟩
      · obtain ⟨b, o2, e2, r⟩ := r1.at_ h0
        rw [e] at e2
        cases e2
        exact block_lt_of_cell (r 0 _ (List.getElem?_eq_getElem (by rw [Hp.vcs_len]; omega)))
      · obtain ⟨b, o2, e2, r⟩ := r2.at_ h0
        rw [e] at e2
        cases e2
        exact block_lt_of_cell (r 0 _ (List.getElem?_eq_getElem (by rw [Hp.vcs_len]; omega)))
    have HSZ : Hid ((∀ v ∈ m.f.sl, v.2.2.size ≤ 256) ∧ (∀ v ∈ m.f.st, v.2.2.size ≤ 256)) := ⟨fun v hv => (hfo.sl v hv).1, fun v hv => (hfo.st v hv).1⟩
    have fF := Full.new wr #[.int .i64 m.f.fn, .int .i64 m.f.pc, .slice sq m.f.sl.length sc, .slice tq m.f.st.length tc] 89
    have hJ := hI.out.next ((Below.refl _ wr).alloc (Nat.le_refl _) (.cells #[.int .i64 m.f.fn, .int .i64 m.f.pc, .slice sq m.f.sl.length sc, .slice tq m.f.st.length tc] 89))
    have hgb : gb < wr.heap.size := (own_blk hI.out.i.1 gb rfl).lt
    have HTK : Hid _ := htk
    clear hMr hfc esv etv hmem hm hmf hfo htk hI hjL HFO
    go_upto_region 8 with fail
    generalize wr.alloc (.cells #[.int .i64 m.f.fn, .int .i64 m.f.pc, .slice sq m.f.sl.length sc, .slice tq m.f.st.length tc] 89) = X at fF hJ ⊢
    obtain ⟨f0, -⟩ := fF.cell 0 _ rfl
    obtain ⟨l, hl⟩ : ∃ l, svH S ++ (S.fs.take j).flatMap frB = l := ⟨_, rfl⟩
    rw [hl] at hJ
    have HEQ : Hid (l ++ frB m.f = svH S ++ (S.fs.take (j + 1)).flatMap frB) := by
      show _ = _
      rw [HTK.out, ← hl, List.append_assoc]
    have HO : Hid (X.ownsRow w.heap.size 5 1 (.slice (some ⟨gb, 0, none⟩) nb cb) nb (bv l)) := by
      have q := hJ.i.1
      rw [← hJ.n] at q
      exact q
    have HJA : Hid (SvJ w X gb cb nb l ∧ Full X wr.heap.size 89 [.int .i64 m.f.fn, .int .i64 m.f.pc, .slice sq m.f.sl.length sc, .slice tq m.f.st.length tc] ∧ (Value.slice (some ⟨gb, 0, none⟩) nb cb).ownBlock ≠ some wr.heap.size) := ⟨hJ, fF, fun e => by cases e; exact Nat.lt_irrefl _ hgb⟩
    have HBX : Hid (w.heap.size ≤ X.heap.size) := hJ.i.2.size
    clear hl HTK hJ fF
    have H1 : Hid (∀ u ∈ (#[.int .u8 (m.f.fn % 256)] : Array Value).toList, u.oneCell' = true) := fun u hu => by
      obtain rfl := List.mem_singleton.1 (by simpa using hu)
      rfl
    go_wp2_with (first
      | (at_builtin; refine wpList_app 80 5 _ 1 1 Tryz.underlying80 Hp.info5 (by rfl) (by decide) (by decide) (by rfl) _ _ (by rfl) w.heap.size (.slice (some ⟨gb, 0, none⟩) nb cb) nb (bv l) (by rfl) HO.out _ (by rfl) H1.out (by rfl) (by omega) HBX.out ?_; intro v3 w3 ho3 hg3; obtain ⟨p1, q1, r1, rfl, la1, ub1, hJ1, hK1⟩ := SvJ.byte HJA.out.1 hg3.out.1 hg3.out.2 ho3.out; have hF1 := hK1 _ _ _ HJA.out.2.1 HJA.out.2.2; obtain ⟨m1, -⟩ := hF1.1.cell 1 _ rfl; have HJB : Hid (SvJ w w3 p1 q1 r1 (l ++ [Hp.byteOf m.f.fn]) ∧ Full w3 wr.heap.size 89 [.int .i64 m.f.fn, .int .i64 m.f.pc, .slice sq m.f.sl.length sc, .slice tq m.f.st.length tc] ∧ (Value.slice (some ⟨p1, 0, none⟩) r1 q1).ownBlock ≠ some wr.heap.size) := ⟨hJ1, hF1⟩; clear hJ1 hK1 hF1 ho3 hg3 HJA HO)
      | (go_at_call 37; refine (SvJ.num HJB.out.1 (by omega) m.f.pc 4 (by decide) (by omega)).mono ?_; rintro e4 w4 ⟨p2, q2, r2, rfl, la2, ub2, HI4⟩; have hF2 := HI4.out.2 _ _ _ HJB.out.2.1 HJB.out.2.2; obtain ⟨m2, -⟩ := hF2.1.cell 2 _ rfl; have HJC : Hid (SvJ w w4 p2 q2 r2 (l ++ [Hp.byteOf m.f.fn] ++ Hp.numB m.f.pc 4) ∧ Full w4 wr.heap.size 89 [.int .i64 m.f.fn, .int .i64 m.f.pc, .slice sq m.f.sl.length sc, .slice tq m.f.st.length tc] ∧ (Value.slice (some ⟨p2, 0, none⟩) r2 q2).ownBlock ≠ some wr.heap.size) := ⟨HI4.out.1, hF2⟩; clear HI4 hF2 HJB)
      | (go_at_call 38; refine (SvJ.vals HJC.out.1 (by omega) (HRW.out w4 HJC.out.1.i.2).1 HQ.out.1 HSZ.out.1 (by omega) (by omega)).mono ?_; rintro e5 w5 ⟨p3, q3, r3, rfl, la3, ub3, HI5⟩; have hF3 := HI5.out.2 _ _ _ HJC.out.2.1 HJC.out.2.2; obtain ⟨m3, -⟩ := hF3.1.cell 3 _ rfl; have HJD : Hid (SvJ w w5 p3 q3 r3 (l ++ [Hp.byteOf m.f.fn] ++ Hp.numB m.f.pc 4 ++ m.f.sl.flatMap vaB) ∧ Full w5 wr.heap.size 89 [.int .i64 m.f.fn, .int .i64 m.f.pc, .slice sq m.f.sl.length sc, .slice tq m.f.st.length tc] ∧ (Value.slice (some ⟨p3, 0, none⟩) r3 q3).ownBlock ≠ some wr.heap.size) := ⟨HI5.out.1, hF3⟩; clear HI5 hF3 HJC)
      | (go_at_call 37; refine (SvJ.num HJD.out.1 (by omega) (m.f.st.length : Int) 2 (by decide) (by omega)).mono ?_; rintro e6 w6 ⟨p4, q4, r4, rfl, la4, ub4, HI6⟩; have hF4 := HI6.out.2 _ _ _ HJD.out.2.1 HJD.out.2.2; obtain ⟨m4, -⟩ := hF4.1.cell 3 _ rfl; have HJE : Hid (SvJ w w6 p4 q4 r4 (l ++ [Hp.byteOf m.f.fn] ++ Hp.numB m.f.pc 4 ++ m.f.sl.flatMap vaB ++ Hp.numB (m.f.st.length : Int) 2)) := HI6.out.1; clear HI6 hF4 HJD)
      | (go_at_call 38; refine (SvJ.vals HJE.out (by omega) (HRW.out w6 HJE.out.i.2).2 HQ.out.2 HSZ.out.2 (by omega) (by omega)).mono ?_; rintro e7 w7 ⟨p5, q5, r5, rfl, la5, ub5, HI7⟩; have HJF : Hid (SvJ w w7 p5 q5 r5 (l ++ [Hp.byteOf m.f.fn] ++ Hp.numB m.f.pc 4 ++ m.f.sl.flatMap vaB ++ Hp.numB (m.f.st.length : Int) 2 ++ m.f.st.flatMap vaB)) := HI7.out.1; clear HI7 HJE)
      | go_in)
    refine ⟨⟨j + 1, p5, q5, r5, by omega, by push_cast; rfl, rfl, by omega, by omega, ?_⟩, ?_⟩
    · have q := HJF.out
      have e : l ++ [Hp.byteOf m.f.fn] ++ Hp.numB m.f.pc 4 ++ m.f.sl.flatMap vaB ++ Hp.numB (m.f.st.length : Int) 2 ++ m.f.st.flatMap vaB = l ++ frB m.f := by unfold frB; simp only [List.append_assoc]
      rw [e, HEQ.out] at q
      exact q
    · show S.fs.length - ((j : Int) + 1).toNat < S.fs.length - ((j : Int)).toNat
      omega
end Go.Proofs.YtahdkffijlfmnaaGreatDoor

namespace Go.Proofs.YtahdkffijlfmnaaGreatDoor
open Go.RowKit
open Hp (V vc vcs)
theorem StOk.alk {K K' : Cg} {S : Ms} (h : StOk K S) (ha : Alk K K') (a : KOk K) (b : KOk K') : StOk K' S := by
  have e : K.Es.map (·.1) = K'.Es.map (·.1) := by rw [a.en, b.en, ha.c]
  have hl : K.Es.length = K'.Es.length := by have := congrArg List.length e; simpa using this
  refine ⟨fun f hf => ?_, h.hp, by rw [← ha.i]; exact h.rd, by rw [← ha.d]; exact h.dp, h.s0, h.s1⟩
  have q := h.fr f hf
  obtain ⟨i, hi, hil, he⟩ := q.fn
  refine ⟨⟨i, hi, by omega, ?_⟩, q.st, q.sl, q.ln⟩
  rw [he]
  have e2 := congrArg (·[i]?) e
  simp only [List.getElem?_map, List.getElem?_eq_getElem hil, List.getElem?_eq_getElem (show i < K'.Es.length by omega), Option.map_some, Option.some.injEq] at e2
  rw [e2]
theorem Mz.clone {w : World} {U : Nat → Prop} {g : Nat} {K : Cg} {S : Ms} (h : Mz w U g K S) (ho : S.out.length ≤ 900000000) :
    Calls Tryz.prog 16 #[.pointer (some ⟨g, 0, none⟩)] w fun z w' => z = .returned (.pointer (some ⟨w.heap.size, 0, none⟩)) ∧ Hid ((∃ K', Mz w' (fun b => w.heap.size ≤ b) w.heap.size K' S ∧ Alk K K') ∧ Below w.heap.size w w') := by
  obtain ⟨L, fv, ov, F, Q, h1, -⟩ := h
  refine (h1.m.clone h1.k h1.s ho).mono fun z w' q => ⟨q.1, ?_⟩
  obtain ⟨K', L', fv', ov', F', Q', hM, hK, hA, hF, hB⟩ := q.2.out
  have ha : Alk K K' := ⟨hA.1.symm, hA.2.1.symm, hA.2.2.1.symm, hA.2.2.2.symm⟩
  have h8 := h1.g.1.tabs.size
  exact ⟨⟨K', ⟨L', fv', ov', F', Q', ⟨hM, ⟨h1.g.1.next hB, fun b hb q => by have := hF b (.inl q); omega⟩, hK, h1.s.alk ha h1.k hK⟩, hF⟩, ha⟩, hB⟩
end Go.Proofs.YtahdkffijlfmnaaGreatDoor
