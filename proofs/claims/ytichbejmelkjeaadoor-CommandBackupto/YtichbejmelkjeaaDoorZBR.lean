import Derived.Test.YtichbejmelkjeaaDoorZ2
import Derived.Test.YtichbejmelkjeaaDoorYAL
import Derived.Test.YtichbejmelkjeaaDoorCards
import Derived.Test.YtichbejmelkjeaaDoorTie
namespace Go.Proofs.YtichbejmelkjeaaDoor
open Go.RowKit

/-- What the law's row is over lists. -/
abbrev bothV (kd pk ln nn : Int) (nm cd tx : ByteArray) (off : Bool) (s : ByteArray) (q : Option Addr) (m cap : Nat) : List Value := [.int .i64 kd, .int .i64 pk, .int .i64 ln, .string nm, .string cd, .bool off, .int .i64 nn, .string tx, .string s, .slice q m cap]

set_option maxRecDepth 100000 in
set_option maxHeartbeats 4000000 in
theorem commandBack_any (kd pk ln nn : Int) (nm cd tx : ByteArray) (off : Bool) (l : ByteArray) (q : Option Addr) (cap : Nat) (B : List Int) (w : World) (hT : Tb w) (hl : -9223372036854775808 ≤ ln ∧ ln ≤ 9223372036854775807) (hn : -9223372036854775808 ≤ nn ∧ nn ≤ 9223372036854775807) (hs : nm.size ≤ 1000000000 ∧ cd.size ≤ 1000000000 ∧ tx.size ≤ 1000000000) (hB : B.length ≤ 1048576) (hR : Row w w.heap.size q B.length (B.map iv)) (hb : ∀ b ∈ B, -9223372036854775808 ≤ b ∧ b ≤ 9223372036854775807) :
    Calls Tryd.prog 4 #[.agg #[.int .i64 kd, .int .i64 pk, .int .i64 ln, .string nm, .string cd, .bool off, .int .i64 nn, .string tx, .string l, .slice q B.length cap]] w fun e w' => e = .returned (.bool true) ∧ Below w.heap.size w w' := by
  obtain ⟨m, hm⟩ : ∃ m, B.length = m := ⟨_, rfl⟩
  have HSp : Hid (∀ (s : ByteArray) (n : Nat) (W : World), s.size ≤ 300 → n ≤ 3 → Row W W.heap.size q m (B.map iv) → Calls Tryd.prog 9 #[.string s, .slice q m cap, .int .i64 (n : Int)] W fun e w' => e = .returned (.string ⟨(spS s.data.toList B n).toArray⟩) ∧ Below W.heap.size W w') := fun s n W h1 h2 h3 => by
    rw [← hm] at h3 ⊢
    exact spread_any s q cap B n W (by omega) hB h3 h2 hb
  obtain ⟨C, hC⟩ : ∃ C : Cm, C = ⟨kd, pk, ln, nm.data.toList, cd.data.toList, off, nn, tx.data.toList⟩ := ⟨_, rfl⟩
  rw [hm] at hB hR ⊢
  obtain ⟨X1, hX1⟩ : ∃ X1, w.alloc (.cells #[.int .i64 kd, .int .i64 pk, .int .i64 ln, .string nm, .string cd, .bool off, .int .i64 nn, .string tx, .string l, .slice q m cap] 42) = X1 := ⟨_, rfl⟩
  have b1 : Below w.heap.size w X1 := by rw [← hX1]; exact (Below.refl _ w).alloc (Nat.le_refl _) _
  have f1 : Full X1 w.heap.size 42 [.int .i64 kd, .int .i64 pk, .int .i64 ln, .string nm, .string cd, .bool off, .int .i64 nn, .string tx, .string l, .slice q m cap] := by rw [← hX1]; exact Full.new w _ _
  have HF : Hid (∀ W, Below X1.heap.size X1 W → Full W w.heap.size 42 [.int .i64 kd, .int .i64 pk, .int .i64 ln, .string nm, .string cd, .bool off, .int .i64 nn, .string tx, .string l, .slice q m cap] ∧ Below w.heap.size w W ∧ Tb W ∧ Row W w.heap.size q m (B.map iv)) := fun W h => by
    have hb := b1.trans (h.mono b1.size)
    exact ⟨f1.next h, hb, hT.next hb, hR.below hb (Nat.le_refl _)⟩
  have HL := lives_any X1 (hT.next b1)
  have HTx : Hid (∀ W, Tb W → Calls Tryd.prog 7 #[.agg #[.int .i64 kd, .int .i64 pk, .int .i64 ln, .string nm, .string cd, .bool off, .int .i64 nn, .string tx]] W (TxP W C)) := fun W h => by
    rw [hC]; exact text_any kd pk ln nn nm cd tx off W h hl hn hs
  have HC : Hid (C = ⟨kd, pk, ln, nm.data.toList, cd.data.toList, off, nn, tx.data.toList⟩) := hC
  have HN1 : Hid (Below X1.heap.size X1 X1) := Below.refl _ _
  have HBn : Hid (m ≤ 1048576) := hB
  have HBm : Hid (B.length = m) := hm
  clear hm hC hT hR b1 f1 hl hn hs hB hb
  go_enter Tryd.func4, Tryd.ntmps4
  go_wp2_with fail
  refine HL.mono ?_
  rintro e w2 ⟨rfl, hb2⟩
  clear HL
  have hx2 := (HF.out w2 hb2)
  obtain ⟨c0, c1, c2, c3, c4, c5, c6, c7, c8, c9⟩ := hx2.1.cell10
  have HT2 := HTx.out w2 hx2.2.2.1
  have HB2 : Hid (Below X1.heap.size X1 w2) := hb2
  clear hx2 hb2 HTx
  go_wp2_with fail
  refine HT2.mono ?_
  rintro e w3 ⟨s, er, rfl, hq⟩
  clear HT2 c0 c1 c2 c3 c4 c5 c6 c7 c8 c9
  have hb3 : Below X1.heap.size X1 w3 := HB2.out.trans (hq.out.2.mono HB2.out.size)
  have HB3 : Hid (Below X1.heap.size X1 w3) := hb3
  have hx3 := HF.out w3 hb3
  obtain ⟨c0, c1, c2, c3, c4, c5, c6, c7, c8, c9⟩ := hx3.1.cell10
  have hq1 := hq.out.1
  clear hq HB2
  rcases hq1 with ⟨rfl, hsl, hp⟩ | ⟨rfl, rfl, hp⟩
  · have HPs := parse_any s w3 hx3.2.2.1
    rw [hsl] at HPs
    clear hx3 hb3
    have hpb := par_back hp
    have hss : s.size ≤ 300 := by rw [Lib.size_eq, hsl]; exact (par_small hp).2.2.2.2.2.2.2
    have HS : Hid (s.data.toList = lnS C) := hsl
    clear hsl
    go_wp2_with fail
    refine HPs.mono ?_
    rintro e w4 ⟨k, a1, a2, a3, a4, a6, a7, er, rfl, hq⟩
    clear HPs c0 c1 c2 c3 c4 c5 c6 c7 c8 c9
    obtain ⟨hq1, hb4⟩ := hq.out
    rcases hq1 with ⟨rfl, hpk⟩ | ⟨-, hpk, -⟩
    rotate_left
    · rw [hpb.1] at hpk; cases hpk
    have hcc := Option.some.inj (hpb.1.symm.trans hpk)
    rw [HC.out] at hcc
    simp only [Cm.mk.injEq] at hcc
    obtain ⟨rfl, rfl, rfl, e3, e4, rfl, rfl, e7⟩ := hcc
    obtain rfl := ba_eqB e3
    obtain rfl := ba_eqB e4
    obtain rfl := ba_eqB e7
    have HP0 : Hid (parP (lnS C) = some C) := hp
    clear hq hpk hpb e3 e4 e7 hp
    obtain ⟨W5, hW5⟩ : ∃ W5, w4.alloc (.cells #[.int .i64 kd, .int .i64 pk, .int .i64 ln, .string nm, .string cd, .bool false, .int .i64 nn, .string tx] 39) = W5 := ⟨_, rfl⟩
    have b4 : Below X1.heap.size X1 w4 := HB3.out.trans (hb4.mono HB3.out.size)
    have n5 : Below w4.heap.size w4 W5 := by rw [← hW5]; exact (Below.refl _ w4).alloc (Nat.le_refl _) _
    have b5 : Below X1.heap.size X1 W5 := b4.trans (n5.mono b4.size)
    have f5 : Full W5 w4.heap.size 39 [.int .i64 kd, .int .i64 pk, .int .i64 ln, .string nm, .string cd, .bool false, .int .i64 nn, .string tx] := by rw [← hW5]; exact Full.new w4 _ _
    have HB5 : Hid (Below X1.heap.size X1 W5) := b5
    have HF5 : Hid (Full W5 w4.heap.size 39 [.int .i64 kd, .int .i64 pk, .int .i64 ln, .string nm, .string cd, .bool false, .int .i64 nn, .string tx]) := f5
    obtain ⟨⟨g0, -⟩, ⟨g1, -⟩, ⟨g2, -⟩, ⟨g3, -⟩, ⟨g4, -⟩, ⟨g5, -⟩, ⟨g6, -⟩, ⟨g7, -⟩⟩ := f5.cell8
    obtain ⟨c0, c1, c2, c3, c4, c5, c6, c7, c8, c9⟩ := (HF.out W5 b5).1.cell10
    have hne := neqSame kd pk ln nm cd nn tx
    clear b4 n5 b5 f5 hb4 HB3
    subst hW5
    obtain ⟨N, hN⟩ : ∃ N : Nat, fewS C = N := ⟨_, rfl⟩
    have hN3 : N ≤ 3 := by rw [← hN]; unfold fewS; split; omega; split <;> omega
    obtain ⟨V, hV⟩ : ∃ V : ByteArray, V = ⟨(spS s.data.toList B N).toArray⟩ := ⟨_, rfl⟩
    have hVl : V.data.toList = spS s.data.toList B N := by rw [hV]
    have hVs : V.size ≤ 2000000 := by
      have h1 := spS_len s.data.toList B N
      have h2 := HBm.out
      have h3 := HBn.out
      rw [Lib.size_eq, hVl]
      rw [Lib.size_eq] at hss
      omega
    obtain ⟨y1, hy1, hy1l, hy1s⟩ := cat_exR ⟨#[9, 32]⟩ V (by show 2 + V.size ≤ _; omega)
    obtain ⟨y2, hy2, hy2l, hy2s⟩ := cat_exR y1 ⟨#[32]⟩ (by rw [hy1s]; show 2 + V.size + 1 ≤ _; omega)
    have HY : Hid (y2.data.toList = [9, 32] ++ spS (lnS C) B (fewS C) ++ [32]) := by
      show y2.data.toList = _
      rw [hy2l, hy1l, hVl, HS.out, hN]
    clear hy1l hy2l hy1s hy2s hVl hVs
    go_wp2_with fail
    generalize hWW : w4.alloc (.cells #[.int .i64 kd, .int .i64 pk, .int .i64 ln, .string nm, .string cd, .bool false, .int .i64 nn, .string tx] 39) = W5 at *
    clear hWW
    have i9 := cell_regrown c9
    have j0 := cell_regrown g0
    have j1 := cell_regrown g1
    have j2 := cell_regrown g2
    have j3 := cell_regrown g3
    have j4 := cell_regrown g4
    have j5 := cell_regrown g5
    have j6 := cell_regrown g6
    have j7 := cell_regrown g7
    have d11 : ∀ d os, Calls Tryd.prog 10 #[.agg #[.int .i64 kd, .int .i64 pk, .int .i64 ln, .string nm, .string cd, .bool false, .int .i64 nn, .string tx]] (Sort.grow (redrawn W5 d) os) fun e w'' => e = .returned (.int .i64 (N : Int)) ∧ ∃ p : Regrown, w'' = Sort.grow (redrawn W5 p.d) p.os := fun d os => by
      have h := few_any kd pk ln nn nm cd tx false (Sort.grow (redrawn W5 d) os)
      rw [← HC.out, hN] at h
      exact Calls.regrown_of h
    have d12 : ∀ d os, Calls Tryd.prog 9 #[.string s, .slice q m cap, .int .i64 (N : Int)] (Sort.grow (redrawn W5 d) os) fun e w'' => e = .returned (.string V) ∧ ∃ p : Regrown, w'' = Sort.grow (redrawn W5 p.d) p.os := fun d os => by
      have hb2 := HB5.out.trans ((below_regrown W5 d os).mono HB5.out.size)
      rw [hV]
      exact Calls.regrown_of (HSp.out s N _ hss hN3 ((HF.out _ hb2).2.2.2.up (HF.out _ hb2).2.1.size))
    clear g0 g1 g2 g3 g4 g5 g6 g7 c0 c1 c2 c3 c4 c5 c6 c7 c8 c9 hV
    refine wp_region_quiet_below (by kernel_rfl) (by kernel_rfl) ?_
    repeat (first | go_big_quiet_step (first | with_reducible exact d11 _ _ | with_reducible exact d12 _ _) | quiet_step (first | with_reducible exact d11 _ _ | with_reducible exact d12 _ _))
    refine wpQuiet_nil ?_
    intro _ hw'
    obtain ⟨⟨dq, osq⟩, hw''⟩ := hw'
    subst hw''
    have hY := below_regrown W5 dq osq
    first | (change Exit.then _ _ Exit.normal _ (Sort.grow (redrawn W5 dq) osq)) | skip
    generalize Sort.grow (redrawn W5 dq) osq = Y at hY ⊢
    clear i9 j0 j1 j2 j3 j4 j5 j6 j7 d11 d12
    have hbY := HB5.out.trans (hY.mono HB5.out.size)
    have HFY : Hid (Full Y w4.heap.size 39 [.int .i64 kd, .int .i64 pk, .int .i64 ln, .string nm, .string cd, .bool false, .int .i64 nn, .string tx]) := HF5.out.next hY
    have HBY : Hid (Below X1.heap.size X1 Y) := hbY
    have HPw := parse_any y2 Y (HF.out Y hbY).2.2.1
    rw [HY.out] at HPw
    clear hY hbY HF5 HB5 hss
    go_wp2_with fail
    refine HPw.mono ?_
    rintro e w6 ⟨k, a1, a2, a3, a4, a6, a7, er, rfl, hq⟩
    clear HPw
    obtain ⟨W7, hW7⟩ : ∃ W7, w6.alloc (.cells #[.int .i64 k, .int .i64 a1, .int .i64 a2, .string a3, .string a4, .bool false, .int .i64 a6, .string a7] 39) = W7 := ⟨_, rfl⟩
    have n7 : Below w6.heap.size w6 W7 := by rw [← hW7]; exact (Below.refl _ w6).alloc (Nat.le_refl _) _
    have nY : Below Y.heap.size Y W7 := hq.out.2.trans (n7.mono hq.out.2.size)
    have HB7 : Hid (Below X1.heap.size X1 W7) := HBY.out.trans (nY.mono HBY.out.size)
    have f7 : Full W7 w6.heap.size 39 [.int .i64 k, .int .i64 a1, .int .i64 a2, .string a3, .string a4, .bool false, .int .i64 a6, .string a7] := by rw [← hW7]; exact Full.new w6 _ _
    obtain ⟨⟨g0, -⟩, ⟨g1, -⟩, ⟨g2, -⟩, ⟨g3, -⟩, ⟨g4, -⟩, ⟨g5, -⟩, ⟨g6, -⟩, ⟨g7, -⟩⟩ := (HFY.out.next nY).cell8
    obtain ⟨⟨r0, -⟩, ⟨r1, -⟩, ⟨r2, -⟩, ⟨r3, -⟩, ⟨r4, -⟩, ⟨r5, -⟩, ⟨r6, -⟩, ⟨r7, -⟩⟩ := f7.cell8
    obtain ⟨c0, c1, c2, c3, c4, c5, c6, c7, c8, c9⟩ := (HF.out W7 HB7.out).1.cell10
    have hq1 := hq.out.1
    clear hq n7 nY f7 HFY HBY
    by_cases hle : y2.size ≤ 300
    · have hpw := par_wide HP0.out B (by rw [← HY.out, ← Lib.size_eq]; exact hle)
      rcases hq1 with ⟨rfl, hpk⟩ | ⟨-, hpk, -⟩
      rotate_left
      · rw [hpw] at hpk; cases hpk
      have hcc := Option.some.inj (hpw.symm.trans hpk)
      rw [HC.out] at hcc
      simp only [Cm.mk.injEq] at hcc
      obtain ⟨rfl, rfl, rfl, e3, e4, -, rfl, e7⟩ := hcc
      obtain rfl := ba_eqB e3
      obtain rfl := ba_eqB e4
      obtain rfl := ba_eqB e7
      clear hpk hpw e3 e4 e7
      have hlz : (y2.size : Int) ≤ 300 := by omega
      subst hW7
      go_wp2_with fail
      generalize hWt : w6.alloc (.cells #[.int .i64 kd, .int .i64 pk, .int .i64 ln, .string nm, .string cd, .bool false, .int .i64 nn, .string tx] 39) = Wt at *
      clear hWt
      have HBt : Hid (Below X1.heap.size X1 Wt) := HB7
      clear HB7 g0 g1 g2 g3 g4 g5 g6 g7 r0 r1 r2 r3 r4 r5 r6 r7 HP0 HS HY hy1 hy2 hne hN hN3 hle hlz HSp HC HBn HBm HN1
      clear c0 c1 c2 c3 c4 c5 c6 c7 c8 c9
      have HPl := parse_any l Wt (HF.out Wt HBt.out).2.2.1
      refine HPl.mono ?_
      clear HPl
      rintro e v1 ⟨k, a1, a2, a3, a4, a6, a7, er, rfl, hq⟩
      obtain ⟨V2, hV2⟩ : ∃ V2, v1.alloc (.cells #[.int .i64 k, .int .i64 a1, .int .i64 a2, .string a3, .string a4, .bool false, .int .i64 a6, .string a7] 39) = V2 := ⟨_, rfl⟩
      have n2 : Below v1.heap.size v1 V2 := by rw [← hV2]; exact (Below.refl _ v1).alloc (Nat.le_refl _) _
      have nY : Below Wt.heap.size Wt V2 := hq.out.2.trans (n2.mono hq.out.2.size)
      have HB2 : Hid (Below X1.heap.size X1 V2) := HBt.out.trans (nY.mono HBt.out.size)
      have f2 : Full V2 v1.heap.size 39 [.int .i64 k, .int .i64 a1, .int .i64 a2, .string a3, .string a4, .bool false, .int .i64 a6, .string a7] := by rw [← hV2]; exact Full.new v1 _ _
      have HF2 : Hid (Full V2 v1.heap.size 39 [.int .i64 k, .int .i64 a1, .int .i64 a2, .string a3, .string a4, .bool false, .int .i64 a6, .string a7]) := f2
      obtain ⟨⟨r0, -⟩, ⟨r1, -⟩, ⟨r2, -⟩, ⟨r3, -⟩, ⟨r4, -⟩, ⟨r5, -⟩, ⟨r6, -⟩, ⟨r7, -⟩⟩ := f2.cell8
      have hq1 := hq.out.1
      clear hq n2 nY f2 HBt
      rcases hq1 with ⟨rfl, hp⟩ | ⟨rfl, -, rfl, rfl, rfl, rfl, rfl, rfl, rfl⟩
      · have hbk := par_back hp
        obtain ⟨D, hD⟩ : ∃ D : Cm, D = ⟨k, a1, a2, a3.data.toList, a4.data.toList, false, a6, a7.data.toList⟩ := ⟨_, rfl⟩
        have HTx2 : Hid (∀ W, Tb W → Calls Tryd.prog 7 #[.agg #[.int .i64 k, .int .i64 a1, .int .i64 a2, .string a3, .string a4, .bool false, .int .i64 a6, .string a7]] W (TxP W D)) := fun W hW => by
          rw [hD]; exact text_par hp W hW
        rw [← hD] at hbk
        have HT3 := HTx2.out V2 (HF.out V2 HB2.out).2.2.1
        have HD : Hid (D = ⟨k, a1, a2, a3.data.toList, a4.data.toList, false, a6, a7.data.toList⟩ ∧ parP (lnS D) = some D ∧ (lnS D).length ≤ l.data.toList.length) := ⟨hD, hbk⟩
        clear hbk hp hD
        subst hV2
        go_wp2_with fail
        refine HT3.mono ?_
        clear HT3 r0 r1 r2 r3 r4 r5 r6 r7
        rintro e v3 ⟨t, er, rfl, hq⟩
        rcases hq.out.1 with ⟨rfl, htl, -⟩ | ⟨-, -, hn⟩
        rotate_left
        · exact absurd HD.out.2.1 hn
        have hb3 := hq.out.2
        generalize v1.alloc (.cells #[.int .i64 k, .int .i64 a1, .int .i64 a2, .string a3, .string a4, .bool false, .int .i64 a6, .string a7] 39) = V2 at *
        have hx3 := HB2.out.trans (hb3.mono HB2.out.size)
        have HPt := parse_any t v3 (HF.out v3 hx3).2.2.1
        rw [htl] at HPt
        have HB3 : Hid (Below X1.heap.size X1 v3) := hx3
        have HF3 : Hid (Full v3 v1.heap.size 39 [.int .i64 k, .int .i64 a1, .int .i64 a2, .string a3, .string a4, .bool false, .int .i64 a6, .string a7]) := HF2.out.next hb3
        have HTl : Hid (t.data.toList = lnS D) := htl
        clear hq hb3 hx3 htl HF2 HB2
        go_wp2_with fail
        refine HPt.mono ?_
        rintro e v4 ⟨k', b1, b2, b3, b4, b6, b7, er, rfl, hq⟩
        clear HPt
        rcases hq.out.1 with ⟨rfl, hpk⟩ | ⟨-, hpk, -⟩
        rotate_left
        · rw [HD.out.2.1] at hpk; cases hpk
        have hcc := Option.some.inj (HD.out.2.1.symm.trans hpk)
        rw [HD.out.1] at hcc
        simp only [Cm.mk.injEq] at hcc
        obtain ⟨rfl, rfl, rfl, e3, e4, -, rfl, e7⟩ := hcc
        obtain rfl := ba_eqB e3
        obtain rfl := ba_eqB e4
        obtain rfl := ba_eqB e7
        have hb4 := hq.out.2
        clear hpk e3 e4 e7 hq
        obtain ⟨V5, hV5⟩ : ∃ V5, v4.alloc (.cells #[.int .i64 k, .int .i64 a1, .int .i64 a2, .string a3, .string a4, .bool false, .int .i64 a6, .string a7] 39) = V5 := ⟨_, rfl⟩
        have n5 : Below v4.heap.size v4 V5 := by rw [← hV5]; exact (Below.refl _ v4).alloc (Nat.le_refl _) _
        have nY : Below v3.heap.size v3 V5 := hb4.trans (n5.mono hb4.size)
        have HB5 : Hid (Below X1.heap.size X1 V5) := HB3.out.trans (nY.mono HB3.out.size)
        have f5 : Full V5 v4.heap.size 39 [.int .i64 k, .int .i64 a1, .int .i64 a2, .string a3, .string a4, .bool false, .int .i64 a6, .string a7] := by rw [← hV5]; exact Full.new v4 _ _
        have HF5 : Hid (Full V5 v4.heap.size 39 [.int .i64 k, .int .i64 a1, .int .i64 a2, .string a3, .string a4, .bool false, .int .i64 a6, .string a7]) := f5
        have HG5 : Hid (Full V5 v1.heap.size 39 [.int .i64 k, .int .i64 a1, .int .i64 a2, .string a3, .string a4, .bool false, .int .i64 a6, .string a7]) := HF3.out.next nY
        obtain ⟨⟨r0, -⟩, ⟨r1, -⟩, ⟨r2, -⟩, ⟨r3, -⟩, ⟨r4, -⟩, ⟨r5, -⟩, ⟨r6, -⟩, ⟨r7, -⟩⟩ := f5.cell8
        have HT5 := HTx2.out V5 (HF.out V5 HB5.out).2.2.1
        clear n5 nY f5 hb4 HF3 HB3 HTx2
        subst hV5
        go_wp2_with fail
        refine HT5.mono ?_
        clear HT5 r0 r1 r2 r3 r4 r5 r6 r7
        rintro e v6 ⟨u, er, rfl, hq⟩
        rcases hq.out.1 with ⟨rfl, hul, -⟩ | ⟨-, -, hn⟩
        rotate_left
        · exact absurd HD.out.2.1 hn
        have hb6 := hq.out.2
        obtain rfl : t = u := ba_eqB (HTl.out.trans hul.symm)
        have hlt : (t.size : Int) ≤ (l.size : Int) := by
          have := HD.out.2.2
          rw [Lib.size_eq, Lib.size_eq, HTl.out]; omega
        have HBw : Hid (Below w.heap.size w v6) := (HF.out v6 (HB5.out.trans (hb6.mono HB5.out.size))).2.1
        obtain ⟨⟨r0, -⟩, ⟨r1, -⟩, ⟨r2, -⟩, ⟨r3, -⟩, ⟨r4, -⟩, ⟨r5, -⟩, ⟨r6, -⟩, ⟨r7, -⟩⟩ := (HF5.out.next hb6).cell8
        obtain ⟨⟨g0, -⟩, ⟨g1, -⟩, ⟨g2, -⟩, ⟨g3, -⟩, ⟨g4, -⟩, ⟨g5, -⟩, ⟨g6, -⟩, ⟨g7, -⟩⟩ := (HG5.out.next hb6).cell8
        obtain ⟨c0, c1, c2, c3, c4, c5, c6, c7, c8, c9⟩ := (HF.out v6 (HB5.out.trans (hb6.mono HB5.out.size))).1.cell10
        have he1 := eqSameB k a1 a2 a3 a4 a6 a7
        clear hq hul hb6 HF5 HG5 HB5 HF HD HTl
        go_wp2
        go_ret
        exact ⟨rfl, HBw.out⟩
      · have he0 := eqSameB 0 0 0 ⟨#[]⟩ ⟨#[]⟩ 0 ⟨#[]⟩
        have HBw : Hid (Below w.heap.size w V2) := (HF.out _ HB2.out).2.1
        subst hV2
        clear HF HB2 HF2
        go_wp2
        go_ret
        exact ⟨rfl, HBw.out⟩
    · have hlz : ¬ (y2.size : Int) ≤ 300 := by omega
      clear hq1
      subst hW7
      go_wp2_with fail
      generalize hWt : w6.alloc (.cells #[.int .i64 k, .int .i64 a1, .int .i64 a2, .string a3, .string a4, .bool false, .int .i64 a6, .string a7] 39) = Wt at *
      clear hWt
      have HBt : Hid (Below X1.heap.size X1 Wt) := HB7
      clear HB7 g0 g1 g2 g3 g4 g5 g6 g7 r0 r1 r2 r3 r4 r5 r6 r7 HP0 HS HY hy1 hy2 hne hN hN3 hle hlz HSp HC HBn HBm HN1
      clear c0 c1 c2 c3 c4 c5 c6 c7 c8 c9
      have HPl := parse_any l Wt (HF.out Wt HBt.out).2.2.1
      refine HPl.mono ?_
      clear HPl
      rintro e v1 ⟨k, a1, a2, a3, a4, a6, a7, er, rfl, hq⟩
      obtain ⟨V2, hV2⟩ : ∃ V2, v1.alloc (.cells #[.int .i64 k, .int .i64 a1, .int .i64 a2, .string a3, .string a4, .bool false, .int .i64 a6, .string a7] 39) = V2 := ⟨_, rfl⟩
      have n2 : Below v1.heap.size v1 V2 := by rw [← hV2]; exact (Below.refl _ v1).alloc (Nat.le_refl _) _
      have nY : Below Wt.heap.size Wt V2 := hq.out.2.trans (n2.mono hq.out.2.size)
      have HB2 : Hid (Below X1.heap.size X1 V2) := HBt.out.trans (nY.mono HBt.out.size)
      have f2 : Full V2 v1.heap.size 39 [.int .i64 k, .int .i64 a1, .int .i64 a2, .string a3, .string a4, .bool false, .int .i64 a6, .string a7] := by rw [← hV2]; exact Full.new v1 _ _
      have HF2 : Hid (Full V2 v1.heap.size 39 [.int .i64 k, .int .i64 a1, .int .i64 a2, .string a3, .string a4, .bool false, .int .i64 a6, .string a7]) := f2
      obtain ⟨⟨r0, -⟩, ⟨r1, -⟩, ⟨r2, -⟩, ⟨r3, -⟩, ⟨r4, -⟩, ⟨r5, -⟩, ⟨r6, -⟩, ⟨r7, -⟩⟩ := f2.cell8
      have hq1 := hq.out.1
      clear hq n2 nY f2 HBt
      rcases hq1 with ⟨rfl, hp⟩ | ⟨rfl, -, rfl, rfl, rfl, rfl, rfl, rfl, rfl⟩
      · have hbk := par_back hp
        obtain ⟨D, hD⟩ : ∃ D : Cm, D = ⟨k, a1, a2, a3.data.toList, a4.data.toList, false, a6, a7.data.toList⟩ := ⟨_, rfl⟩
        have HTx2 : Hid (∀ W, Tb W → Calls Tryd.prog 7 #[.agg #[.int .i64 k, .int .i64 a1, .int .i64 a2, .string a3, .string a4, .bool false, .int .i64 a6, .string a7]] W (TxP W D)) := fun W hW => by
          rw [hD]; exact text_par hp W hW
        rw [← hD] at hbk
        have HT3 := HTx2.out V2 (HF.out V2 HB2.out).2.2.1
        have HD : Hid (D = ⟨k, a1, a2, a3.data.toList, a4.data.toList, false, a6, a7.data.toList⟩ ∧ parP (lnS D) = some D ∧ (lnS D).length ≤ l.data.toList.length) := ⟨hD, hbk⟩
        clear hbk hp hD
        subst hV2
        go_wp2_with fail
        refine HT3.mono ?_
        clear HT3 r0 r1 r2 r3 r4 r5 r6 r7
        rintro e v3 ⟨t, er, rfl, hq⟩
        rcases hq.out.1 with ⟨rfl, htl, -⟩ | ⟨-, -, hn⟩
        rotate_left
        · exact absurd HD.out.2.1 hn
        have hb3 := hq.out.2
        generalize v1.alloc (.cells #[.int .i64 k, .int .i64 a1, .int .i64 a2, .string a3, .string a4, .bool false, .int .i64 a6, .string a7] 39) = V2 at *
        have hx3 := HB2.out.trans (hb3.mono HB2.out.size)
        have HPt := parse_any t v3 (HF.out v3 hx3).2.2.1
        rw [htl] at HPt
        have HB3 : Hid (Below X1.heap.size X1 v3) := hx3
        have HF3 : Hid (Full v3 v1.heap.size 39 [.int .i64 k, .int .i64 a1, .int .i64 a2, .string a3, .string a4, .bool false, .int .i64 a6, .string a7]) := HF2.out.next hb3
        have HTl : Hid (t.data.toList = lnS D) := htl
        clear hq hb3 hx3 htl HF2 HB2
        go_wp2_with fail
        refine HPt.mono ?_
        rintro e v4 ⟨k', b1, b2, b3, b4, b6, b7, er, rfl, hq⟩
        clear HPt
        rcases hq.out.1 with ⟨rfl, hpk⟩ | ⟨-, hpk, -⟩
        rotate_left
        · rw [HD.out.2.1] at hpk; cases hpk
        have hcc := Option.some.inj (HD.out.2.1.symm.trans hpk)
        rw [HD.out.1] at hcc
        simp only [Cm.mk.injEq] at hcc
        obtain ⟨rfl, rfl, rfl, e3, e4, -, rfl, e7⟩ := hcc
        obtain rfl := ba_eqB e3
        obtain rfl := ba_eqB e4
        obtain rfl := ba_eqB e7
        have hb4 := hq.out.2
        clear hpk e3 e4 e7 hq
        obtain ⟨V5, hV5⟩ : ∃ V5, v4.alloc (.cells #[.int .i64 k, .int .i64 a1, .int .i64 a2, .string a3, .string a4, .bool false, .int .i64 a6, .string a7] 39) = V5 := ⟨_, rfl⟩
        have n5 : Below v4.heap.size v4 V5 := by rw [← hV5]; exact (Below.refl _ v4).alloc (Nat.le_refl _) _
        have nY : Below v3.heap.size v3 V5 := hb4.trans (n5.mono hb4.size)
        have HB5 : Hid (Below X1.heap.size X1 V5) := HB3.out.trans (nY.mono HB3.out.size)
        have f5 : Full V5 v4.heap.size 39 [.int .i64 k, .int .i64 a1, .int .i64 a2, .string a3, .string a4, .bool false, .int .i64 a6, .string a7] := by rw [← hV5]; exact Full.new v4 _ _
        have HF5 : Hid (Full V5 v4.heap.size 39 [.int .i64 k, .int .i64 a1, .int .i64 a2, .string a3, .string a4, .bool false, .int .i64 a6, .string a7]) := f5
        have HG5 : Hid (Full V5 v1.heap.size 39 [.int .i64 k, .int .i64 a1, .int .i64 a2, .string a3, .string a4, .bool false, .int .i64 a6, .string a7]) := HF3.out.next nY
        obtain ⟨⟨r0, -⟩, ⟨r1, -⟩, ⟨r2, -⟩, ⟨r3, -⟩, ⟨r4, -⟩, ⟨r5, -⟩, ⟨r6, -⟩, ⟨r7, -⟩⟩ := f5.cell8
        have HT5 := HTx2.out V5 (HF.out V5 HB5.out).2.2.1
        clear n5 nY f5 hb4 HF3 HB3 HTx2
        subst hV5
        go_wp2_with fail
        refine HT5.mono ?_
        clear HT5 r0 r1 r2 r3 r4 r5 r6 r7
        rintro e v6 ⟨u, er, rfl, hq⟩
        rcases hq.out.1 with ⟨rfl, hul, -⟩ | ⟨-, -, hn⟩
        rotate_left
        · exact absurd HD.out.2.1 hn
        have hb6 := hq.out.2
        obtain rfl : t = u := ba_eqB (HTl.out.trans hul.symm)
        have hlt : (t.size : Int) ≤ (l.size : Int) := by
          have := HD.out.2.2
          rw [Lib.size_eq, Lib.size_eq, HTl.out]; omega
        have HBw : Hid (Below w.heap.size w v6) := (HF.out v6 (HB5.out.trans (hb6.mono HB5.out.size))).2.1
        obtain ⟨⟨r0, -⟩, ⟨r1, -⟩, ⟨r2, -⟩, ⟨r3, -⟩, ⟨r4, -⟩, ⟨r5, -⟩, ⟨r6, -⟩, ⟨r7, -⟩⟩ := (HF5.out.next hb6).cell8
        obtain ⟨⟨g0, -⟩, ⟨g1, -⟩, ⟨g2, -⟩, ⟨g3, -⟩, ⟨g4, -⟩, ⟨g5, -⟩, ⟨g6, -⟩, ⟨g7, -⟩⟩ := (HG5.out.next hb6).cell8
        obtain ⟨c0, c1, c2, c3, c4, c5, c6, c7, c8, c9⟩ := (HF.out v6 (HB5.out.trans (hb6.mono HB5.out.size))).1.cell10
        have he1 := eqSameB k a1 a2 a3 a4 a6 a7
        clear hq hul hb6 HF5 HG5 HB5 HF HD HTl
        go_wp2
        go_ret
        exact ⟨rfl, HBw.out⟩
      · have he0 := eqSameB 0 0 0 ⟨#[]⟩ ⟨#[]⟩ 0 ⟨#[]⟩
        have HBw : Hid (Below w.heap.size w V2) := (HF.out _ HB2.out).2.1
        subst hV2
        clear HF HB2 HF2
        go_wp2
        go_ret
        exact ⟨rfl, HBw.out⟩
  · clear hx3 hb3
    go_wp2_with fail
    obtain ⟨Wt, hWt⟩ : ∃ Wt, Wt = w3 := ⟨_, rfl⟩
    subst hWt
    have HBt : Hid (Below X1.heap.size X1 Wt) := HB3
    clear HB3 hp HSp HC HBn HBm HN1 c0 c1 c2 c3 c4 c5 c6 c7 c8 c9
    have HPl := parse_any l Wt (HF.out Wt HBt.out).2.2.1
    refine HPl.mono ?_
    clear HPl
    rintro e v1 ⟨k, a1, a2, a3, a4, a6, a7, er, rfl, hq⟩
    obtain ⟨V2, hV2⟩ : ∃ V2, v1.alloc (.cells #[.int .i64 k, .int .i64 a1, .int .i64 a2, .string a3, .string a4, .bool false, .int .i64 a6, .string a7] 39) = V2 := ⟨_, rfl⟩
    have n2 : Below v1.heap.size v1 V2 := by rw [← hV2]; exact (Below.refl _ v1).alloc (Nat.le_refl _) _
    have nY : Below Wt.heap.size Wt V2 := hq.out.2.trans (n2.mono hq.out.2.size)
    have HB2 : Hid (Below X1.heap.size X1 V2) := HBt.out.trans (nY.mono HBt.out.size)
    have f2 : Full V2 v1.heap.size 39 [.int .i64 k, .int .i64 a1, .int .i64 a2, .string a3, .string a4, .bool false, .int .i64 a6, .string a7] := by rw [← hV2]; exact Full.new v1 _ _
    have HF2 : Hid (Full V2 v1.heap.size 39 [.int .i64 k, .int .i64 a1, .int .i64 a2, .string a3, .string a4, .bool false, .int .i64 a6, .string a7]) := f2
    obtain ⟨⟨r0, -⟩, ⟨r1, -⟩, ⟨r2, -⟩, ⟨r3, -⟩, ⟨r4, -⟩, ⟨r5, -⟩, ⟨r6, -⟩, ⟨r7, -⟩⟩ := f2.cell8
    have hq1 := hq.out.1
    clear hq n2 nY f2 HBt
    rcases hq1 with ⟨rfl, hp⟩ | ⟨rfl, -, rfl, rfl, rfl, rfl, rfl, rfl, rfl⟩
    · have hbk := par_back hp
      obtain ⟨D, hD⟩ : ∃ D : Cm, D = ⟨k, a1, a2, a3.data.toList, a4.data.toList, false, a6, a7.data.toList⟩ := ⟨_, rfl⟩
      have HTx2 : Hid (∀ W, Tb W → Calls Tryd.prog 7 #[.agg #[.int .i64 k, .int .i64 a1, .int .i64 a2, .string a3, .string a4, .bool false, .int .i64 a6, .string a7]] W (TxP W D)) := fun W hW => by
        rw [hD]; exact text_par hp W hW
      rw [← hD] at hbk
      have HT3 := HTx2.out V2 (HF.out V2 HB2.out).2.2.1
      have HD : Hid (D = ⟨k, a1, a2, a3.data.toList, a4.data.toList, false, a6, a7.data.toList⟩ ∧ parP (lnS D) = some D ∧ (lnS D).length ≤ l.data.toList.length) := ⟨hD, hbk⟩
      clear hbk hp hD
      subst hV2
      go_wp2_with fail
      refine HT3.mono ?_
      clear HT3 r0 r1 r2 r3 r4 r5 r6 r7
      rintro e v3 ⟨t, er, rfl, hq⟩
      rcases hq.out.1 with ⟨rfl, htl, -⟩ | ⟨-, -, hn⟩
      rotate_left
      · exact absurd HD.out.2.1 hn
      have hb3 := hq.out.2
      generalize v1.alloc (.cells #[.int .i64 k, .int .i64 a1, .int .i64 a2, .string a3, .string a4, .bool false, .int .i64 a6, .string a7] 39) = V2 at *
      have hx3 := HB2.out.trans (hb3.mono HB2.out.size)
      have HPt := parse_any t v3 (HF.out v3 hx3).2.2.1
      rw [htl] at HPt
      have HB3 : Hid (Below X1.heap.size X1 v3) := hx3
      have HF3 : Hid (Full v3 v1.heap.size 39 [.int .i64 k, .int .i64 a1, .int .i64 a2, .string a3, .string a4, .bool false, .int .i64 a6, .string a7]) := HF2.out.next hb3
      have HTl : Hid (t.data.toList = lnS D) := htl
      clear hq hb3 hx3 htl HF2 HB2
      go_wp2_with fail
      refine HPt.mono ?_
      rintro e v4 ⟨k', b1, b2, b3, b4, b6, b7, er, rfl, hq⟩
      clear HPt
      rcases hq.out.1 with ⟨rfl, hpk⟩ | ⟨-, hpk, -⟩
      rotate_left
      · rw [HD.out.2.1] at hpk; cases hpk
      have hcc := Option.some.inj (HD.out.2.1.symm.trans hpk)
      rw [HD.out.1] at hcc
      simp only [Cm.mk.injEq] at hcc
      obtain ⟨rfl, rfl, rfl, e3, e4, -, rfl, e7⟩ := hcc
      obtain rfl := ba_eqB e3
      obtain rfl := ba_eqB e4
      obtain rfl := ba_eqB e7
      have hb4 := hq.out.2
      clear hpk e3 e4 e7 hq
      obtain ⟨V5, hV5⟩ : ∃ V5, v4.alloc (.cells #[.int .i64 k, .int .i64 a1, .int .i64 a2, .string a3, .string a4, .bool false, .int .i64 a6, .string a7] 39) = V5 := ⟨_, rfl⟩
      have n5 : Below v4.heap.size v4 V5 := by rw [← hV5]; exact (Below.refl _ v4).alloc (Nat.le_refl _) _
      have nY : Below v3.heap.size v3 V5 := hb4.trans (n5.mono hb4.size)
      have HB5 : Hid (Below X1.heap.size X1 V5) := HB3.out.trans (nY.mono HB3.out.size)
      have f5 : Full V5 v4.heap.size 39 [.int .i64 k, .int .i64 a1, .int .i64 a2, .string a3, .string a4, .bool false, .int .i64 a6, .string a7] := by rw [← hV5]; exact Full.new v4 _ _
      have HF5 : Hid (Full V5 v4.heap.size 39 [.int .i64 k, .int .i64 a1, .int .i64 a2, .string a3, .string a4, .bool false, .int .i64 a6, .string a7]) := f5
      have HG5 : Hid (Full V5 v1.heap.size 39 [.int .i64 k, .int .i64 a1, .int .i64 a2, .string a3, .string a4, .bool false, .int .i64 a6, .string a7]) := HF3.out.next nY
      obtain ⟨⟨r0, -⟩, ⟨r1, -⟩, ⟨r2, -⟩, ⟨r3, -⟩, ⟨r4, -⟩, ⟨r5, -⟩, ⟨r6, -⟩, ⟨r7, -⟩⟩ := f5.cell8
      have HT5 := HTx2.out V5 (HF.out V5 HB5.out).2.2.1
      clear n5 nY f5 hb4 HF3 HB3 HTx2
      subst hV5
      go_wp2_with fail
      refine HT5.mono ?_
      clear HT5 r0 r1 r2 r3 r4 r5 r6 r7
      rintro e v6 ⟨u, er, rfl, hq⟩
      rcases hq.out.1 with ⟨rfl, hul, -⟩ | ⟨-, -, hn⟩
      rotate_left
      · exact absurd HD.out.2.1 hn
      have hb6 := hq.out.2
      obtain rfl : t = u := ba_eqB (HTl.out.trans hul.symm)
      have hlt : (t.size : Int) ≤ (l.size : Int) := by
        have := HD.out.2.2
        rw [Lib.size_eq, Lib.size_eq, HTl.out]; omega
      have HBw : Hid (Below w.heap.size w v6) := (HF.out v6 (HB5.out.trans (hb6.mono HB5.out.size))).2.1
      obtain ⟨⟨r0, -⟩, ⟨r1, -⟩, ⟨r2, -⟩, ⟨r3, -⟩, ⟨r4, -⟩, ⟨r5, -⟩, ⟨r6, -⟩, ⟨r7, -⟩⟩ := (HF5.out.next hb6).cell8
      obtain ⟨⟨g0, -⟩, ⟨g1, -⟩, ⟨g2, -⟩, ⟨g3, -⟩, ⟨g4, -⟩, ⟨g5, -⟩, ⟨g6, -⟩, ⟨g7, -⟩⟩ := (HG5.out.next hb6).cell8
      obtain ⟨c0, c1, c2, c3, c4, c5, c6, c7, c8, c9⟩ := (HF.out v6 (HB5.out.trans (hb6.mono HB5.out.size))).1.cell10
      have he1 := eqSameB k a1 a2 a3 a4 a6 a7
      clear hq hul hb6 HF5 HG5 HB5 HF HD HTl
      go_wp2
      go_ret
      exact ⟨rfl, HBw.out⟩
    · have he0 := eqSameB 0 0 0 ⟨#[]⟩ ⟨#[]⟩ 0 ⟨#[]⟩
      have HBw : Hid (Below w.heap.size w V2) := (HF.out _ HB2.out).2.1
      subst hV2
      clear HF HB2 HF2
      go_wp2
      go_ret
      exact ⟨rfl, HBw.out⟩
end Go.Proofs.YtichbejmelkjeaaDoor
namespace Go.Proofs.YtichbejmelkjeaaDoor.commandBack
open Go.ChangeShapes Go.WideShapes Go.ChangeAt Go.RowKit
open Go.ChangeMaps (open_string shut_string)

set_option maxRecDepth 100000 in
theorem contract (H : Type) (enc : TypeId × Value → H) (W : World) (base : Nat) (args : Array Value) (ds gs : List (DataW H)) (before : List MemPlace)
    (hval : ∀ (j : Nat) t v, Tryd.f4.params[j]? = some t → args[j]? = some v → Value.okWide Tryd.prog W .any base t v)
    (hW : DataW.Whole enc Tryd.prog Tryd.f4.params.toList Rows.commandBackSpec.vars false W args.toList ds gs before) (hk : Rows.uptoBulkAll (ds ++ gs) ≤ 1048576) (hL : laidMetH Tryd.prog Rows.commandBackUptoRow.laid W) :
    Calls Tryd.prog 4 args W fun e W' => ∃ v, e = .returned v ∧ Rows.commandBackSpec.post enc Tryd.prog Tryd.f4 false true false false W args v W' := by
  have hW' := hW
  obtain ⟨p, q, hA0, hV, rfl, hfz, hnd⟩ := hW
  have hA : DataW.TrodAll enc Tryd.prog W 0 (fun _ => true) true Tryd.f4.params.toList args.toList ds p := hA0
  rw [Tryd.params4] at hA hval
  obtain ⟨v0, d0, hargs, rfl, h0⟩ := trodAll_one hA
  obtain rfl : args = #[v0] := by cases args; simp_all
  obtain ⟨rfl, rfl⟩ := trodVars_none hV
  have hbk : Rows.uptoBulk d0 ≤ 1048576 := by
    simp only [List.append_nil, Rows.uptoBulkAll] at hk
    omega
  obtain ⟨kd, pk, ln, nn, nm, cd, tx, l, off, q1, cap, B, rfl, hl, hn, s1, s2, s3, hB, hR, hb9⟩ := open_both (hval 0 42 v0 rfl rfl) h0 hbk
  clear hA0 hk
  simp only [List.append_nil] at hW'
  have hlt : ∀ x ∈ p, x.block < W.heap.size := fun x hx => by simpa using hW'.lt x hx
  have hT := tabs_of_laid (W := W) hL
  refine (commandBack_any kd pk ln nn nm cd tx off l q1 cap B W hT hl hn ⟨by omega, by omega, by omega⟩ hB hR hb9).mono fun e W' ⟨he, hg⟩ => ?_
  subst he
  exact ⟨_, rfl, _, _, _, [], p, [], hW', trodAll_mk1 (shut_bool Tryd.underlying4 true), trodAll_mk1 (Below.trod laidOut (by kernel_rfl) (of_decide_eq_true (by kernel_rfl)) h0 hg hlt), rfl, hg.frame _, fun h => by cases h⟩

theorem reads (os : Os) {H : Type} (enc : TypeId × Value → H) : ∃ places, DataW.whole enc Tryd.prog ((laidWorld os).forCall (fun _ _ => 0) ⟨#[], #[.agg #[.int .i64 0, .int .i64 0, .int .i64 0, .string ⟨#[]⟩, .string ⟨#[]⟩, .bool false, .int .i64 0, .string ⟨#[]⟩, .string ⟨#[]⟩, .slice none 0 0]], []⟩).memory Tryd.f4.params.toList Rows.commandBackSpec.vars false #[(.agg #[.int .i64 0, .int .i64 0, .int .i64 0, .string ⟨#[]⟩, .string ⟨#[]⟩, .bool false, .int .i64 0, .string ⟨#[]⟩, .string ⟨#[]⟩, .slice none 0 0] : Value)].toList 8 = some ([.agg [.agg [.lit (.int .i64 0), .agg [.lit (.int .i64 0), .lit (.int .i64 0), .lit (.string []), .lit (.string []), .lit (.bool false)], .lit (.int .i64 0), .lit (.string [])], .lit (.string []), .nil]], [], places) :=
  ⟨[], by kernel_rfl⟩

set_option maxRecDepth 100000 in
theorem lifted (os : Os) (started : os.Started) (H : Type) (enc : TypeId × Value → H) (F : Stop.Interp) :
    ReturnsInHanded {} Tryd.checked os 4 .any ((Rows.OpenSpec.upto Rows.commandBackSpec).preRow enc Tryd.prog Tryd.f4 Rows.commandBackUptoRow.domain false Rows.commandBackUptoRow.laid) (((Rows.OpenSpec.upto Rows.commandBackSpec).at F).post enc Tryd.prog Tryd.f4 false true false false) := by
  obtain ⟨places, hx⟩ := reads os enc
  refine returnsInHanded_of_row (C := Tryd.checked) (s := Rows.OpenSpec.upto Rows.commandBackSpec) own started (by kernel_rfl) Tryd.func4
    (witness_row_atRef (enc := enc) (C := Tryd.checked) false (laidWorld os) #[.agg #[.int .i64 0, .int .i64 0, .int .i64 0, .string ⟨#[]⟩, .string ⟨#[]⟩, .bool false, .int .i64 0, .string ⟨#[]⟩, .string ⟨#[]⟩, .slice none 0 0]] rfl (laid_vars os _) (laid_heap os _) (by kernel_rfl)
      (OpenSpec.preRow_of_cond 8 hx (by kernel_rfl) (fun k hk => by cases hk; kernel_rfl) (by kernel_rfl) (laid_met os _))) ?_
  intro W base args ds gs before hval hW _ hcond _ hL _ _
  exact contract H enc W base args ds gs before hval hW (of_decide_eq_true (hcond _ rfl)) hL

theorem said : Rows.CommandBackUptoSaid :=
  OpenClaim.holds_of_cond 4 Tryd.f4 rfl rfl rfl rfl rfl rfl rfl ⟨rfl, rfl, rfl, rfl, rfl⟩ rfl rfl rfl rfl rfl (by kernel_rfl) Tryd.func4 (by kernel_rfl)
    (of_decide_eq_true (by kernel_rfl)) (by unfold Func.isWrapper; first | (rw [if_pos (by decide +kernel)]; kernel_rfl) | (rw [if_neg (by decide +kernel)]; exact ⟨rfl, rfl⟩))
    (fun os started H enc _ F => by rw [OpenClaim.pre_eq_preRow]; exact lifted os started H enc F)

theorem plain (f : FuncId) (fn : Func) (hf : Tryd.pinned.checked.prog.funcNamed "retrace/retracelaw23.CommandBack" = some f) (hfn : Tryd.pinned.checked.prog.funcs[f]? = some fn) :
    true = Tryd.pinned.checked.prog.looks [] ∧ ∀ (j : Nat) t, fn.params[j]? = some t → Tryd.pinned.checked.prog.wantsStandIn t = false := by
  obtain rfl : f = 4 := Option.some.inj ((show Tryd.prog.funcNamed "retrace/retracelaw23.CommandBack" = some 4 by kernel_rfl).symm.trans hf) |>.symm
  obtain rfl : fn = Tryd.f4 := (Option.some.inj (Tryd.func4.symm.trans hfn)).symm
  refine ⟨by kernel_rfl, fun j t ht => ?_⟩
  rw [Tryd.params4] at ht
  obtain rfl : t = 42 := by simpa using Array.mem_of_getElem? ht
  exact (show Tryd.prog.wantsStandIn 42 = false by kernel_rfl)

theorem card : Rows.CommandBackUptoCardSaid :=
  Claim7.holds_tied_plain_at .later [] _ _ _ _ said (fun _ h => by cases h) (by kernel_rfl) (fun _ h => by cases h) commandBackUpto_row_tie rfl ⟨rfl, rfl⟩ (by kernel_rfl) rfl plain (by kernel_rfl)
end Go.Proofs.YtichbejmelkjeaaDoor.commandBack
namespace Go.Proofs.YtichbejmelkjeaaDoor
theorem CommandBack_holds : Rows.CommandBackUptoCardSaid := commandBack.card
#print axioms CommandBack_holds
end Go.Proofs.YtichbejmelkjeaaDoor
