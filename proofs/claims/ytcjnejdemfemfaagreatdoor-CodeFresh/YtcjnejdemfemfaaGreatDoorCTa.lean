import Derived.Test.YtcjnejdemfemfaaGreatDoorCSq
namespace Go.Proofs.YtcjnejdemfemfaaGreatDoor
open Go.RowKit

theorem neqI (a b c : Int) : ∀ w : World, (binOp BinOp.neq 48 (.agg #[.int .i64 a, .int .i64 b, .int .i64 c]) (.agg #[.int .i64 a, .int .i64 b, .int .i64 c])).run Tryz.prog w = .ok (.bool false) w := by
  intro w
  simp [go_sem]
/-- What Same looks at: two codes of one value, each boxed. -/
structure Two (W : World) (p2 p3 : Nat) (iq eq tq iq' eq' tq' : Option Addr) (ia ea ta ia' ea' ta' : Nat) (Es Es' : List Em) (c : Cd) : Prop where
  b2 : W.heap[p2]? = some (.cells (cv (.slice iq c.ins.length ia) (.slice eq c.ens.length ea) (.slice tq c.txs.length ta) c.main) 26)
  b3 : W.heap[p3]? = some (.cells (cv (.slice iq' c.ins.length ia') (.slice eq' c.ens.length ea') (.slice tq' c.txs.length ta') c.main) 26)
  m1 : CodeM W W.heap.size iq eq tq Es c
  m2 : CodeM W W.heap.size iq' eq' tq' Es' c
theorem Two.next {W W' : World} {p2 p3 : Nat} {iq eq tq iq' eq' tq' : Option Addr} {ia ea ta ia' ea' ta' : Nat} {Es Es' : List Em} {c : Cd} (h : Two W p2 p3 iq eq tq iq' eq' tq' ia ea ta ia' ea' ta' Es Es' c) (k : Below W.heap.size W W') : Two W' p2 p3 iq eq tq iq' eq' tq' ia ea ta ia' ea' ta' Es Es' c :=
  ⟨(k.block _ (Array.getElem?_eq_some_iff.1 h.b2).1).trans h.b2, (k.block _ (Array.getElem?_eq_some_iff.1 h.b3).1).trans h.b3, (h.m1.below k (Nat.le_refl _)).up k.size, (h.m2.below k (Nat.le_refl _)).up k.size⟩
set_option maxRecDepth 100000 in
set_option maxHeartbeats 8000000 in
theorem same_any {W : World} {iq eq tq iq' eq' tq' : Option Addr} {Es Es' : List Em} {c : Cd} (h1 : CodeM W W.heap.size iq eq tq Es c) (h2 : CodeM W W.heap.size iq' eq' tq' Es' c) (ia ea ta ia' ea' ta' : Nat) :
    Calls Tryz.prog 11 #[codeV iq eq tq ia ea ta c, codeV iq' eq' tq' ia' ea' ta' c] W fun e w' => e = .returned (.bool true) ∧ Below W.heap.size W w' := by
  have hT : Two ((W.alloc (.cells (cv (.slice iq c.ins.length ia) (.slice eq c.ens.length ea) (.slice tq c.txs.length ta) c.main) 26)).alloc (.cells (cv (.slice iq' c.ins.length ia') (.slice eq' c.ens.length ea') (.slice tq' c.txs.length ta') c.main) 26)) W.heap.size (W.heap.size + 1) iq eq tq iq' eq' tq' ia ea ta ia' ea' ta' Es Es' c := by
    have n1 : Below W.heap.size W (W.alloc (.cells (cv (.slice iq c.ins.length ia) (.slice eq c.ens.length ea) (.slice tq c.txs.length ta) c.main) 26)) := (Below.refl _ W).alloc (Nat.le_refl _) _
    have z1 : (W.alloc (.cells (cv (.slice iq c.ins.length ia) (.slice eq c.ens.length ea) (.slice tq c.txs.length ta) c.main) 26)).heap.size = W.heap.size + 1 := by simp
    have P1 := World.alloc_heap_new W (.cells (cv (.slice iq c.ins.length ia) (.slice eq c.ens.length ea) (.slice tq c.txs.length ta) c.main) 26)
    generalize W.alloc (.cells (cv (.slice iq c.ins.length ia) (.slice eq c.ens.length ea) (.slice tq c.txs.length ta) c.main) 26) = X at *
    have n2 : Below X.heap.size X (X.alloc (.cells (cv (.slice iq' c.ins.length ia') (.slice eq' c.ens.length ea') (.slice tq' c.txs.length ta') c.main) 26)) := (Below.refl _ X).alloc (Nat.le_refl _) _
    have n12 := below2 n1 n2
    refine ⟨(n2.block _ (by omega)).trans P1, ?_, (h1.below n12 (Nat.le_refl _)).up n12.size, (h2.below n12 (Nat.le_refl _)).up n12.size⟩
    rw [← z1]
    exact World.alloc_heap_new X _
  have hB : Below W.heap.size W ((W.alloc (.cells (cv (.slice iq c.ins.length ia) (.slice eq c.ens.length ea) (.slice tq c.txs.length ta) c.main) 26)).alloc (.cells (cv (.slice iq' c.ins.length ia') (.slice eq' c.ens.length ea') (.slice tq' c.txs.length ta') c.main) 26)) := ((Below.refl _ W).alloc (Nat.le_refl _) _).alloc (by simp) _
  have HIl : Hid ((c.ins.length : Int) ≤ 9223372036854775807) := by show _ ≤ _; have := h1.il; omega
  have hil : (c.ins.length : Int) ≤ 9223372036854775807 := HIl.out
  have hel : (c.ens.length : Int) ≤ 9223372036854775807 := by have := h1.el; omega
  have htl : (c.txs.length : Int) ≤ 9223372036854775807 := by have := h1.tl; omega
  show Calls Tryz.prog 11 #[.agg (cv (.slice iq c.ins.length ia) (.slice eq c.ens.length ea) (.slice tq c.txs.length ta) c.main), .agg (cv (.slice iq' c.ins.length ia') (.slice eq' c.ens.length ea') (.slice tq' c.txs.length ta') c.main)] W _
  clear h1 h2
  go_enter Tryz.func11, Tryz.ntmps11
  go_upto_region 1 with fail
  generalize (W.alloc (.cells (cv (.slice iq c.ins.length ia) (.slice eq c.ens.length ea) (.slice tq c.txs.length ta) c.main) 26)).alloc (.cells (cv (.slice iq' c.ins.length ia') (.slice eq' c.ens.length ea') (.slice tq' c.txs.length ta') c.main) 26) = W2 at *
  have HT : Hid (Two W2 W.heap.size (W.heap.size + 1) iq eq tq iq' eq' tq' ia ea ta ia' ea' ta' Es Es' c) := hT
  have HB : Hid (Below W.heap.size W W2) := hB
  obtain ⟨a0, -⟩ := blk_cell hT.b2 0 (.slice iq c.ins.length ia) rfl
  obtain ⟨a1, -⟩ := blk_cell hT.b2 1 (.slice eq c.ens.length ea) rfl
  obtain ⟨a2, -⟩ := blk_cell hT.b2 2 (.slice tq c.txs.length ta) rfl
  obtain ⟨a3, -⟩ := blk_cell hT.b2 3 (.int .i64 c.main) rfl
  obtain ⟨d0, -⟩ := blk_cell hT.b3 0 (.slice iq' c.ins.length ia') rfl
  obtain ⟨d1, -⟩ := blk_cell hT.b3 1 (.slice eq' c.ens.length ea') rfl
  obtain ⟨d2, -⟩ := blk_cell hT.b3 2 (.slice tq' c.txs.length ta') rfl
  obtain ⟨d3, -⟩ := blk_cell hT.b3 3 (.int .i64 c.main) rfl
  clear hT hB
  go_upto_region 4 with fail
  clear a0 a1 a2 a3 d0 d1 d2 d3
  go_loopw [5] (fun i wr => ∃ j : Nat, j ≤ c.ins.length ∧ i = .int .i64 (j : Int) ∧ Hid (Below W2.heap.size W2 wr)) (fun i _ => c.ins.length - (intOf i).toNat)
  case atStart => exact ⟨0, Nat.zero_le _, rfl, Below.refl _ _⟩
  case round =>
    obtain ⟨j, hj, rfl, hb⟩ := hrel
    have T := HT.out.next hb.out
    obtain ⟨a0, -⟩ := blk_cell T.b2 0 (.slice iq c.ins.length ia) rfl
    obtain ⟨d0, -⟩ := blk_cell T.b3 0 (.slice iq' c.ins.length ia') rfl
    by_cases hlt : j < c.ins.length
    · obtain ⟨g, o, rfl, -, e0', e1, e2⟩ := T.m1.ins j hlt
      obtain ⟨g', o', rfl, -, f0, f1, f2⟩ := T.m2.ins j hlt
      have nq := neqI c.ins[j].1 c.ins[j].2.1 c.ins[j].2.2
      generalize c.ins[j].1 = x0 at *
      generalize c.ins[j].2.1 = x1 at *
      generalize c.ins[j].2.2 = x2 at *
      have j0 : (0 : Int) ≤ (j : Int) := by omega
      have j1 : (j : Int) < (c.ins.length : Int) := by omega
      have ya0 := cell_regrown a0
      have yd0 := cell_regrown d0
      have y0 := cell_regrown e0'
      have y1 := cell_regrown e1
      have y2 := cell_regrown e2
      have z0 := cell_regrown f0
      have z1 := cell_regrown f1
      have z2 := cell_regrown f2
      clear T HT
      go_upto_region 6 with fail
      go_wp2_with fail
      refine wp_region_quiet_below (by kernel_rfl) (by kernel_rfl) ?_
      repeat (first | go_big_quiet_step (first | fail) | quiet_step (first | fail))
      refine wpQuiet_nil ?_
      intro _ hw'
      obtain ⟨⟨dq, osq⟩, hw''⟩ := hw'
      subst hw''
      have hY := below_regrown wr dq osq
      change Exit.then _ _ Exit.normal _ (Sort.grow (redrawn wr dq) osq)
      generalize Sort.grow (redrawn wr dq) osq = Y at hY ⊢
      have hbY : Hid (Below W2.heap.size W2 Y) := below2 hb.out hY
      go_wp2
      exact ⟨⟨j + 1, by omega, by go_num, hbY⟩, by simp [intOf]; omega⟩
    obtain rfl : j = c.ins.length := by omega
    have HB3 : Hid (Below W.heap.size W wr) := below2 HB.out hb.out
    have HT3 : Hid (Two wr W.heap.size (W.heap.size + 1) iq eq tq iq' eq' tq' ia ea ta ia' ea' ta' Es Es' c) := T
    clear HT HB hb T hlt
    go_upto_region 9 with fail
    clear a0 d0
    generalize wr = W3 at *
    go_loopw [6] (fun i wr => ∃ j : Nat, j ≤ c.txs.length ∧ i = .int .i64 (j : Int) ∧ Hid (Below W3.heap.size W3 wr)) (fun i _ => c.txs.length - (intOf i).toNat)
    case atStart => exact ⟨0, Nat.zero_le _, rfl, Below.refl _ _⟩
    case round =>
      obtain ⟨j, hj, rfl, hb⟩ := hrel
      have T := HT3.out.next hb.out
      obtain ⟨a2, -⟩ := blk_cell T.b2 2 (.slice tq c.txs.length ta) rfl
      obtain ⟨d2, -⟩ := blk_cell T.b3 2 (.slice tq' c.txs.length ta') rfl
      by_cases hlt : j < c.txs.length
      · obtain ⟨g, o, rfl, -, e0'⟩ := T.m1.txt j hlt
        obtain ⟨g', o', rfl, -, f0⟩ := T.m2.txt j hlt
        generalize c.txs[j] = x0 at *
        have nq : (x0.toList == x0.toList) = true := by simp
        have j0 : (0 : Int) ≤ (j : Int) := by omega
        have j1 : (j : Int) < (c.txs.length : Int) := by omega
        have ya0 := cell_regrown a2
        have yd0 := cell_regrown d2
        have y0 := cell_regrown e0'
        have z0 := cell_regrown f0
        clear T HT3
        go_upto_region 11 with fail
        go_wp2_with fail
        refine wp_region_quiet_below (by kernel_rfl) (by kernel_rfl) ?_
        repeat (first | go_big_quiet_step (first | fail) | quiet_step (first | fail))
        refine wpQuiet_nil ?_
        intro _ hw'
        obtain ⟨⟨dq, osq⟩, hw''⟩ := hw'
        subst hw''
        have hY := below_regrown wr dq osq
        change Exit.then _ _ Exit.normal _ (Sort.grow (redrawn wr dq) osq)
        generalize Sort.grow (redrawn wr dq) osq = Y at hY ⊢
        have hbY : Hid (Below W3.heap.size W3 Y) := below2 hb.out hY
        go_wp2
        exact ⟨⟨j + 1, by omega, by go_num, hbY⟩, by simp [intOf]; omega⟩
      obtain rfl : j = c.txs.length := by omega
      have HB4 : Hid (Below W.heap.size W wr) := below2 HB3.out hb.out
      have HT4 : Hid (Two wr W.heap.size (W.heap.size + 1) iq eq tq iq' eq' tq' ia ea ta ia' ea' ta' Es Es' c) := T
      clear HT3 HB3 hb T hlt
      go_upto_region 14 with fail
      clear a2 d2
      generalize wr = W4 at *
      go_loopw [7] (fun i wr => ∃ j : Nat, j ≤ c.ens.length ∧ i = .int .i64 (j : Int) ∧ Hid (Below W4.heap.size W4 wr)) (fun i _ => c.ens.length - (intOf i).toNat)
      case atStart => exact ⟨0, Nat.zero_le _, rfl, Below.refl _ _⟩
      case round =>
        obtain ⟨j, hj, rfl, hb⟩ := hrel
        have T := HT4.out.next hb.out
        obtain ⟨a1, -⟩ := blk_cell T.b2 1 (.slice eq c.ens.length ea) rfl
        obtain ⟨d1, -⟩ := blk_cell T.b3 1 (.slice eq' c.ens.length ea') rfl
        by_cases hlt : j < c.ens.length
        case neg =>
          obtain rfl : j = c.ens.length := by omega
          have hF : Below W.heap.size W wr := below2 HB4.out hb.out
          clear T
          go_wp2
          first | (change bodyPost Tryz.prog Tryz.f11 _ Exit.ret _ _) | (simp only [Exit.noGoto]) | skip
          go_ret
          exact ⟨rfl, hF⟩
        have hl1 : j < Es.length := by rw [T.m1.len]; exact hlt
        have hl2 : j < Es'.length := by rw [T.m2.len]; exact hlt
        have hee : Es'[j].1 = Es[j].1 := (T.m2.enAt j hl2).symm.trans (T.m1.enAt j hl1)
        obtain ⟨g, o, rfl, -, e0', e1, e2, e3, e4⟩ := T.m1.ent j hl1
        obtain ⟨g', o', rfl, -, f0, f1, f2, f3, f4⟩ := T.m2.ent j hl2
        have r1 := (T.m1.sr _ (List.getElem_mem hl1))
        have r2 := (T.m2.sr _ (List.getElem_mem hl2)).1
        have hsl : ((Es[j].1.sorts.length : Nat) : Int) ≤ 9223372036854775807 := by have := r1.2.2; omega
        replace r1 := r1.1
        rw [hee] at f0 f1 f2 f3 f4 r2
        generalize Es[j].1 = ee at *
        generalize Es[j].2.1 = qa at *
        generalize Es[j].2.2 = ca at *
        generalize Es'[j].2.1 = qb at *
        generalize Es'[j].2.2 = cb at *
        obtain ⟨nm, st, pr, so, rs⟩ := ee
        simp only at e0' e1 e2 e3 e4 f0 f1 f2 f3 f4 r1 r2 hsl
        have j0 : (0 : Int) ≤ (j : Int) := by omega
        have j1 : (j : Int) < (c.ens.length : Int) := by omega
        obtain ⟨X1, hX1⟩ : ∃ X1, X1 = wr.alloc (.cells (ev nm st pr (.slice qa so.length ca) rs) 43) := ⟨_, rfl⟩
        have nb1 : Below wr.heap.size wr X1 := by rw [hX1]; exact (Below.refl _ wr).alloc (Nat.le_refl _) _
        have P1 : X1.heap[wr.heap.size]? = some (.cells (ev nm st pr (.slice qa so.length ca) rs) 43) := by rw [hX1]; exact World.alloc_heap_new wr _
        have z1 : X1.heap.size = wr.heap.size + 1 := by rw [hX1]; simp
        obtain ⟨X2, hX2⟩ : ∃ X2, X2 = X1.alloc (.cells (ev nm st pr (.slice qb so.length cb) rs) 43) := ⟨_, rfl⟩
        have nb2 : Below X1.heap.size X1 X2 := by rw [hX2]; exact (Below.refl _ X1).alloc (Nat.le_refl _) _
        have P2 : X2.heap[X1.heap.size]? = some (.cells (ev nm st pr (.slice qb so.length cb) rs) 43) := by rw [hX2]; exact World.alloc_heap_new X1 _
        have Q2 : X2.heap[wr.heap.size]? = some (.cells (ev nm st pr (.slice qa so.length ca) rs) 43) := (nb2.block _ (by omega)).trans P1
        rw [z1] at P2
        have HE2 : Hid (X2.heap[wr.heap.size]? = some (.cells (ev nm st pr (.slice qa so.length ca) rs) 43) ∧ X2.heap[wr.heap.size + 1]? = some (.cells (ev nm st pr (.slice qb so.length cb) rs) 43) ∧ wr.heap.size + 1 < X2.heap.size) := ⟨Q2, P2, (Array.getElem?_eq_some_iff.1 P2).1⟩
        have HR1 : Hid (Row X2 X2.heap.size qa so.length (sv so)) := (r1.below (below2 nb1 nb2) (Nat.le_refl _)).up (below2 nb1 nb2).size
        have HR2 : Hid (Row X2 X2.heap.size qb so.length (sv so)) := (r2.below (below2 nb1 nb2) (Nat.le_refl _)).up (below2 nb1 nb2).size
        have HBX : Hid (Below W4.heap.size W4 X2) := below2 hb.out (below2 nb1 nb2)
        have hg2 : g' < wr.heap.size := by
          obtain ⟨g3, o3, e3', hg3, -⟩ := T.m2.ent j hl2
          cases e3'
          exact hg3
        obtain ⟨d1', -⟩ := blk_cell (T.next nb1).b3 1 (.slice (some ⟨g', o', none⟩) c.ens.length ea') rfl
        have F0 := (nb1.cell (p := ⟨g', o' + j * 5, none⟩) hg2).trans f0
        have F1 := (nb1.cell (p := ⟨g', o' + j * 5 + 1, none⟩) hg2).trans f1
        have F2 := (nb1.cell (p := ⟨g', o' + j * 5 + 2, none⟩) hg2).trans f2
        have F3 := (nb1.cell (p := ⟨g', o' + j * 5 + 3, none⟩) hg2).trans f3
        have F4 := (nb1.cell (p := ⟨g', o' + j * 5 + 4, none⟩) hg2).trans f4
        have HX1 : Hid (X1 = wr.alloc (.cells (ev nm st pr (.slice qa so.length ca) rs) 43)) := hX1
        have HX2 : Hid (X2 = X1.alloc (.cells (ev nm st pr (.slice qb so.length cb) rs) 43)) := hX2
        clear hX1 hX2 P1 P2 Q2 nb1 nb2 r1 r2 T HT4 hb hl1 hl2 hg2 hee f0 f1 f2 f3 f4
        have Z1 : Hid (X1.heap.size = wr.heap.size + 1) := z1
        clear z1
        go_upto_region 17 with fail
        rw [← HX1.out]
        clear HX1 e0' e1 e2 e3 e4 a1 d1
        go_upto_region 18 with fail
        rw [← HX2.out, Z1.out]
        clear HX2 Z1 F0 F1 F2 F3 F4 d1'
        generalize wr.heap.size = p8 at *
        obtain ⟨s0, -⟩ := blk_cell HE2.out.1 0 (.string nm) rfl
        obtain ⟨s1, -⟩ := blk_cell HE2.out.1 1 (.int .i64 st) rfl
        obtain ⟨s2, -⟩ := blk_cell HE2.out.1 2 (.int .i64 pr) rfl
        obtain ⟨s3, -⟩ := blk_cell HE2.out.1 3 (.slice qa so.length ca) rfl
        obtain ⟨s4, -⟩ := blk_cell HE2.out.1 4 (.int .i64 rs) rfl
        obtain ⟨t0, -⟩ := blk_cell HE2.out.2.1 0 (.string nm) rfl
        obtain ⟨t1, -⟩ := blk_cell HE2.out.2.1 1 (.int .i64 st) rfl
        obtain ⟨t2, -⟩ := blk_cell HE2.out.2.1 2 (.int .i64 pr) rfl
        obtain ⟨t3, -⟩ := blk_cell HE2.out.2.1 3 (.slice qb so.length cb) rfl
        obtain ⟨t4, -⟩ := blk_cell HE2.out.2.1 4 (.int .i64 rs) rfl
        go_upto_region 21 with fail
        clear s0 s1 s2 s3 s4 t0 t1 t2 t3 t4
        go_loopw [10] (fun i wr => ∃ m : Nat, m ≤ so.length ∧ i = .int .i64 (m : Int) ∧ Hid (Below X2.heap.size X2 wr)) (fun i _ => so.length - (intOf i).toNat)
        case atStart => exact ⟨0, Nat.zero_le _, rfl, Below.refl _ _⟩
        case round =>
          obtain ⟨m, hm, rfl, hb⟩ := hrel
          obtain ⟨s3, -⟩ := blk_cell ((hb.out.block _ (by have := HE2.out.2.2; omega)).trans HE2.out.1) 3 (.slice qa so.length ca) rfl
          obtain ⟨t3, -⟩ := blk_cell ((hb.out.block _ HE2.out.2.2).trans HE2.out.2.1) 3 (.slice qb so.length cb) rfl
          by_cases hml : m < so.length
          · obtain ⟨g1, o1, rfl, hg1, k1⟩ := row_get HR1.out m hml
            obtain ⟨g2, o2, rfl, hg2, k2⟩ := row_get HR2.out m hml
            have v1 := (hb.out.cell (p := ⟨g1, o1 + m, none⟩) hg1).trans (k1 m (.int .i64 so[m]) (by unfold sv; rw [List.getElem?_map, List.getElem?_eq_getElem hml]; rfl))
            have v2 := (hb.out.cell (p := ⟨g2, o2 + m, none⟩) hg2).trans (k2 m (.int .i64 so[m]) (by unfold sv; rw [List.getElem?_map, List.getElem?_eq_getElem hml]; rfl))
            generalize so[m] = sm at *
            have m0 : (0 : Int) ≤ (m : Int) := by omega
            have m1 : (m : Int) < (so.length : Int) := by omega
            have y0 := cell_regrown s3
            have y1 := cell_regrown t3
            have y2 := cell_regrown v1
            have y3 := cell_regrown v2
            clear k1 k2 hg1 hg2
            go_upto_region 23 with fail
            go_wp2_with fail
            refine wp_region_quiet_below (by kernel_rfl) (by kernel_rfl) ?_
            repeat (first | go_big_quiet_step (first | fail) | quiet_step (first | fail))
            refine wpQuiet_nil ?_
            intro _ hw'
            obtain ⟨⟨dq, osq⟩, hw''⟩ := hw'
            subst hw''
            have hY := below_regrown wr dq osq
            change Exit.then _ _ Exit.normal _ (Sort.grow (redrawn wr dq) osq)
            generalize Sort.grow (redrawn wr dq) osq = Y at hY ⊢
            have hbY : Hid (Below X2.heap.size X2 Y) := below2 hb.out hY
            go_wp2
            exact ⟨⟨m + 1, by omega, by go_num, hbY⟩, by simp [intOf]; omega⟩
          obtain rfl : m = so.length := by omega
          have HBF : Hid (Below W4.heap.size W4 wr) := below2 HBX.out hb.out
          go_wp2
          exact ⟨⟨j + 1, by omega, by go_num, HBF⟩, by simp [intOf]; omega⟩
end Go.Proofs.YtcjnejdemfemfaaGreatDoor

