import Derived.Test.YtchinflkjcebjaaGreatDoorTW1
namespace Go.Proofs.YtchinflkjcebjaaGreatDoor
open Go.RowKit

theorem hid_ex (x : World) : ∃ y, Hid (x = y) := ⟨x, (rfl : x = x)⟩
set_option maxRecDepth 100000 in
set_option maxHeartbeats 8000000 in
theorem twin_any {w : World} {iq eq tq : Option Addr} {Es : List Em} {c : Cd} (h : ArgC w iq eq tq Es c) (ia ea ta : Nat) :
    Calls Tryz.prog 13 #[aggC iq eq tq ia ea ta c] w fun e w' => ∃ gi ge gt, e = .returned (.agg #[.slice (some ⟨gi, 0, none⟩) c.ins.length (c.ins.length + 1), .slice (some ⟨ge, 0, none⟩) c.ens.length (c.ens.length + 1), .slice (some ⟨gt, 0, none⟩) c.txs.length (c.txs.length + 1), .int .i64 c.main]) ∧ Hid (∃ Gs, TwS w' w.heap.size gi ge gt Gs c ∧ Below w.heap.size w w') := by
  have li := h.li
  have le := h.le
  have lt' := h.lt
  obtain ⟨Zi, hZi, mkI⟩ := mk_of Tryz.underlying24 info_I c.ins.length (by omega) (by omega)
  obtain ⟨Ze, hZe, mkE⟩ := mk_of Tryz.underlying25 info_E c.ens.length (by omega) (by omega)
  obtain ⟨Zt, hZt, mkT⟩ := mk_of Tryz.underlying26 info_T c.txs.length (by omega) (by omega)
  rw [Nat.mul_one] at hZt
  have hil : (c.ins.length : Int) ≤ 9000000000000 := by omega
  have hel : (c.ens.length : Int) ≤ 9000000000000 := by omega
  have htl : (c.txs.length : Int) ≤ 9000000000000 := by omega
  have i0 : (0 : Int) ≤ (c.ins.length : Int) := by omega
  have e0 : (0 : Int) ≤ (c.ens.length : Int) := by omega
  have t0 : (0 : Int) ≤ (c.txs.length : Int) := by omega
  have i1 : (c.ins.length : Int) < (c.ins.length : Int) + 1 := by omega
  have e1 : (c.ens.length : Int) < (c.ens.length : Int) + 1 := by omega
  have t1 : (c.txs.length : Int) < (c.txs.length : Int) + 1 := by omega
  have HH : Hid (ArgC w iq eq tq Es c) := h
  have HZi : Hid (Zi.size = (c.ins.length + 1) * 3) := hZi
  have HZe : Hid (Ze.size = (c.ens.length + 1) * 5) := hZe
  have HZt : Hid (Zt.size = c.txs.length + 1) := hZt
  obtain ⟨C, hC⟩ : ∃ C : Array Value, Hid (C = #[.slice iq c.ins.length ia, .slice eq c.ens.length ea, .slice tq c.txs.length ta, .int .i64 c.main]) := ⟨_, rfl⟩
  have HBs : Hid (Bxs w ((w.alloc (.cells #[.slice iq c.ins.length ia, .slice eq c.ens.length ea, .slice tq c.txs.length ta, .int .i64 c.main] 28)).alloc (.cells #[.slice none 0 0, .slice none 0 0, .slice none 0 0, .int .i64 0] 28)) C) := by
    show Bxs _ _ _
    rw [hC.out]
    exact Bxs.start w _
  have HCs : Hid (∀ W, Bxs w W C → (W.cell? ⟨w.heap.size, 0, none⟩ = some (.slice iq c.ins.length ia) ∧ W.frozen? ⟨w.heap.size, 0, none⟩ = false) ∧ (W.cell? ⟨w.heap.size, 1, none⟩ = some (.slice eq c.ens.length ea) ∧ W.frozen? ⟨w.heap.size, 1, none⟩ = false) ∧ (W.cell? ⟨w.heap.size, 2, none⟩ = some (.slice tq c.txs.length ta) ∧ W.frozen? ⟨w.heap.size, 2, none⟩ = false) ∧ (W.cell? ⟨w.heap.size, 3, none⟩ = some (.int .i64 c.main))) := fun W hW => by
    have := hW.box
    rw [hC.out] at this
    exact ⟨blk_cell this 0 _ rfl, blk_cell this 1 _ rfl, blk_cell this 2 _ rfl, (blk_cell this 3 _ rfl).1⟩
  have HM : Hid (∀ W, Bxs w W C → CodeM W w.heap.size iq eq tq Es c) := fun W hW => HH.out.m.below hW.bel (Nat.le_refl _)
  have hz0 : ((w.alloc (.cells #[.slice iq c.ins.length ia, .slice eq c.ens.length ea, .slice tq c.txs.length ta, .int .i64 c.main] 28)).alloc (.cells #[.slice none 0 0, .slice none 0 0, .slice none 0 0, .int .i64 0] 28)).heap.size = w.heap.size + 2 := by simp
  clear h li le lt' hZi hZe hZt
  go_enter Tryz.func13, Tryz.ntmps13
  go_upto_region 1 with fail
  generalize (w.alloc (.cells #[.slice iq c.ins.length ia, .slice eq c.ens.length ea, .slice tq c.txs.length ta, .int .i64 c.main] 28)).alloc (.cells #[.slice none 0 0, .slice none 0 0, .slice none 0 0, .int .i64 0] 28) = X at *
  obtain ⟨X1, hX1⟩ : ∃ X1, X.alloc (.cells Zi 64) = X1 := ⟨_, rfl⟩
  have H1 : Hid (T1 w X1 C c Zi 0) := by
    rw [← hX1]
    refine ⟨HBs.out.next ((Below.refl _ X).alloc (Nat.le_refl _) _), ?_, by simp [hz0]⟩
    rw [List.take_zero, Nat.zero_mul, List.drop_zero, ← hz0]
    exact Full.new X Zi _
  have mkX := mkI X
  rw [hX1, hz0] at mkX
  obtain ⟨⟨x0, -⟩, ⟨x1, -⟩, ⟨x2, -⟩, x3⟩ := HCs.out X HBs.out
  clear mkI hX1 hz0
  go_wp2_with fail
  clear mkX x0 x1 x2 x3 HBs
  go_loopw [4] (fun i wr => ∃ j : Nat, j ≤ c.ins.length ∧ i = .int .i64 (j : Int) ∧ Hid (T1 w wr C c Zi j)) (fun i _ => c.ins.length - (intOf i).toNat)
  case atStart => exact ⟨0, Nat.zero_le _, rfl, H1⟩
  case round =>
    obtain ⟨j, hj, rfl, hI⟩ := hrel
    clear H1
    obtain ⟨⟨x0, -⟩, ⟨x1, -⟩, -, -⟩ := HCs.out wr hI.out.1
    by_cases hlt : j < c.ins.length
    case pos =>
      obtain ⟨g, o, hiq, hg, d0, d1, d2⟩ := (HM.out wr hI.out.1).ins j hlt
      have TH : Hid (wr.there (w.heap.size + 2) (j * 3) 3) := hI.out.th hj HZi.out
      have HS := hI.out.step hlt HZi.out
      obtain ⟨W1, hW1⟩ : ∃ W1, Hid (wr.setCells (w.heap.size + 2) (j * 3) (ic c.ins[j]) = W1) := hid_ex _
      rw [hW1.out] at HS
      have HS' : Hid (T1 w W1 C c Zi (j + 1)) := HS
      rw [hiq] at x0
      generalize c.ins[j] = x at *
      obtain ⟨op, a, b⟩ := x
      simp only at d0 d1 d2
      have HW : Hid (wr.setCells (w.heap.size + 2) (j * 3) (#[.int .i64 op, .int .i64 a, .int .i64 b] : Array Value).toList = W1) := hW1.out
      have j0 : (0 : Int) ≤ (j : Int) := by omega
      have j1 : (j : Int) < (c.ins.length : Int) := by omega
      have j2 : (j : Int) < (c.ins.length : Int) + 1 := by omega
      clear HS hW1 hI hiq
      go_wp2_with (first
        | (refine wpList_store_mid (by rfl) 64 (.tmp 29) (.tmp 28) (by rfl) (w.heap.size + 2) (j * 3) #[.int .i64 op, .int .i64 a, .int .i64 b] (by rfl) (by rfl) TH.out size_I (one_I op a b) ?_; rw [HW.out])
        | fail)
      exact ⟨⟨j + 1, by omega, by go_num, HS'⟩, by simp [intOf]; omega⟩
    obtain rfl : j = c.ins.length := by omega
    have TH : Hid (wr.there (w.heap.size + 2) (c.ins.length * 3) 3) := hI.out.th hj HZi.out
    have HS := hI.out.mark HZi.out
    obtain ⟨W2, hW2⟩ : ∃ W2, Hid (wr.setCells (w.heap.size + 2) (c.ins.length * 3) (#[.int .i64 77, .int .i64 0, .int .i64 0] : Array Value).toList = W2) := hid_ex _
    have HS' : Hid (Bxs w W2 C ∧ Full W2 (w.heap.size + 2) 64 (c.ins.flatMap ic ++ [.int .i64 77, .int .i64 0, .int .i64 0]) ∧ W2.heap.size = w.heap.size + 3) := by rw [← hW2.out]; exact HS
    obtain ⟨⟨v0, -⟩, ⟨v1, -⟩, -, -⟩ := HCs.out W2 HS'.out.1
    obtain ⟨X3, hX3⟩ : ∃ X3, W2.alloc (.cells Ze 68) = X3 := ⟨_, rfl⟩
    have H2 : Hid (T2 w X3 C c Ze [] 0) := by
      obtain ⟨s1, s2, s3⟩ := HS'.out
      have nb : Below W2.heap.size W2 X3 := by rw [← hX3]; exact (Below.refl _ W2).alloc (Nat.le_refl _) _
      refine ⟨s1.next nb, s2.next nb, ?_, rfl, List.nodup_nil, (fun g hg => by cases hg), fun i _ hi => absurd hi (Nat.not_lt_zero _)⟩
      rw [← hX3, Nat.zero_mul, List.drop_zero, ← s3]
      exact Full.new W2 Ze _
    have mkX := mkE W2
    rw [hX3, HS'.out.2.2] at mkX
    have p1 : ¬ (c.ins.length : Int) < (c.ins.length : Int) := by omega
    clear HS hI hX3 hlt hj HS' mkE
    go_wp2_with (first
      | (refine wpList_store_mid (by rfl) 64 (.tmp 35) (.tmp 34) (by rfl) (w.heap.size + 2) (c.ins.length * 3) #[.int .i64 77, .int .i64 0, .int .i64 0] (by rfl) (by rfl) TH.out size_I (one_I 77 0 0) ?_; rw [hW2.out])
      | fail)
    clear mkX x0 x1 v0 v1 TH hW2 p1
    go_loopw [6] (fun i wv => ∃ (j : Nat), j ≤ c.ens.length ∧ i = .int .i64 (j : Int) ∧ Hid (∃ Gs, T2 w wv C c Ze Gs j)) (fun i _ => c.ens.length - (intOf i).toNat)
    case atStart => exact ⟨0, Nat.zero_le _, rfl, [], H2.out⟩
    case round =>
      obtain ⟨j, hj, rfl, hI0⟩ := hrel
      clear H2
      obtain ⟨Gs, hI1⟩ := hI0.out
      have hI : Hid (T2 w wr C c Ze Gs j) := hI1
      clear hI0 hI1
      obtain ⟨⟨x0, -⟩, ⟨x1, -⟩, ⟨x2, -⟩, -⟩ := HCs.out wr hI.out.bs
      by_cases hlt : j < c.ens.length
      case pos =>
        have hm := HM.out wr hI.out.bs
        have hlt' : j < Es.length := by rw [hm.len]; exact hlt
        obtain ⟨g, o, heq, hg, d0, d1, d2, d3, d4⟩ := hm.ent j hlt'
        have hee : Es[j].1 = c.ens[j] := by
          have := hm.en
          have e1 : (Es.map (·.1))[j]? = c.ens[j]? := by rw [this]
          rw [List.getElem?_map, List.getElem?_eq_getElem hlt', List.getElem?_eq_getElem hlt] at e1
          exact Option.some.inj e1
        have sr := (hm.sr Es[j] (List.getElem_mem hlt')).1
        have sb := (HH.out.es Es[j] (List.getElem_mem hlt')).1.2
        have hlow : w.heap.size ≤ wr.heap.size := hI.out.bs.bel.size
        have h4 : w.heap.size + 4 ≤ wr.heap.size := by have := hI.out.fe.lt; omega
        rw [heq] at x1
        have HSt : Hid (∀ (D : Array Value) (Y V : World) (v : Value), Y = wr.alloc (.cells D 68) → Full V Y.heap.size 66 (sv c.ens[j].sorts ++ [.int .i64 77]) → Below Y.heap.size Y V → T2 w ((V.setCell ⟨wr.heap.size, 3, none⟩ v).setCells (w.heap.size + 3) (j * 5) (ec (ownE c.ens[j] Y.heap.size))) C c Ze (Gs ++ [Y.heap.size]) (j + 1)) := fun D Y V v hY hf hb => hI.out.step hlt HZe.out D hY hf hb v h4
        have HTh : Hid (∀ V : World, V.heap[w.heap.size + 3]? = wr.heap[w.heap.size + 3]? → V.there (w.heap.size + 3) (j * 5) 5) := fun V hV => hI.out.th hj HZe.out hV
        rw [← hee] at HSt
        have HB3 : Hid (w.heap.size + 3 < wr.heap.size) := hI.out.fe.lt
        generalize Es[j] = x at *
        obtain ⟨⟨nm, st, pr, so, rs⟩, q, cp⟩ := x
        simp only at d0 d1 d2 d3 d4 sr sb HSt
        obtain ⟨Y, hY⟩ : ∃ Y, Y = wr.alloc (.cells #[.string nm, .int .i64 st, .int .i64 pr, .slice q so.length cp, .int .i64 rs] 68) := ⟨_, rfl⟩
        have nb : Below wr.heap.size wr Y := by rw [hY]; exact (Below.refl _ wr).alloc (Nat.le_refl _) _
        have zY : Y.heap.size = wr.heap.size + 1 := by rw [hY]; simp
        have y := fun j v hv => by have := cells_new wr #[.string nm, .int .i64 st, .int .i64 pr, .slice q so.length cp, .int .i64 rs] 68 j v hv; rwa [← hY] at this
        have y0 := (y 0 (.string nm) rfl).1
        have y1 := (y 1 (.int .i64 st) rfl).1
        have y2 := (y 2 (.int .i64 pr) rfl).1
        have y3 := y 3 (.slice q so.length cp) rfl
        have y4 := (y 4 (.int .i64 rs) rfl).1
        have sc := sorts_any (w := Y) (q := q) cp (L := so) ((sr.up (by omega)).below nb (Nat.le_refl _) |>.up nb.size) sb
        have HY : Hid (∀ V : World, Below Y.heap.size Y V → ((V.cell? ⟨wr.heap.size, 0, none⟩ = some (.string nm) ∧ V.cell? ⟨wr.heap.size, 1, none⟩ = some (.int .i64 st)) ∧ (V.cell? ⟨wr.heap.size, 2, none⟩ = some (.int .i64 pr) ∧ V.cell? ⟨wr.heap.size, 3, none⟩ = some (.slice q so.length cp) ∧ V.frozen? ⟨wr.heap.size, 3, none⟩ = false ∧ V.cell? ⟨wr.heap.size, 4, none⟩ = some (.int .i64 rs))) ∧ V.heap[w.heap.size + 3]? = wr.heap[w.heap.size + 3]?) := fun V hV => by
          have hp : wr.heap.size < Y.heap.size := by omega
          refine ⟨⟨⟨(hV.cell (p := ⟨wr.heap.size, 0, none⟩) hp).trans y0, (hV.cell (p := ⟨wr.heap.size, 1, none⟩) hp).trans y1⟩, (hV.cell (p := ⟨wr.heap.size, 2, none⟩) hp).trans y2, (hV.cell (p := ⟨wr.heap.size, 3, none⟩) hp).trans y3.1, (hV.frozen (p := ⟨wr.heap.size, 3, none⟩) hp).trans y3.2, (hV.cell (p := ⟨wr.heap.size, 4, none⟩) hp).trans y4⟩, ?_⟩
          exact (hV.block _ (by have := HB3.out; omega)).trans (nb.block _ HB3.out)
        have j0 : (0 : Int) ≤ (j : Int) := by omega
        have j1 : (j : Int) < (c.ens.length : Int) := by omega
        have j2 : (j : Int) < (c.ens.length : Int) + 1 := by omega
        have y3' := y3.1
        clear hm hee sr sb hlow h4 hI y zY nb heq y3
        go_upto_region 12 with fail
        rw [← hY]
        have HYe : Hid (Y = wr.alloc (.cells #[.string nm, .int .i64 st, .int .i64 pr, .slice q so.length cp, .int .i64 rs] 68)) := hY
        clear hY d0 d1 d2 d3 d4 x0 x1 x2
        go_wp2_with fail
        refine sc.mono ?_
        rintro e V ⟨rfl, hv⟩
        obtain ⟨⟨⟨u0, u1⟩, u2, u3, u3', u4⟩, uh⟩ := HY.out V hv.out.2.1
        have TH : Hid ((V.setCell ⟨wr.heap.size, 3, none⟩ (.slice (some ⟨Y.heap.size, 0, none⟩) so.length (so.length + 1))).there (w.heap.size + 3) (j * 5) 5) := HTh.out _ ((set_heap (a := ⟨wr.heap.size, 3, none⟩) (by have := HB3.out; show w.heap.size + 3 ≠ wr.heap.size; omega)).trans uh)
        have HN := HSt.out _ Y V (.slice (some ⟨Y.heap.size, 0, none⟩) so.length (so.length + 1)) HYe.out hv.out.1 hv.out.2.1
        obtain ⟨W1, hW1⟩ : ∃ W1, Hid ((V.setCell ⟨wr.heap.size, 3, none⟩ (.slice (some ⟨Y.heap.size, 0, none⟩) so.length (so.length + 1))).setCells (w.heap.size + 3) (j * 5) (#[.string nm, .int .i64 st, .int .i64 pr, .slice (some ⟨Y.heap.size, 0, none⟩) so.length (so.length + 1), .int .i64 rs] : Array Value).toList = W1) := hid_ex _
        have HN' : Hid (T2 w W1 C c Ze (Gs ++ [Y.heap.size]) (j + 1)) := by rw [← hW1.out]; exact HN
        clear HN HSt HTh HY HYe sc y0 y1 y2 y3' y4 uh hv
        go_wp2_with (first
          | (refine wpList_store_mid (by rfl) 68 (.tmp 60) (.tmp 59) (by rfl) (w.heap.size + 3) (j * 5) #[.string nm, .int .i64 st, .int .i64 pr, .slice (some ⟨Y.heap.size, 0, none⟩) so.length (so.length + 1), .int .i64 rs] (by rfl) (by rfl) TH.out size_E (one_E _ _ _ _ _ _ _) ?_; rw [hW1.out])
          | fail)
        exact ⟨⟨j + 1, by omega, by go_num, _, HN'.out⟩, by simp [intOf]; omega⟩
      obtain rfl : j = c.ens.length := by omega
      have TH : Hid (wr.there (w.heap.size + 3) (c.ens.length * 5) 5) := hI.out.th hj HZe.out rfl
      obtain ⟨W4, hW4⟩ : ∃ W4, Hid (wr.setCells (w.heap.size + 3) (c.ens.length * 5) (#[.string (⟨#[115, 112, 97, 114, 101]⟩ : ByteArray), .int .i64 0, .int .i64 0, .slice none 0 0, .int .i64 0] : Array Value).toList = W4) := hid_ex _
      obtain ⟨X5, hX5⟩ : ∃ X5, W4.alloc (.cells Zt 9) = X5 := ⟨_, rfl⟩
      have H3 : Hid (T3 w X5 C c Zt Gs W4.heap.size 0) := by
        have := hI.out.over (Zt := Zt) HZe.out X5
        have e : wr.setCells (w.heap.size + 3) (c.ens.length * 5) ecZ = W4 := hW4.out
        rw [e] at this
        exact this hX5
      have hBx4 : Bxs w W4 C := by rw [← hW4.out]; exact hI.out.bs.sets (by omega) _ _
      obtain ⟨-, ⟨v1, -⟩, ⟨v2, -⟩, -⟩ := HCs.out W4 hBx4
      have mkX := mkT W4
      rw [hX5] at mkX
      have p1 : ¬ (c.ens.length : Int) < (c.ens.length : Int) := by omega
      clear hI hX5 hlt hj mkT hBx4
      go_wp2_with (first
        | (refine wpList_store_mid (by rfl) 68 (.tmp 66) (.tmp 65) (by rfl) (w.heap.size + 3) (c.ens.length * 5) #[.string (⟨#[115, 112, 97, 114, 101]⟩ : ByteArray), .int .i64 0, .int .i64 0, .slice none 0 0, .int .i64 0] (by rfl) (by rfl) TH.out size_E (one_E _ _ _ _ _ _ _) ?_; rw [hW4.out])
        | fail)
      clear mkX x0 x1 x2 v1 v2 TH hW4 p1
      generalize W4.heap.size = gt at *
      go_loopw [9] (fun i wv => ∃ (j : Nat), j ≤ c.txs.length ∧ i = .int .i64 (j : Int) ∧ Hid (T3 w wv C c Zt Gs gt j)) (fun i _ => c.txs.length - (intOf i).toNat)
      case atStart => exact ⟨0, Nat.zero_le _, rfl, H3⟩
      case round =>
        obtain ⟨j, hj, rfl, hI⟩ := hrel
        clear H3
        obtain ⟨⟨x0, f0⟩, ⟨x1, f1⟩, ⟨x2, f2⟩, x3⟩ := HCs.out wr hI.out.bs
        obtain ⟨tv0, z0, z1⟩ := hI.out.cell hj HZt.out
        by_cases hlt : j < c.txs.length
        case pos =>
          obtain ⟨g, o, htq, hg, d0⟩ := (HM.out wr hI.out.bs).txt j hlt
          have HS : Hid (T3 w (wr.setCell ⟨gt, j, none⟩ (.string c.txs[j])) C c Zt Gs gt (j + 1)) := hI.out.step hlt HZt.out
          rw [htq] at x2
          generalize c.txs[j] = x at *
          have j0 : (0 : Int) ≤ (j : Int) := by omega
          have j1 : (j : Int) < (c.txs.length : Int) := by omega
          have j2 : (j : Int) < (c.txs.length : Int) + 1 := by omega
          clear hI htq
          go_wp2
          exact ⟨⟨j + 1, by omega, by go_num, HS⟩, by simp [intOf]; omega⟩
        obtain rfl : j = c.txs.length := by omega
        have HS : Hid (Bxs w (wr.setCell ⟨gt, c.txs.length, none⟩ (.string (⟨#[115, 112, 97, 114, 101]⟩ : ByteArray))) C ∧ TwS (wr.setCell ⟨gt, c.txs.length, none⟩ (.string (⟨#[115, 112, 97, 114, 101]⟩ : ByteArray))) (w.heap.size + 2) (w.heap.size + 2) (w.heap.size + 3) gt Gs c) := hI.out.mark HZt.out
        have p1 : ¬ (c.txs.length : Int) < (c.txs.length : Int) := by omega
        clear hI hlt hj
        go_upto_region 21 with fail
        generalize wr.setCell ⟨gt, c.txs.length, none⟩ (.string (⟨#[115, 112, 97, 114, 101]⟩ : ByteArray)) = V at *
        clear x0 f0 x1 f1 x2 f2 x3 z0 z1 p1
        obtain ⟨⟨x0, f0⟩, ⟨x1, f1⟩, ⟨x2, f2⟩, x3⟩ := HCs.out V HS.out.1
        obtain ⟨r0, s0⟩ := blk_cell HS.out.1.res 0 (.slice none 0 0) rfl
        obtain ⟨r1, s1⟩ := blk_cell HS.out.1.res 1 (.slice none 0 0) rfl
        obtain ⟨r2, s2⟩ := blk_cell HS.out.1.res 2 (.slice none 0 0) rfl
        obtain ⟨r3, s3⟩ := blk_cell HS.out.1.res 3 (.int .i64 0) rfl
        have hupI := up_run Tryz.underlying24 sz_I ⟨w.heap.size + 2, 0, none⟩ (c.ins.length + 1) (c.ins.length + 1) c.ins.length (by omega)
        have hupE := up_run Tryz.underlying25 sz_E ⟨w.heap.size + 3, 0, none⟩ (c.ens.length + 1) (c.ens.length + 1) c.ens.length (by omega)
        have hupT := up_run Tryz.underlying26 sz_T ⟨gt, 0, none⟩ (c.txs.length + 1) (c.txs.length + 1) c.txs.length (by omega)
        obtain ⟨V3, hV3⟩ : ∃ V3, V3 = ((V.setCell ⟨w.heap.size, 0, none⟩ (.slice (some ⟨w.heap.size + 2, 0, none⟩) c.ins.length (c.ins.length + 1))).setCell ⟨w.heap.size, 1, none⟩ (.slice (some ⟨w.heap.size + 3, 0, none⟩) c.ens.length (c.ens.length + 1))).setCell ⟨w.heap.size, 2, none⟩ (.slice (some ⟨gt, 0, none⟩) c.txs.length (c.txs.length + 1)) := ⟨_, rfl⟩
        have hr3 : V3.heap[w.heap.size + 1]? = some (.cells #[.slice none 0 0, .slice none 0 0, .slice none 0 0, .int .i64 0] 28) := by
          rw [hV3]
          exact (set_heap (a := ⟨w.heap.size, 2, none⟩) (by show w.heap.size + 1 ≠ w.heap.size; omega)).trans ((set_heap (a := ⟨w.heap.size, 1, none⟩) (by show w.heap.size + 1 ≠ w.heap.size; omega)).trans ((set_heap (a := ⟨w.heap.size, 0, none⟩) (by show w.heap.size + 1 ≠ w.heap.size; omega)).trans HS.out.1.res))
        have HF : Hid ((((((V3.setCell ⟨w.heap.size + 1, 0, none⟩ (.slice (some ⟨w.heap.size + 2, 0, none⟩) c.ins.length (c.ins.length + 1))).setCell ⟨w.heap.size + 1, 1, none⟩ (.slice (some ⟨w.heap.size + 3, 0, none⟩) c.ens.length (c.ens.length + 1))).setCell ⟨w.heap.size + 1, 2, none⟩ (.slice (some ⟨gt, 0, none⟩) c.txs.length (c.txs.length + 1))).setCell ⟨w.heap.size + 1, 3, none⟩ (.int .i64 c.main)).heap[w.heap.size + 1]? = some (.cells #[.slice (some ⟨w.heap.size + 2, 0, none⟩) c.ins.length (c.ins.length + 1), .slice (some ⟨w.heap.size + 3, 0, none⟩) c.ens.length (c.ens.length + 1), .slice (some ⟨gt, 0, none⟩) c.txs.length (c.txs.length + 1), .int .i64 c.main] 28) ∧ ∃ Gs, TwS ((((V3.setCell ⟨w.heap.size + 1, 0, none⟩ (.slice (some ⟨w.heap.size + 2, 0, none⟩) c.ins.length (c.ins.length + 1))).setCell ⟨w.heap.size + 1, 1, none⟩ (.slice (some ⟨w.heap.size + 3, 0, none⟩) c.ens.length (c.ens.length + 1))).setCell ⟨w.heap.size + 1, 2, none⟩ (.slice (some ⟨gt, 0, none⟩) c.txs.length (c.txs.length + 1))).setCell ⟨w.heap.size + 1, 3, none⟩ (.int .i64 c.main)) w.heap.size (w.heap.size + 2) (w.heap.size + 3) gt Gs c ∧ Below w.heap.size w ((((V3.setCell ⟨w.heap.size + 1, 0, none⟩ (.slice (some ⟨w.heap.size + 2, 0, none⟩) c.ins.length (c.ins.length + 1))).setCell ⟨w.heap.size + 1, 1, none⟩ (.slice (some ⟨w.heap.size + 3, 0, none⟩) c.ens.length (c.ens.length + 1))).setCell ⟨w.heap.size + 1, 2, none⟩ (.slice (some ⟨gt, 0, none⟩) c.txs.length (c.txs.length + 1))).setCell ⟨w.heap.size + 1, 3, none⟩ (.int .i64 c.main)))) := by
          refine ⟨put4 hr3, Gs, ?_, ?_⟩
          · refine TwS.mono (b := w.heap.size + 2) ?_ (by omega)
            refine TwS.set1 (TwS.set1 (TwS.set1 (TwS.set1 ?_ (by show w.heap.size + 1 < _; omega) _) (by show w.heap.size + 1 < _; omega) _) (by show w.heap.size + 1 < _; omega) _) (by show w.heap.size + 1 < _; omega) _
            rw [hV3]
            exact TwS.set1 (TwS.set1 (TwS.set1 HS.out.2 (by show w.heap.size < _; omega) _) (by show w.heap.size < _; omega) _) (by show w.heap.size < _; omega) _
          · refine below_put4 ?_ (by omega)
            rw [hV3]
            exact ((HS.out.1.bel.setCell (p := ⟨w.heap.size, 0, none⟩) (Nat.le_refl _) _).setCell (p := ⟨w.heap.size, 1, none⟩) (Nat.le_refl _) _).setCell (p := ⟨w.heap.size, 2, none⟩) (Nat.le_refl _) _
        rw [hV3] at HF
        clear hr3 hV3 HS
        go_wp2
        generalize ((((((V.setCell ⟨w.heap.size, 0, none⟩ (.slice (some ⟨w.heap.size + 2, 0, none⟩) c.ins.length (c.ins.length + 1))).setCell ⟨w.heap.size, 1, none⟩ (.slice (some ⟨w.heap.size + 3, 0, none⟩) c.ens.length (c.ens.length + 1))).setCell ⟨w.heap.size, 2, none⟩ (.slice (some ⟨gt, 0, none⟩) c.txs.length (c.txs.length + 1))).setCell ⟨w.heap.size + 1, 0, none⟩ (.slice (some ⟨w.heap.size + 2, 0, none⟩) c.ins.length (c.ins.length + 1))).setCell ⟨w.heap.size + 1, 1, none⟩ (.slice (some ⟨w.heap.size + 3, 0, none⟩) c.ens.length (c.ens.length + 1))).setCell ⟨w.heap.size + 1, 2, none⟩ (.slice (some ⟨gt, 0, none⟩) c.txs.length (c.txs.length + 1))).setCell ⟨w.heap.size + 1, 3, none⟩ (.int .i64 c.main) = WF at HF ⊢
        obtain ⟨q0, -⟩ := blk_cell HF.out.1 0 (.slice (some ⟨w.heap.size + 2, 0, none⟩) c.ins.length (c.ins.length + 1)) rfl
        obtain ⟨q1, -⟩ := blk_cell HF.out.1 1 (.slice (some ⟨w.heap.size + 3, 0, none⟩) c.ens.length (c.ens.length + 1)) rfl
        obtain ⟨q2, -⟩ := blk_cell HF.out.1 2 (.slice (some ⟨gt, 0, none⟩) c.txs.length (c.txs.length + 1)) rfl
        obtain ⟨q3, -⟩ := blk_cell HF.out.1 3 (.int .i64 c.main) rfl
        first | (change bodyPost Tryz.prog Tryz.f13 _ Exit.ret _ _) | (simp only [Exit.noGoto])
        exact bodyPost_ret (v := .agg #[.slice (some ⟨w.heap.size + 2, 0, none⟩) c.ins.length (c.ins.length + 1), .slice (some ⟨w.heap.size + 3, 0, none⟩) c.ens.length (c.ens.length + 1), .slice (some ⟨gt, 0, none⟩) c.txs.length (c.txs.length + 1), .int .i64 c.main]) (by simp [results, Tryz.results13, go_sem, q0, q1, q2, q3]) rfl ⟨w.heap.size + 2, w.heap.size + 3, gt, rfl, HF.out.2⟩
end Go.Proofs.YtchinflkjcebjaaGreatDoor
namespace Go.Proofs.YtchinflkjcebjaaGreatDoor
open Go.RowKit

theorem zip_fst : ∀ (L : List En) (Gs : List Nat), Gs.length = L.length → (zipE L Gs).map (·.1) = L
  | [], _, _ => by simp [zipE]
  | e :: L, [], h => by simp at h
  | e :: L, g :: Gs, h => by
    have := zip_fst L Gs (by simpa using h)
    unfold zipE at this ⊢
    rw [List.zipWith_cons_cons, List.map_cons, this]
    rfl
theorem zip_get {L : List En} {Gs : List Nat} {i g : Nat} (h : i < L.length) (hg : Gs[i]? = some g) : (zipE L Gs)[i]? = some (ownE L[i] g) := by
  unfold zipE
  rw [List.getElem?_zipWith, List.getElem?_eq_getElem h, hg]
/-- What is asked of a code's parts beside their memory. -/
structure PartsOk (c : Cd) : Prop where
  es : ∀ e ∈ c.ens, e.name.size ≤ 9223372036854775807 ∧ e.sorts.length ≤ 9223372036854775807
  il : c.ins.length ≤ 9223372036854775807
  el : c.ens.length ≤ 9223372036854775807
  tl : c.txs.length ≤ 9223372036854775807
  ts : ∀ t ∈ c.txs, t.size ≤ 9223372036854775807
theorem TwS.m {W : World} {b gi ge gt : Nat} {Gs : List Nat} {c : Cd} (h : TwS W b gi ge gt Gs c) (hp : PartsOk c) : CodeM W W.heap.size (some ⟨gi, 0, none⟩) (some ⟨ge, 0, none⟩) (some ⟨gt, 0, none⟩) (zipE c.ens Gs) c := by
  refine ⟨zip_fst _ _ h.gl, fun _ => ⟨gi, 0, rfl, h.fi.lt, h.fi.range⟩, fun _ => ⟨ge, 0, rfl, h.fe.lt, h.fe.range⟩, fun _ => ⟨gt, 0, rfl, h.ft.lt, h.ft.range⟩, fun x hx => ?_, hp.il, hp.el, hp.tl, hp.ts⟩
  obtain ⟨i, hi, rfl⟩ := List.getElem_of_mem hx
  have hi' : i < c.ens.length := by rwa [zip_len h.gl] at hi
  obtain ⟨g, h1, h2⟩ := h.fs i hi'
  have e := zip_get hi' h1
  rw [List.getElem?_eq_getElem hi] at e
  rw [Option.some.inj e]
  exact ⟨fun _ => ⟨g, 0, rfl, h2.lt, h2.range⟩, hp.es _ (List.getElem_mem hi')⟩
theorem ArgC.parts {w : World} {iq eq tq : Option Addr} {Es : List Em} {c : Cd} (h : ArgC w iq eq tq Es c) : PartsOk c := by
  refine ⟨fun e he => ?_, h.m.il, h.m.el, h.m.tl, h.m.ts⟩
  rw [← h.m.en] at he
  obtain ⟨x, hx, rfl⟩ := List.mem_map.1 he
  exact (h.m.sr x hx).2
theorem ArgC.in64 {w : World} {iq eq tq : Option Addr} {Es : List Em} {c : Cd} (h : ArgC w iq eq tq Es c) : ∀ x ∈ c.ins, (-9223372036854775808 ≤ x.2.1 ∧ x.2.1 ≤ 9223372036854775807) ∧ (-9223372036854775808 ≤ x.2.2 ∧ x.2.2 ≤ 9223372036854775807) := fun x hx => ⟨(h.is x hx).2.1, (h.is x hx).2.2⟩
theorem last_at {vs : List Value} {v : Value} {d : List Value} : (vs ++ v :: d)[vs.length]? = some v := by rw [List.getElem?_append_right (Nat.le_refl _), Nat.sub_self]; rfl
set_option maxRecDepth 100000 in
set_option maxHeartbeats 8000000 in
theorem left_any {w : World} {iq eq tq : Option Addr} {Es : List Em} {c : Cd} {b gi ge gt : Nat} {Gs : List Nat} (hm : CodeM w w.heap.size iq eq tq Es c) (hp : PartsOk c) (li : c.ins.length * 24 ≤ 140737488351232) (le : c.ens.length * 64 ≤ 140737488351232) (lt' : c.txs.length * 16 ≤ 140737488351232) (ls : ∀ e ∈ c.ens, e.sorts.length * 8 ≤ 140737488351232) (ht : TwS w b gi ge gt Gs c) (ia ea ta : Nat) :
    Calls Tryz.prog 16 #[.agg #[.slice (some ⟨gi, 0, none⟩) c.ins.length (c.ins.length + 1), .slice (some ⟨ge, 0, none⟩) c.ens.length (c.ens.length + 1), .slice (some ⟨gt, 0, none⟩) c.txs.length (c.txs.length + 1), .int .i64 c.main], aggC iq eq tq ia ea ta c] w fun e w' => e = .returned (.bool true) ∧ Below w.heap.size w w' := by
  have hil : (c.ins.length : Int) ≤ 9000000000000 := by omega
  have hel : (c.ens.length : Int) ≤ 9000000000000 := by omega
  have htl : (c.txs.length : Int) ≤ 9000000000000 := by omega
  have i0 : (0 : Int) ≤ (c.ins.length : Int) := by omega
  have e0 : (0 : Int) ≤ (c.ens.length : Int) := by omega
  have t0 : (0 : Int) ≤ (c.txs.length : Int) := by omega
  have i1 : (c.ins.length : Int) < (c.ins.length : Int) + 1 := by omega
  have e1 : (c.ens.length : Int) < (c.ens.length : Int) + 1 := by omega
  have t1 : (c.txs.length : Int) < (c.txs.length : Int) + 1 := by omega
  obtain ⟨X, hX⟩ : ∃ X, X = (w.alloc (.cells #[.slice (some ⟨gi, 0, none⟩) c.ins.length (c.ins.length + 1), .slice (some ⟨ge, 0, none⟩) c.ens.length (c.ens.length + 1), .slice (some ⟨gt, 0, none⟩) c.txs.length (c.txs.length + 1), .int .i64 c.main] 28)).alloc (.cells #[.slice iq c.ins.length ia, .slice eq c.ens.length ea, .slice tq c.txs.length ta, .int .i64 c.main] 28) := ⟨_, rfl⟩
  have H0 : Hid (X.heap[w.heap.size]? = some (.cells #[.slice (some ⟨gi, 0, none⟩) c.ins.length (c.ins.length + 1), .slice (some ⟨ge, 0, none⟩) c.ens.length (c.ens.length + 1), .slice (some ⟨gt, 0, none⟩) c.txs.length (c.txs.length + 1), .int .i64 c.main] 28) ∧ X.heap[w.heap.size + 1]? = some (.cells #[.slice iq c.ins.length ia, .slice eq c.ens.length ea, .slice tq c.txs.length ta, .int .i64 c.main] 28) ∧ Below w.heap.size w X) := by
    rw [hX]
    have n1 : Below w.heap.size w (w.alloc (.cells #[.slice (some ⟨gi, 0, none⟩) c.ins.length (c.ins.length + 1), .slice (some ⟨ge, 0, none⟩) c.ens.length (c.ens.length + 1), .slice (some ⟨gt, 0, none⟩) c.txs.length (c.txs.length + 1), .int .i64 c.main] 28)) := (Below.refl _ w).alloc (Nat.le_refl _) _
    have z1 : (w.alloc (.cells #[.slice (some ⟨gi, 0, none⟩) c.ins.length (c.ins.length + 1), .slice (some ⟨ge, 0, none⟩) c.ens.length (c.ens.length + 1), .slice (some ⟨gt, 0, none⟩) c.txs.length (c.txs.length + 1), .int .i64 c.main] 28)).heap.size = w.heap.size + 1 := by simp
    have P1 := World.alloc_heap_new w (.cells #[.slice (some ⟨gi, 0, none⟩) c.ins.length (c.ins.length + 1), .slice (some ⟨ge, 0, none⟩) c.ens.length (c.ens.length + 1), .slice (some ⟨gt, 0, none⟩) c.txs.length (c.txs.length + 1), .int .i64 c.main] 28)
    generalize w.alloc (.cells #[.slice (some ⟨gi, 0, none⟩) c.ins.length (c.ins.length + 1), .slice (some ⟨ge, 0, none⟩) c.ens.length (c.ens.length + 1), .slice (some ⟨gt, 0, none⟩) c.txs.length (c.txs.length + 1), .int .i64 c.main] 28) = Y at *
    have n2 : Below Y.heap.size Y (Y.alloc (.cells #[.slice iq c.ins.length ia, .slice eq c.ens.length ea, .slice tq c.txs.length ta, .int .i64 c.main] 28)) := (Below.refl _ Y).alloc (Nat.le_refl _) _
    refine ⟨(n2.block _ (by omega)).trans P1, ?_, below2 n1 n2⟩
    rw [← z1]
    exact World.alloc_heap_new Y _
  have HX : Hid (TwS X b gi ge gt Gs c ∧ CodeM X X.heap.size iq eq tq Es c) := ⟨ht.next H0.out.2.2, (hm.below H0.out.2.2 (Nat.le_refl _)).up H0.out.2.2.size⟩
  have HP : Hid (PartsOk c) := hp
  have HLs : Hid (∀ e ∈ c.ens, e.sorts.length * 8 ≤ 140737488351232) := ls
  have sm := same_any (HX.out.1.m hp) HX.out.2 (c.ins.length + 1) (c.ens.length + 1) (c.txs.length + 1) ia ea ta
  unfold codeV at sm
  obtain ⟨x0, -⟩ := blk_cell H0.out.1 0 _ rfl
  obtain ⟨x1, -⟩ := blk_cell H0.out.1 1 _ rfl
  obtain ⟨x2, -⟩ := blk_cell H0.out.1 2 _ rfl
  obtain ⟨x3, -⟩ := blk_cell H0.out.1 3 _ rfl
  obtain ⟨y0, -⟩ := blk_cell H0.out.2.1 0 _ rfl
  obtain ⟨y1, -⟩ := blk_cell H0.out.2.1 1 _ rfl
  obtain ⟨y2, -⟩ := blk_cell H0.out.2.1 2 _ rfl
  obtain ⟨y3, -⟩ := blk_cell H0.out.2.1 3 _ rfl
  clear hm hp ht li le lt' ls
  go_enter Tryz.func16, Tryz.ntmps16
  go_upto_region 1 with fail
  rw [← hX]
  clear hX
  go_wp2_with fail
  refine sm.mono ?_
  rintro e Z ⟨rfl, hz⟩
  have H1 : Hid (Z.heap[w.heap.size]? = some (.cells #[.slice (some ⟨gi, 0, none⟩) c.ins.length (c.ins.length + 1), .slice (some ⟨ge, 0, none⟩) c.ens.length (c.ens.length + 1), .slice (some ⟨gt, 0, none⟩) c.txs.length (c.txs.length + 1), .int .i64 c.main] 28) ∧ Z.heap[w.heap.size + 1]? = some (.cells #[.slice iq c.ins.length ia, .slice eq c.ens.length ea, .slice tq c.txs.length ta, .int .i64 c.main] 28) ∧ Below w.heap.size w Z) := ⟨(hz.block _ (Array.getElem?_eq_some_iff.1 H0.out.1).1).trans H0.out.1, (hz.block _ (Array.getElem?_eq_some_iff.1 H0.out.2.1).1).trans H0.out.2.1, below2 H0.out.2.2 hz⟩
  have HZ : Hid (TwS Z b gi ge gt Gs c ∧ CodeM Z Z.heap.size iq eq tq Es c) := ⟨HX.out.1.next hz, (HX.out.2.below hz (Nat.le_refl _)).up hz.size⟩
  clear x0 x1 x2 x3 y0 y1 y2 y3 sm hz H0 HX X
  obtain ⟨x0, -⟩ := blk_cell H1.out.1 0 _ rfl
  obtain ⟨x1, -⟩ := blk_cell H1.out.1 1 _ rfl
  obtain ⟨x2, -⟩ := blk_cell H1.out.1 2 _ rfl
  obtain ⟨y0, -⟩ := blk_cell H1.out.2.1 0 _ rfl
  obtain ⟨y1, -⟩ := blk_cell H1.out.2.1 1 _ rfl
  obtain ⟨y2, -⟩ := blk_cell H1.out.2.1 2 _ rfl
  go_wp2_with fail
  go_loopw [6] (fun i wr => ∃ j : Nat, j ≤ c.ens.length ∧ i = .int .i64 (j : Int) ∧ wr = Z) (fun i _ => c.ens.length - (intOf i).toNat)
  case atStart => exact ⟨0, Nat.zero_le _, rfl, rfl⟩
  case round =>
    obtain ⟨j, hj, rfl, hw⟩ := hrel
    subst wr
    by_cases hlt : j < c.ens.length
    case pos =>
      have hlt' : j < Es.length := by rw [HZ.out.2.len]; exact hlt
      obtain ⟨g, o, heq, -, d0, d1, d2, d3, d4⟩ := HZ.out.2.ent j hlt'
      have hee : Es[j].1 = c.ens[j] := by
        have e1 : (Es.map (·.1))[j]? = c.ens[j]? := by rw [HZ.out.2.en]
        rw [List.getElem?_map, List.getElem?_eq_getElem hlt', List.getElem?_eq_getElem hlt] at e1
        exact Option.some.inj e1
      rw [heq] at y1
      obtain ⟨gs, h1, h2⟩ := HZ.out.1.fs j hlt
      have fc : Z.cell? ⟨ge, j * 5 + 3, none⟩ = some (.slice (some ⟨gs, 0, none⟩) c.ens[j].sorts.length (c.ens[j].sorts.length + 1)) := by
        have hz' := zip_get hlt h1
        have hl : j < (zipE c.ens Gs).length := by rw [zip_len HZ.out.1.gl]; exact hlt
        refine (HZ.out.1.fe.cell (j * 5 + 3) _ ?_).1
        rw [List.getElem?_append_left (by rw [flatL ec 5 (fun _ => rfl), zip_len HZ.out.1.gl]; omega), flat_at ec 5 (fun _ => rfl) (zipE c.ens Gs) j 3 hl (by omega)]
        rw [List.getElem?_eq_getElem hl] at hz'
        rw [Option.some.inj hz']
        rfl
      have mc := (h2.cell c.ens[j].sorts.length (.int .i64 77) (by have := last_at (vs := sv c.ens[j].sorts) (v := .int .i64 77) (d := []); rwa [sv_len] at this)).1
      have hb := HLs.out _ (List.getElem_mem hlt)
      rw [hee] at d3
      generalize c.ens[j].sorts.length = n at *
      have hup := up_run Tryz.underlying65 sz_S ⟨gs, 0, none⟩ n (n + 1) (n + 1) (Nat.le_refl _)
      rw [show ((n + 1 : Nat) : Int) = (n : Int) + 1 from rfl] at hup
      have n0 : (0 : Int) ≤ (n : Int) := by omega
      have n1 : (n : Int) < (n : Int) + 1 := by omega
      have n2 : (n : Int) ≤ 90000000000000 := by omega
      have j0 : (0 : Int) ≤ (j : Int) := by omega
      have j1 : (j : Int) < (c.ens.length : Int) := by omega
      clear hee heq h1 h2 d0 d1 d2 d4 hb
      go_wp2
      exact ⟨⟨j + 1, by omega, by go_num, trivial⟩, by simp [intOf]; omega⟩
    obtain rfl : j = c.ens.length := by omega
    have p1 : ¬ (c.ens.length : Int) < (c.ens.length : Int) := by omega
    have hupI := up_run Tryz.underlying24 sz_I ⟨gi, 0, none⟩ c.ins.length (c.ins.length + 1) (c.ins.length + 1) (Nat.le_refl _)
    rw [show ((c.ins.length + 1 : Nat) : Int) = (c.ins.length : Int) + 1 from rfl] at hupI
    have hupE := up_run Tryz.underlying25 sz_E ⟨ge, 0, none⟩ c.ens.length (c.ens.length + 1) (c.ens.length + 1) (Nat.le_refl _)
    rw [show ((c.ens.length + 1 : Nat) : Int) = (c.ens.length : Int) + 1 from rfl] at hupE
    have hupT := up_run Tryz.underlying26 sz_T ⟨gt, 0, none⟩ c.txs.length (c.txs.length + 1) (c.txs.length + 1) (Nat.le_refl _)
    rw [show ((c.txs.length + 1 : Nat) : Int) = (c.txs.length : Int) + 1 from rfl] at hupT
    have m1 : Z.cell? ⟨gi, c.ins.length * 3, none⟩ = some (.int .i64 77) := (HZ.out.1.fi.cell _ _ (by have := last_at (vs := c.ins.flatMap ic) (v := .int .i64 77) (d := [.int .i64 0, .int .i64 0]); rwa [flatL ic 3 (fun _ => rfl)] at this)).1
    have m2 : Z.cell? ⟨ge, c.ens.length * 5, none⟩ = some (.string (⟨#[115, 112, 97, 114, 101]⟩ : ByteArray)) := (HZ.out.1.fe.cell _ _ (by have := last_at (vs := (zipE c.ens Gs).flatMap ec) (v := .string spare) (d := [.int .i64 0, .int .i64 0, .slice none 0 0, .int .i64 0]); rwa [flatL ec 5 (fun _ => rfl), zip_len HZ.out.1.gl] at this)).1
    have m3 : Z.cell? ⟨gt, c.txs.length, none⟩ = some (.string (⟨#[115, 112, 97, 114, 101]⟩ : ByteArray)) := (HZ.out.1.ft.cell _ _ (by have := last_at (vs := tv c.txs) (v := .string spare) (d := []); rwa [tv_len] at this)).1
    clear hlt hj
    go_wp2
    first | (change bodyPost Tryz.prog Tryz.f16 _ Exit.ret _ _) | (simp only [Exit.noGoto])
    go_ret
    exact ⟨rfl, H1.out.2.2⟩
end Go.Proofs.YtchinflkjcebjaaGreatDoor
namespace Go.Proofs.YtchinflkjcebjaaGreatDoor
open Go.RowKit

theorem catE (a b : ByteArray) (h : a.size + b.size ≤ 9223372036854775807) : Op.stringOp .add a b = pure (.string (a ++ b)) := by
  unfold Op.stringOp
  simp only
  have e : IntKind.i64.max = 9223372036854775807 := by decide
  rw [e, if_neg (by omega)]
theorem Full.setAt {W : World} {g : Nat} {t : TypeId} {vs : List Value} (h : Full W g t vs) (j : Nat) (v : Value) : Full (W.setCell ⟨g, j, none⟩ v) g t (vs.set j v) := by
  have := set_blk (j := j) h v
  unfold Full
  rw [this, Array.set!_eq_setIfInBounds, List.setIfInBounds_toArray]
theorem TwS.setT {W : World} {b gi ge gt : Nat} {Gs : List Nat} {c : Cd} (h : TwS W b gi ge gt Gs c) {j : Nat} (hj : j < c.txs.length) (t : ByteArray) : TwS (W.setCell ⟨gt, j, none⟩ (.string t)) b gi ge gt Gs { c with txs := c.txs.set j t } := by
  refine ⟨h.fi.other1 (h.fi.ne h.ft (by decide)), h.fe.other1 (h.fe.ne h.ft (by decide)), ?_, fun i hi => ?_, h.gl, h.nd, h.gb, h.ib, h.eb, h.tb⟩
  · have := h.ft.setAt j (.string t)
    rw [List.set_append_left _ _ (by rw [tv_len]; exact hj)] at this
    have e : tv (c.txs.set j t) = (tv c.txs).set j (.string t) := by unfold tv; rw [List.map_set]
    simp only
    rw [e]
    exact this
  · obtain ⟨g, h1, h2⟩ := h.fs i hi
    exact ⟨g, h1, h2.other1 (h2.ne h.ft (by decide))⟩
/-- One sort of one function is written over. -/
def setS (c : Cd) (k j : Nat) (e : En) : Cd := { c with ens := c.ens.set k { e with sorts := e.sorts.set j 1 } }
theorem nodup_ne {l : List Nat} (h : l.Nodup) {i k a b : Nat} (hi : l[i]? = some a) (hk : l[k]? = some b) (hne : i ≠ k) : a ≠ b := by
  obtain ⟨hi1, rfl⟩ := List.getElem?_eq_some_iff.1 hi
  obtain ⟨hk1, rfl⟩ := List.getElem?_eq_some_iff.1 hk
  intro e
  exact hne ((List.getElem_inj h).1 e)
theorem zip_set (L : List En) (Gs : List Nat) (k : Nat) (e e' : En) (hk : L[k]? = some e) (h : ∀ g, ec (ownE e' g) = ec (ownE e g)) : ((zipE (L.set k e') Gs).flatMap ec) = (zipE L Gs).flatMap ec := by
  induction L generalizing Gs k with
  | nil => rfl
  | cons a L ih =>
    cases Gs with
    | nil => cases k <;> rfl
    | cons g Gs =>
      cases k with
      | zero =>
        obtain rfl : a = e := by simpa using hk
        unfold zipE
        rw [List.set_cons_zero, List.zipWith_cons_cons, List.zipWith_cons_cons, List.flatMap_cons, List.flatMap_cons, h]
      | succ k =>
        have := ih Gs k (by simpa using hk)
        unfold zipE at this ⊢
        rw [List.set_cons_succ, List.zipWith_cons_cons, List.zipWith_cons_cons, List.flatMap_cons, List.flatMap_cons, this]
theorem TwS.setS {W : World} {b gi ge gt : Nat} {Gs : List Nat} {c : Cd} (h : TwS W b gi ge gt Gs c) {k j g : Nat} (hk : k < c.ens.length) (hj : j < c.ens[k].sorts.length) (hg : Gs[k]? = some g) : TwS (W.setCell ⟨g, j, none⟩ (.int .i64 1)) b gi ge gt Gs (YtchinflkjcebjaaGreatDoor.setS c k j c.ens[k]) := by
  obtain ⟨g', q1, q2⟩ := h.fs k hk
  obtain rfl : g = g' := Option.some.inj (hg.symm.trans q1)
  refine ⟨h.fi.other1 (h.fi.ne q2 (by decide)), ?_, h.ft.other1 (h.ft.ne q2 (by decide)), fun i hi => ?_, by unfold YtchinflkjcebjaaGreatDoor.setS; simp only; rw [List.length_set]; exact h.gl, h.nd, h.gb, h.ib, h.eb, h.tb⟩
  · have e := zip_set c.ens Gs k c.ens[k] { c.ens[k] with sorts := c.ens[k].sorts.set j 1 } (List.getElem?_eq_getElem hk) (fun g => by simp [ec, ownE])
    unfold YtchinflkjcebjaaGreatDoor.setS
    simp only
    rw [e]
    exact h.fe.other1 (h.fe.ne q2 (by decide))
  · have hi' : i < c.ens.length := by unfold YtchinflkjcebjaaGreatDoor.setS at hi; simpa using hi
    by_cases q : i = k
    · subst q
      refine ⟨g, hg, ?_⟩
      have f := q2.setAt j (.int .i64 1)
      rw [List.set_append_left _ _ (by rw [sv_len]; exact hj)] at f
      have e1 : (YtchinflkjcebjaaGreatDoor.setS c i j c.ens[i]).ens[i]'hi = { c.ens[i] with sorts := c.ens[i].sorts.set j 1 } := List.getElem_set_self (l := c.ens) hi
      rw [e1]
      have e2 : sv (c.ens[i].sorts.set j 1) = (sv c.ens[i].sorts).set j (.int .i64 1) := by unfold sv; rw [List.map_set]
      simp only
      rw [e2]
      exact f
    · obtain ⟨g2, r1, r2⟩ := h.fs i hi'
      have e1 : (YtchinflkjcebjaaGreatDoor.setS c k j c.ens[k]).ens[i]'hi = c.ens[i] := List.getElem_set_ne (l := c.ens) (fun x => q x.symm) hi
      rw [e1]
      exact ⟨g2, r1, r2.other1 (nodup_ne h.nd r1 hg q)⟩
theorem TwS.setI {W : World} {b gi ge gt : Nat} {Gs : List Nat} {c : Cd} (h : TwS W b gi ge gt Gs c) (hn : 0 < c.ins.length) (x : In) : TwS (W.setCells gi 0 (ic x)) b gi ge gt Gs { c with ins := c.ins.set 0 x } := by
  refine ⟨?_, h.fe.other (h.fe.ne h.fi (by decide)), h.ft.other (h.ft.ne h.fi (by decide)), fun i hi => ?_, h.gl, h.nd, h.gb, h.ib, h.eb, h.tb⟩
  · obtain ⟨y, r, e⟩ := List.exists_cons_of_length_pos hn
    have f := h.fi
    rw [e, List.flatMap_cons, List.append_assoc] at f
    have := Full.put (ic x) (a := []) (b := ic y) f rfl
    simp only
    rw [e, List.set_cons_zero, List.flatMap_cons, List.append_assoc]
    exact this
  · obtain ⟨g, h1, h2⟩ := h.fs i hi
    exact ⟨g, h1, h2.other (h2.ne h.fi (by decide))⟩
/-- A code with all lists as long as those of another. -/
structure Ov (c d : Cd) : Prop where
  i : d.ins.length = c.ins.length
  e : d.ens.length = c.ens.length
  t : d.txs.length = c.txs.length
  m : d.main = c.main
  p : PartsOk d
  n : ∀ x ∈ d.ins, (-9223372036854775808 ≤ x.2.1 ∧ x.2.1 ≤ 9223372036854775807) ∧ (-9223372036854775808 ≤ x.2.2 ∧ x.2.2 ≤ 9223372036854775807)
theorem Ov.setS {c d : Cd} (h : Ov c d) {k j : Nat} (hk : k < d.ens.length) : Ov c (YtchinflkjcebjaaGreatDoor.setS d k j d.ens[k]) := by
  refine ⟨h.i, by unfold YtchinflkjcebjaaGreatDoor.setS; simp only; rw [List.length_set]; exact h.e, h.t, h.m, ⟨fun e he => ?_, h.p.il, ?_, h.p.tl, h.p.ts⟩, h.n⟩
  · unfold YtchinflkjcebjaaGreatDoor.setS at he
    rcases List.mem_or_eq_of_mem_set he with q | q
    · exact h.p.es e q
    · rw [q]
      have := h.p.es _ (List.getElem_mem hk)
      simp only [List.length_set]
      exact this
  · unfold YtchinflkjcebjaaGreatDoor.setS; simp only; rw [List.length_set]; exact h.p.el
theorem Ov.setT {c d : Cd} (h : Ov c d) (j : Nat) {t : ByteArray} (ht : t.size ≤ 9223372036854775807) : Ov c { d with txs := d.txs.set j t } := by
  refine ⟨h.i, h.e, by simp only; rw [List.length_set]; exact h.t, h.m, ⟨h.p.es, h.p.il, h.p.el, by simp only; rw [List.length_set]; exact h.p.tl, fun x hx => ?_⟩, h.n⟩
  rcases List.mem_or_eq_of_mem_set hx with q | q
  · exact h.p.ts x q
  · rw [q]; exact ht
theorem Ov.setI {c d : Cd} (h : Ov c d) : Ov c { d with ins := d.ins.set 0 (13, 0, 0) } := by
  refine ⟨by simp only; rw [List.length_set]; exact h.i, h.e, h.t, h.m, ⟨h.p.es, by simp only; rw [List.length_set]; exact h.p.il, h.p.el, h.p.tl, h.p.ts⟩, fun x hx => ?_⟩
  rcases List.mem_or_eq_of_mem_set hx with q | q
  · exact h.n x q
  · rw [q]; decide
end Go.Proofs.YtchinflkjcebjaaGreatDoor
