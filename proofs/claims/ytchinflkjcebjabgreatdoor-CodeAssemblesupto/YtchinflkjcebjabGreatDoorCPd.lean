import Derived.Test.YtchinflkjcebjabGreatDoorCPc
namespace Go.Proofs.YtchinflkjcebjabGreatDoor
open Go.RowKit

/-- The boxes beside the words. -/
structure IW (w W : World) (p2 : Nat) (CI CR : Array Value) : Prop where
  bel : Below w.heap.size w W
  bi : W.heap[w.heap.size]? = some (.cells CI 46)
  br : W.heap[p2]? = some (.cells CR 58)
theorem IW.next {w W W' : World} {p2 : Nat} {CI CR : Array Value} (h : IW w W p2 CI CR) (b : Below W.heap.size W W') : IW w W' p2 CI CR :=
  ⟨below2 h.bel b, (b.block _ (Array.getElem?_eq_some_iff.1 h.bi).1).trans h.bi, (b.block _ (Array.getElem?_eq_some_iff.1 h.br).1).trans h.br⟩
theorem IW.app {w W W' : World} {p2 : Nat} {CI CR : Array Value} (h : IW w W p2 CI CR) {v : Value} {n : Nat} {xs : List Value} (ho : W.ownsRow w.heap.size 9 1 v n xs) (D : Obj) (hg : (W.alloc D).grownBy W' v.ownBlock) : IW w W' p2 CI CR := by
  have k : ∀ g t m, Blk W g t m → t ≠ 9 → W'.heap[g]? = W.heap[g]? := fun g t m hb ht => (hg.block g (by have := hb.lt; simp; omega) (fun e => own_ne ho hb ht e.symm)).trans (Below.heap_alloc _ _ _ hb.lt)
  exact ⟨(h.bel.alloc h.bel.size _).grown hg (by have := h.bel.size; simp; omega) (own_ge ho), (k _ 46 CI.size ⟨_, h.bi, Nat.le_refl _⟩ (by decide)).trans h.bi, (k _ 58 CR.size ⟨_, h.br, Nat.le_refl _⟩ (by decide)).trans h.br⟩
set_option maxRecDepth 100000 in
set_option maxHeartbeats 4000000 in
theorem instrWords_any (op a b : Int) (w : World) (hok : insS (op, a, b) = true) (ht : Tabs w) (ha0 : -9223372036854775808 ≤ a) (ha1 : a ≤ 9223372036854775807) (hb0 : -9223372036854775808 ≤ b) (hb1 : b ≤ 9223372036854775807) :
    Calls Tryz.prog 32 #[.agg #[.int .i64 op, .int .i64 a, .int .i64 b]] w fun e w' => ∃ q cap, e = .returned (.slice q (iwB (op, a, b)).length cap) ∧ Hid (w'.ownsRow w.heap.size 9 1 (.slice q (iwB (op, a, b)).length cap) (iwB (op, a, b)).length (tv (iwB (op, a, b))) ∧ Below w.heap.size w w') := by
  unfold insS at hok
  simp only [Bool.and_eq_true, decide_eq_true_eq] at hok
  obtain ⟨o0, o1, ma, mb⟩ := hok
  obtain ⟨k, rfl⟩ : ∃ k : Nat, op = (k : Int) := ⟨op.toNat, by omega⟩
  rw [Int.toNat_natCast] at ma mb
  obtain ⟨L, HL⟩ : ∃ L, Hid (L = iwB ((k : Int), a, b)) := ⟨_, rfl⟩
  rw [← HL.out]
  have hk : k < 24 := by omega
  obtain ⟨i0, i1, i2⟩ := ht.ins k hk
  have hoa := opA_lt k
  have hob := opB_lt k
  have HLL : Hid (L = [wdT.getD k e0] ++ ((if opA.getD k 0 = 0 then [] else [YtchinflkjcebjabGreatDoor.bk (opW (opA.getD k 0) a)]) ++ (if opB.getD k 0 = 0 then [] else [YtchinflkjcebjabGreatDoor.bk (opW (opB.getD k 0) b)]))) := by
    show L = _
    rw [HL.out]
    unfold iwB insW
    simp only [Int.toNat_natCast, List.map_append, List.map_cons, List.map_nil, bk_all]
    congr 2
    · split <;> rfl
    · split <;> rfl
  have HWa : Hid (∀ W, Below w.heap.size w W → Calls Tryz.prog 29 #[.int .i64 ((opA.getD k 0 : Nat) : Int), .int .i64 a] W fun e w' => e = .returned (.string (YtchinflkjcebjabGreatDoor.bk (opW (opA.getD k 0) a))) ∧ Below W.heap.size W w') := fun W hW => word_any _ a W hoa ma (ht.next hW) ha0 ha1
  have HWb : Hid (∀ W, Below w.heap.size w W → Calls Tryz.prog 29 #[.int .i64 ((opB.getD k 0 : Nat) : Int), .int .i64 b] W fun e w' => e = .returned (.string (YtchinflkjcebjabGreatDoor.bk (opW (opB.getD k 0) b))) ∧ Below W.heap.size W w') := fun W hW => word_any _ b W hob mb (ht.next hW) hb0 hb1
  generalize YtchinflkjcebjabGreatDoor.bk (opW (opA.getD k 0) a) = sa at *
  generalize YtchinflkjcebjabGreatDoor.bk (opW (opB.getD k 0) b) = sb at *
  generalize opA.getD k 0 = oa at *
  generalize opB.getD k 0 = ob at *
  generalize wdT.getD k e0 = wd at *
  have B1 : Below w.heap.size w (w.alloc (.cells #[.int .i64 (k : Int), .int .i64 a, .int .i64 b] 46)) := (Below.refl _ w).alloc (Nat.le_refl _) _
  have PX := World.alloc_heap_new w (.cells #[.int .i64 (k : Int), .int .i64 a, .int .i64 b] 46)
  have x0 := (cells_new w #[.int .i64 (k : Int), .int .i64 a, .int .i64 b] 46 0 (.int .i64 (k : Int)) rfl).1
  have x1 := (cells_new w #[.int .i64 (k : Int), .int .i64 a, .int .i64 b] 46 1 (.int .i64 a) rfl).1
  have x2 := (cells_new w #[.int .i64 (k : Int), .int .i64 a, .int .i64 b] 46 2 (.int .i64 b) rfl).1
  have hlt1 : w.heap.size < (w.alloc (.cells #[.int .i64 (k : Int), .int .i64 a, .int .i64 b] 46)).heap.size := by simp
  have hs10 : 0 < w.heap.size := Nat.lt_of_lt_of_le (by decide) ht.size
  replace i0 := (B1.cell (p := ⟨0, k * 3, none⟩) hs10).trans i0
  replace i1 := (B1.cell (p := ⟨0, k * 3 + 1, none⟩) hs10).trans i1
  replace i2 := (B1.cell (p := ⟨0, k * 3 + 2, none⟩) hs10).trans i2
  clear ma mb ht HL
  go_enter Tryz.func32, Tryz.ntmps32
  go_upto_region 1 with fail
  generalize w.alloc (.cells #[.int .i64 (k : Int), .int .i64 a, .int .i64 b] 46) = X at *
  have B2 : Below X.heap.size X (X.alloc (.cells #[.string wd, .int .i64 (oa : Int), .int .i64 (ob : Int)] 58)) := (Below.refl _ X).alloc (Nat.le_refl _) _
  have PY := World.alloc_heap_new X (.cells #[.string wd, .int .i64 (oa : Int), .int .i64 (ob : Int)] 58)
  have y0 := (cells_new X #[.string wd, .int .i64 (oa : Int), .int .i64 (ob : Int)] 58 0 (.string wd) rfl).1
  have y1 := (cells_new X #[.string wd, .int .i64 (oa : Int), .int .i64 (ob : Int)] 58 1 (.int .i64 (oa : Int)) rfl).1
  have y2 := (cells_new X #[.string wd, .int .i64 (oa : Int), .int .i64 (ob : Int)] 58 2 (.int .i64 (ob : Int)) rfl).1
  have hlt2 : X.heap.size < (X.alloc (.cells #[.string wd, .int .i64 (oa : Int), .int .i64 (ob : Int)] 58)).heap.size := by simp
  replace x1 := (B2.cell (p := ⟨w.heap.size, 1, none⟩) hlt1).trans x1
  replace x2 := (B2.cell (p := ⟨w.heap.size, 2, none⟩) hlt1).trans x2
  have B12 := below2 B1 B2
  have PXY := (B2.block w.heap.size hlt1).trans PX
  go_upto_region 2 with fail
  generalize X.alloc (.cells #[.string wd, .int .i64 (oa : Int), .int .i64 (ob : Int)] 58) = Y at *
  generalize X.heap.size = p2 at *
  obtain ⟨W0, hW0⟩ : ∃ W0, W0 = Y.alloc (.cells #[.string wd] 9) := ⟨_, rfl⟩
  have O0 : W0.ownsRow Y.heap.size 9 1 (.slice (some ⟨Y.heap.size, 0, none⟩) 1 1) 1 (tv [wd]) := by rw [hW0]; exact own_lit Y [.string wd] 9 1 rfl (by decide)
  have nb0 : Below Y.heap.size Y W0 := by rw [hW0]; exact (Below.refl _ Y).alloc (Nat.le_refl _) _
  have HW0 : Hid (W0 = Y.alloc (.cells #[.string wd] 9)) := hW0
  have HO0 : Hid (W0.ownsRow w.heap.size 9 1 (.slice (some ⟨Y.heap.size, 0, none⟩) 1 1) 1 (tv [wd])) := own_down O0 B12.size
  have HB0 : Hid (Below w.heap.size w W0) := below2 B12 nb0
  have HI0 : Hid (IW w W0 p2 #[.int .i64 (k : Int), .int .i64 a, .int .i64 b] #[.string wd, .int .i64 (oa : Int), .int .i64 (ob : Int)]) := IW.next ⟨B12, PXY, PY⟩ nb0
  clear hW0 O0 nb0 B12 PXY PY PX HB0 i0 i1 i2 x0 x1 x2 y1 y2
  go_upto_region 3 with fail
  rw [← HW0.out]
  clear HW0
  generalize Y.heap.size = p3 at *
  obtain ⟨y1, -⟩ := blk_cell HI0.out.br 1 (.int .i64 (oa : Int)) rfl
  obtain ⟨x1, -⟩ := blk_cell HI0.out.bi 1 (.int .i64 a) rfl
  clear y0
  by_cases hoa0 : oa = 0
  case pos =>
    have HLA : Hid (L = [wd] ++ (if ob = 0 then [] else [sb])) := by
      show L = _
      rw [HLL.out, if_pos hoa0]
      rfl
    have q1 : ((oa : Int) == 0) = true := by rw [beq_iff_eq]; omega
    clear hoa0 HLL
    go_upto_region 5 with fail
    clear y1 x1 q1
    by_cases hob0 : ob = 0
    case pos =>
      have HF : Hid (L = [wd]) := by
        show L = _
        rw [HLA.out, if_pos hob0]
        rfl
      have q0 : ((ob : Int) == 0) = true := by rw [beq_iff_eq]; omega
      obtain ⟨y2, -⟩ := blk_cell HI0.out.br 2 (.int .i64 (ob : Int)) rfl
      clear hob0
      go_wp2
      go_ret
      refine ⟨some ⟨p3, 0, none⟩, 1, ?_, ?_⟩
      · rw [HF.out]; rfl
      · rw [HF.out]; exact ⟨HO0.out, HI0.out.bel⟩
    have HF : Hid (L = [wd] ++ [sb]) := by
      show L = _
      rw [HLA.out, if_neg hob0]
    have q0 : ((ob : Int) == 0) = false := by rw [beq_eq_false_iff_ne]; omega
    obtain ⟨y2, -⟩ := blk_cell HI0.out.br 2 (.int .i64 (ob : Int)) rfl
    obtain ⟨x2, -⟩ := blk_cell HI0.out.bi 2 (.int .i64 b) rfl
    have n2 := HWb.out W0 HI0.out.bel
    clear hob0
    go_wp2_with fail
    refine n2.mono ?_
    rintro e W5 ⟨rfl, hb5⟩
    have IW5 : Hid (IW w W5 p2 #[.int .i64 (k : Int), .int .i64 a, .int .i64 b] #[.string wd, .int .i64 (oa : Int), .int .i64 (ob : Int)]) := HI0.out.next hb5
    have OW5 : Hid (W5.ownsRow w.heap.size 9 1 (.slice (some ⟨p3, 0, none⟩) 1 1) 1 (tv [wd])) := own_next HO0.out hb5
    have H1 := one1 (.string sb) rfl
    have hzr := IW5.out.bel.size
    clear n2
    go_wp2_with (first
      | (at_builtin; refine wpList_app 24 9 _ 1 16 Tryz.underlying24 info9 (by rfl) (by decide) (by decide) (by rfl) _ _ (by rfl) w.heap.size (.slice (some ⟨p3, 0, none⟩) 1 1) 1 (tv [wd]) (by rfl) OW5.out _ (by rfl) H1 (by rfl) (by omega) hzr ?_; intro v6 w6 ho6 hg6; obtain ⟨q6, c6, rfl, -, -⟩ := own_slice ho6.out)
      | fail)
    have IW6 := IW5.out.app OW5.out _ hg6.out.1
    go_ret
    refine ⟨q6, c6, ?_, ?_⟩
    · rw [HF.out]; rfl
    · rw [HF.out]; exact ⟨by have := ho6.out; rw [tv_app]; exact this, IW6.bel⟩
  have HLA : Hid (L = [wd, sa] ++ (if ob = 0 then [] else [sb])) := by
    show L = _
    rw [HLL.out, if_neg hoa0]
    rfl
  have q1 : ((oa : Int) == 0) = false := by rw [beq_eq_false_iff_ne]; omega
  have n1 := HWa.out W0 HI0.out.bel
  clear hoa0 HLL
  go_wp2_with fail
  refine n1.mono ?_
  rintro e W1 ⟨rfl, hb1⟩
  have HI1 : Hid (IW w W1 p2 #[.int .i64 (k : Int), .int .i64 a, .int .i64 b] #[.string wd, .int .i64 (oa : Int), .int .i64 (ob : Int)]) := HI0.out.next hb1
  have HO1 : Hid (W1.ownsRow w.heap.size 9 1 (.slice (some ⟨p3, 0, none⟩) 1 1) 1 (tv [wd])) := own_next HO0.out hb1
  have H1 := one1 (.string sa) rfl
  have hzr := HI1.out.bel.size
  clear n1 HI0 HO0 y1 x1 q1
  go_upto_region 5 with (first
    | (at_builtin; refine wpList_app 24 9 _ 1 16 Tryz.underlying24 info9 (by rfl) (by decide) (by decide) (by rfl) _ _ (by rfl) w.heap.size (.slice (some ⟨p3, 0, none⟩) 1 1) 1 (tv [wd]) (by rfl) HO1.out _ (by rfl) H1 (by rfl) (by omega) hzr ?_; intro v3 w3 ho3 hg3; obtain ⟨q3, c3, rfl, -, -⟩ := own_slice ho3.out)
    | fail)
  have HI3 : Hid (IW w w3 p2 #[.int .i64 (k : Int), .int .i64 a, .int .i64 b] #[.string wd, .int .i64 (oa : Int), .int .i64 (ob : Int)]) := HI1.out.app HO1.out _ hg3.out.1
  have HO3 : Hid (w3.ownsRow w.heap.size 9 1 (.slice q3 (1 + 1) c3) (1 + 1) (tv [wd, sa])) := ho3.out
  clear HI1 HO1 ho3 hg3 H1 hzr
  by_cases hob0 : ob = 0
  case pos =>
    have HF : Hid (L = [wd, sa]) := by
      show L = _
      rw [HLA.out, if_pos hob0]
      rfl
    have q0 : ((ob : Int) == 0) = true := by rw [beq_iff_eq]; omega
    obtain ⟨y2, -⟩ := blk_cell HI3.out.br 2 (.int .i64 (ob : Int)) rfl
    clear hob0
    go_wp2
    go_ret
    refine ⟨q3, c3, ?_, ?_⟩
    · rw [HF.out]; rfl
    · rw [HF.out]; exact ⟨HO3.out, HI3.out.bel⟩
  have HF : Hid (L = [wd, sa] ++ [sb]) := by
    show L = _
    rw [HLA.out, if_neg hob0]
  have q0 : ((ob : Int) == 0) = false := by rw [beq_eq_false_iff_ne]; omega
  obtain ⟨y2, -⟩ := blk_cell HI3.out.br 2 (.int .i64 (ob : Int)) rfl
  obtain ⟨x2, -⟩ := blk_cell HI3.out.bi 2 (.int .i64 b) rfl
  have n2 := HWb.out w3 HI3.out.bel
  clear hob0
  go_wp2_with fail
  refine n2.mono ?_
  rintro e W5 ⟨rfl, hb5⟩
  have IW5 : Hid (IW w W5 p2 #[.int .i64 (k : Int), .int .i64 a, .int .i64 b] #[.string wd, .int .i64 (oa : Int), .int .i64 (ob : Int)]) := HI3.out.next hb5
  have OW5 : Hid (W5.ownsRow w.heap.size 9 1 (.slice q3 (1 + 1) c3) (1 + 1) (tv [wd, sa])) := own_next HO3.out hb5
  have H1 := one1 (.string sb) rfl
  have hzr := IW5.out.bel.size
  clear n2
  go_wp2_with (first
    | (at_builtin; refine wpList_app 24 9 _ 1 16 Tryz.underlying24 info9 (by rfl) (by decide) (by decide) (by rfl) _ _ (by rfl) w.heap.size (.slice q3 (1 + 1) c3) (1 + 1) (tv [wd, sa]) (by rfl) OW5.out _ (by rfl) H1 (by rfl) (by omega) hzr ?_; intro v6 w6 ho6 hg6; obtain ⟨q6, c6, rfl, -, -⟩ := own_slice ho6.out)
    | fail)
  have IW6 := IW5.out.app OW5.out _ hg6.out.1
  go_ret
  refine ⟨q6, c6, ?_, ?_⟩
  · rw [HF.out]; rfl
  · rw [HF.out]; exact ⟨by have := ho6.out; rw [tv_app]; exact this, IW6.bel⟩
end Go.Proofs.YtchinflkjcebjabGreatDoor
