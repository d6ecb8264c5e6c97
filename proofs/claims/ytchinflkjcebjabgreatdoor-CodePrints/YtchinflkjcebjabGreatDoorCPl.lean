import Derived.Test.YtchinflkjcebjabGreatDoorRP1
namespace Go.Proofs.YtchinflkjcebjabGreatDoor
open Go.RowKit

set_option maxRecDepth 100000 in
set_option maxHeartbeats 8000000 in
theorem codePrints_any {w : World} {iq eq tq : Option Addr} {Es : List Em} {c : Cd} (h : ArgC w iq eq tq Es c) (ia ea ta : Nat) (ht : Tabs w) : Calls Tryz.prog 4 #[codeV iq eq tq ia ea ta c] w fun e w' => e = .returned (.bool true) ∧ Below w.heap.size w w' := by
  show Calls Tryz.prog 4 #[aggC iq eq tq ia ea ta c] w _
  have HT : Hid (∀ W, Below w.heap.size w W → Tabs W) := fun W hW => ht.next hW
  have HA : Hid (ArgC w iq eq tq Es c) := h
  obtain ⟨W1, hW1⟩ : ∃ W1, W1 = w.alloc (.cells #[.slice iq c.ins.length ia, .slice eq c.ens.length ea, .slice tq c.txs.length ta, .int .i64 c.main] 26) := ⟨_, rfl⟩
  have HW1 : Hid (W1 = w.alloc (.cells #[.slice iq c.ins.length ia, .slice eq c.ens.length ea, .slice tq c.txs.length ta, .int .i64 c.main] 26)) := hW1
  have A1 : ArgC W1 iq eq tq Es c := h.next (by rw [hW1]; exact (Below.refl _ w).alloc (Nat.le_refl _) _)
  have tw := twin_any A1 ia ea ta
  have f1 : Full W1 w.heap.size 26 [.slice iq c.ins.length ia, .slice eq c.ens.length ea, .slice tq c.txs.length ta, .int .i64 c.main] := by rw [hW1]; exact Full.new w _ _
  obtain ⟨x0, x1, x2, x3⟩ := f1.four
  obtain ⟨V, HV⟩ : ∃ V : Int, Hid (V = validS c) := ⟨_, (rfl : validS c = validS c)⟩
  obtain ⟨E, HE⟩ : ∃ E : ByteArray, Hid (E = if validS c = 0 then YtchinflkjcebjabGreatDoor.bk (printS c) else e0) := ⟨_, (rfl : (if validS c = 0 then YtchinflkjcebjabGreatDoor.bk (printS c) else e0) = _)⟩
  clear h ht A1 f1
  go_enter Tryz.func4, Tryz.ntmps4
  go_upto_region 1 with fail
  rw [← hW1]
  clear hW1
  go_wp2_with fail
  refine tw.mono ?_
  rintro e W2 ⟨gi, ge, gt, rfl, hw2⟩
  obtain ⟨Gs, t2, b2⟩ := hw2.out
  obtain ⟨W3, hW3⟩ : ∃ W3, W3 = W2.alloc (.cells #[.slice (some ⟨gi, 0, none⟩) c.ins.length (c.ins.length + 1), .slice (some ⟨ge, 0, none⟩) c.ens.length (c.ens.length + 1), .slice (some ⟨gt, 0, none⟩) c.txs.length (c.txs.length + 1), .int .i64 c.main] 26) := ⟨_, rfl⟩
  have H3 : Hid (Two2 w W3 W2.heap.size iq eq tq ia ea ta Es c W1.heap.size gi ge gt Gs) := Two2.start HA.out W1 HW1.out t2 b2 hW3
  clear t2 b2 hw2 tw x0 x1 x2 x3 HA HW1
  go_upto_region 2 with fail
  rw [← hW3]
  clear hW3
  generalize W2.heap.size = p at *
  generalize W1.heap.size = b at *
  clear W1 W2
  have v3 : Calls Tryz.prog 13 #[aggX gi ge gt c] W3 fun e w' => e = .returned (.tuple #[.string E, .int .i64 V]) ∧ Below W3.heap.size W3 w' := by rw [HV.out, HE.out]; exact print_any (H3.out.tw.m H3.out.arg.parts) (c.ins.length + 1) (c.ens.length + 1) (c.txs.length + 1) (Nat.le_refl _) (HT.out _ H3.out.bel)
  obtain ⟨x0, x1, x2, x3⟩ := H3.out.bx.four
  go_wp2_with fail
  refine v3.mono ?_
  rintro e W4 ⟨rfl, hw4⟩
  have H4 : Hid (Two2 w W4 p iq eq tq ia ea ta Es c b gi ge gt Gs) := H3.out.next hw4
  clear v3 x0 x1 x2 x3 H3 hw4 W3
  have r4 : Calls Tryz.prog 14 #[aggC iq eq tq ia ea ta c] W4 fun e w' => e = .returned (.tuple #[.string E, .int .i64 V]) ∧ Below W4.heap.size W4 w' := by rw [HV.out, HE.out]; exact rprint_any H4.out.arg.m ia ea ta H4.out.arg.in64 (HT.out _ H4.out.bel)
  obtain ⟨y0, y1, y2, y3⟩ := H4.out.bc.four
  go_wp2_with fail
  refine r4.mono ?_
  rintro e W5 ⟨rfl, hw5⟩
  have H5 : Hid (Two2 w W5 p iq eq tq ia ea ta Es c b gi ge gt Gs) := H4.out.next hw5
  clear r4 y0 y1 y2 y3 H4 hw5 W4
  have l5 := left_any H5.out.arg.m H5.out.arg.parts H5.out.arg.li H5.out.arg.le H5.out.arg.lt H5.out.arg.ls H5.out.tw ia ea ta
  obtain ⟨x0, x1, x2, x3⟩ := H5.out.bx.four
  obtain ⟨y0, y1, y2, y3⟩ := H5.out.bc.four
  go_wp2_with fail
  refine l5.mono ?_
  rintro e W6 ⟨rfl, hw6⟩
  have H6 : Hid (Two2 w W6 p iq eq tq ia ea ta Es c b gi ge gt Gs) := H5.out.next hw6
  clear l5 x0 x1 x2 x3 y0 y1 y2 y3 H5 hw6 W5
  have o6 := over_any H6.out.tw H6.out.arg.ov H6.out.arg.ts H6.out.arg.li H6.out.arg.le H6.out.arg.lt
  obtain ⟨x0, x1, x2, x3⟩ := H6.out.bx.four
  go_wp2_with fail
  refine o6.mono ?_
  rintro e W7 ⟨rfl, hw7⟩
  obtain ⟨d, k7⟩ := hw7.out
  have H7 : Hid (Two3 w W7 p c d gi ge gt Gs) := H6.out.over k7
  clear o6 x0 x1 x2 x3 H6 hw7 k7 W6 HV HE
  obtain ⟨U, HU⟩ : ∃ U : Int, Hid (U = validS d) := ⟨_, (rfl : validS d = validS d)⟩
  obtain ⟨F, HF⟩ : ∃ F : ByteArray, Hid (F = if validS d = 0 then YtchinflkjcebjabGreatDoor.bk (printS d) else e0) := ⟨_, (rfl : (if validS d = 0 then YtchinflkjcebjabGreatDoor.bk (printS d) else e0) = _)⟩
  have HP : Hid (∀ W, Two3 w W p c d gi ge gt Gs → Calls Tryz.prog 13 #[aggX gi ge gt c] W fun e w' => e = .returned (.tuple #[.string F, .int .i64 U]) ∧ Below W.heap.size W w') := fun W hW => by
    have := print_any hW.cm (c.ins.length + 1) (c.ens.length + 1) (c.txs.length + 1) (Nat.le_refl _) (HT.out _ hW.bel)
    unfold codeV at this
    rw [hW.ov.i, hW.ov.e, hW.ov.t, hW.ov.m, ← HF.out, ← HU.out] at this
    exact this
  have HQ : Hid (∀ W, Two3 w W p c d gi ge gt Gs → Calls Tryz.prog 14 #[aggX gi ge gt c] W fun e w' => e = .returned (.tuple #[.string F, .int .i64 U]) ∧ Below W.heap.size W w') := fun W hW => by
    have := rprint_any hW.cm (c.ins.length + 1) (c.ens.length + 1) (c.txs.length + 1) hW.ov.n (HT.out _ hW.bel)
    unfold aggC at this
    rw [hW.ov.i, hW.ov.e, hW.ov.t, hW.ov.m, ← HF.out, ← HU.out] at this
    exact this
  have v7 := HP.out W7 H7.out
  obtain ⟨x0, x1, x2, x3⟩ := H7.out.bx.four
  go_wp2_with fail
  refine v7.mono ?_
  rintro e W8 ⟨rfl, hw8⟩
  have H8 : Hid (Two3 w W8 p c d gi ge gt Gs) := H7.out.next hw8
  clear v7 x0 x1 x2 x3 H7 hw8 W7 HP
  have r8 := HQ.out W8 H8.out
  obtain ⟨x0, x1, x2, x3⟩ := H8.out.bx.four
  go_wp2_with fail
  refine r8.mono ?_
  rintro e W9 ⟨rfl, hw9⟩
  have HB : Hid (Below w.heap.size w W9) := below2 H8.out.bel hw9
  have kn := known_any W9 (HT.out _ HB.out)
  clear r8 x0 x1 x2 x3 H8 hw9 W8 HQ HU HF HT
  go_wp2_with fail
  refine kn.mono ?_
  rintro e WA ⟨rfl, hwA⟩
  go_wp2
  go_ret
  exact ⟨rfl, below2 HB.out hwA⟩
end Go.Proofs.YtchinflkjcebjabGreatDoor
