import Derived.Test.YtichbejmelkjeaaGreatDoorTrSd
import Derived.Test.YtichbejmelkjeaaGreatDoorP25
namespace Go.Proofs.YtichbejmelkjeaaGreatDoor
open Go.RowKit

set_option maxRecDepth 100000 in
set_option maxHeartbeats 4000000 in
theorem rtext_any (kd pk ln nn : Int) (nm cd tx : ByteArray) (off : Bool) (w : World) (hT : Tab10 w) (hR : Lx.RTabs w) (hW : RW w) (hl : -9223372036854775808 ≤ ln ∧ ln ≤ 9223372036854775807) (hn : -9223372036854775808 ≤ nn ∧ nn ≤ 9223372036854775807) (hs : nm.size ≤ 140737488355328 ∧ cd.size ≤ 140737488355328 ∧ tx.size ≤ 140737488355328) :
    Calls Tryz.prog 16 #[.agg #[.int .i64 kd, .int .i64 pk, .int .i64 ln, .string nm, .string cd, .bool off, .int .i64 nn, .string tx]] w (TxP w ⟨kd, pk, ln, nm.data.toList, cd.data.toList, off, nn, tx.data.toList⟩) := by
  obtain ⟨c, hc⟩ : ∃ c : Cm, c = ⟨kd, pk, ln, nm.data.toList, cd.data.toList, off, nn, tx.data.toList⟩ := ⟨_, rfl⟩
  obtain ⟨X1, hX1⟩ : ∃ X1, w.alloc (.cells #[.int .i64 kd, .int .i64 pk, .int .i64 ln, .string nm, .string cd, .bool off, .int .i64 nn, .string tx] 51) = X1 := ⟨_, rfl⟩
  have b1 : Below w.heap.size w X1 := by rw [← hX1]; exact (Below.refl _ w).alloc (Nat.le_refl _) _
  have f1 : Full X1 w.heap.size 51 [.int .i64 kd, .int .i64 pk, .int .i64 ln, .string nm, .string cd, .bool off, .int .i64 nn, .string tx] := by rw [← hX1]; exact Full.new w _ _
  obtain ⟨⟨e0, -⟩, ⟨e1, -⟩, ⟨e2, -⟩, ⟨e3, -⟩, ⟨e4, -⟩, ⟨e5, -⟩, ⟨e6, -⟩, ⟨e7, -⟩⟩ := f1.cell8
  have HF : Hid (∀ W, Below X1.heap.size X1 W → Full W w.heap.size 51 [.int .i64 kd, .int .i64 pk, .int .i64 ln, .string nm, .string cd, .bool off, .int .i64 nn, .string tx] ∧ Below w.heap.size w W ∧ Lx.RTabs W ∧ RW W) := fun W h => ⟨f1.next h, b1.trans (h.mono b1.size), hR.next (b1.trans (h.mono b1.size)), hW.next hR.size (b1.trans (h.mono b1.size))⟩
  have HC := rsaid_any kd pk ln nn nm cd tx off X1 (hT.next b1) (hW.next hR.size b1) (Nat.lt_of_lt_of_le hR.size b1.size) hl hn hs
  rw [← hc] at HC ⊢
  have HCc : Hid (c = ⟨kd, pk, ln, nm.data.toList, cd.data.toList, off, nn, tx.data.toList⟩) := hc
  clear hT hR hW b1 f1 hl hn hs hc
  go_enter Tryz.func16, Tryz.ntmps16
  go_wp2_with fail
  refine HC.mono ?_
  rintro e w3 ⟨s, rfl, hq⟩
  clear HC
  have hsl := hq.out.1
  have hb13 : Below X1.heap.size X1 w3 := hq.out.2
  have HP := rparse_any s w3 (HF.out w3 hb13).2.2.1 (HF.out w3 hb13).2.2.2
  rw [hsl] at HP
  have HS : Hid (s.data.toList = lnS c) := hsl
  clear hsl hq
  go_wp2_with fail
  refine HP.mono ?_
  rintro e w4 ⟨k, a1, a2, a3, a4, a6, a7, er, rfl, hq4⟩
  clear HP
  have hb14 : Below X1.heap.size X1 w4 := hb13.trans (hq4.out.2.mono hb13.size)
  obtain ⟨W5, hW5⟩ : ∃ W5, w4.alloc (.cells #[.int .i64 k, .int .i64 a1, .int .i64 a2, .string a3, .string a4, .bool false, .int .i64 a6, .string a7] 51) = W5 := ⟨_, rfl⟩
  have n5 : Below X1.heap.size X1 W5 := by rw [← hW5]; exact hb14.alloc hb14.size _
  have f5 : Full W5 w4.heap.size 51 [.int .i64 k, .int .i64 a1, .int .i64 a2, .string a3, .string a4, .bool false, .int .i64 a6, .string a7] := by rw [← hW5]; exact Full.new w4 _ _
  obtain ⟨⟨r0, -⟩, ⟨r1, -⟩, ⟨r2, -⟩, ⟨r3, -⟩, ⟨r4, -⟩, ⟨r5, -⟩, ⟨r6, -⟩, ⟨r7, -⟩⟩ := f5.cell8
  obtain ⟨gF, h5b, -⟩ := HF.out W5 n5
  obtain ⟨⟨g0, -⟩, ⟨g1, -⟩, ⟨g2, -⟩, ⟨g3, -⟩, ⟨g4, -⟩, ⟨g5, -⟩, ⟨g6, -⟩, ⟨g7, -⟩⟩ := gF.cell8
  have HB5 : Hid (Below w.heap.size w W5) := h5b
  have hne := neq8 k a1 a2 a3 a4 false a6 a7 kd pk ln nm cd off nn tx
  have hiff := eq8_iff k a1 a2 a3 a4 false a6 a7 kd pk ln nm cd off nn tx
  rw [← HCc.out] at hiff
  have HQ : Hid _ := hq4.out.1
  clear hq4 hb13 hb14 n5 f5 gF h5b HF HCc
  generalize eq8 k a1 a2 a3 a4 false a6 a7 kd pk ln nm cd off nn tx = bq at hne hiff
  subst hW5
  rcases HQ.out with ⟨rfl, hp⟩ | ⟨rfl, hp, -, -, -, -, -, -, -⟩
  · cases bq with
    | true =>
      have HR : Hid (parP (lnS c) = some c) := by
        show parP (lnS c) = some c
        rw [hp, hiff.1 rfl]
      clear hp hiff HQ
      go_wp2
      go_ret2
      unfold TxP
      exact ⟨s, 0, rfl, .inl ⟨rfl, HS.out, HR.out⟩, HB5.out⟩
    | false =>
      have HR : Hid (parP (lnS c) ≠ some c) := by
        show parP (lnS c) ≠ some c
        rw [hp]
        intro h
        cases hiff.2 (Option.some.inj h)
      clear hp hiff HQ
      go_wp2
      go_ret2
      unfold TxP
      exact ⟨⟨#[]⟩, 1, rfl, .inr ⟨rfl, rfl, HR.out⟩, HB5.out⟩
  · have HR : Hid (parP (lnS c) ≠ some c) := by
      show parP (lnS c) ≠ some c
      rw [hp]; simp
    clear hp hiff HQ
    go_wp2
    go_ret2
    unfold TxP
    exact ⟨⟨#[]⟩, 1, rfl, .inr ⟨rfl, rfl, HR.out⟩, HB5.out⟩

set_option maxRecDepth 100000 in
set_option maxHeartbeats 4000000 in
theorem commandTexts_any (kd pk ln nn : Int) (nm cd tx : ByteArray) (off : Bool) (w : World) (hT : Tb w) (hR : Lx.RTabs w) (hW : RW w) (hl : -9223372036854775808 ≤ ln ∧ ln ≤ 9223372036854775807) (hn : -9223372036854775808 ≤ nn ∧ nn ≤ 9223372036854775807) (hs : nm.size ≤ 1000000000 ∧ cd.size ≤ 1000000000 ∧ tx.size ≤ 1000000000) :
    Calls Tryz.prog 5 #[.agg #[.int .i64 kd, .int .i64 pk, .int .i64 ln, .string nm, .string cd, .bool off, .int .i64 nn, .string tx]] w fun e w' => e = .returned (.bool true) ∧ Below w.heap.size w w' := by
  obtain ⟨c, hc⟩ : ∃ c : Cm, c = ⟨kd, pk, ln, nm.data.toList, cd.data.toList, off, nn, tx.data.toList⟩ := ⟨_, rfl⟩
  obtain ⟨X1, hX1⟩ : ∃ X1, w.alloc (.cells #[.int .i64 kd, .int .i64 pk, .int .i64 ln, .string nm, .string cd, .bool off, .int .i64 nn, .string tx] 51) = X1 := ⟨_, rfl⟩
  have b1 : Below w.heap.size w X1 := by rw [← hX1]; exact (Below.refl _ w).alloc (Nat.le_refl _) _
  have f1 : Full X1 w.heap.size 51 [.int .i64 kd, .int .i64 pk, .int .i64 ln, .string nm, .string cd, .bool off, .int .i64 nn, .string tx] := by rw [← hX1]; exact Full.new w _ _
  obtain ⟨⟨e0, -⟩, ⟨e1, -⟩, ⟨e2, -⟩, ⟨e3, -⟩, ⟨e4, -⟩, ⟨e5, -⟩, ⟨e6, -⟩, ⟨e7, -⟩⟩ := f1.cell8
  have HF : Hid (∀ W, Below X1.heap.size X1 W → Full W w.heap.size 51 [.int .i64 kd, .int .i64 pk, .int .i64 ln, .string nm, .string cd, .bool off, .int .i64 nn, .string tx] ∧ Below w.heap.size w W ∧ Tb W ∧ Lx.RTabs W ∧ RW W) := fun W h => ⟨f1.next h, b1.trans (h.mono b1.size), hT.next (b1.trans (h.mono b1.size)), hR.next (b1.trans (h.mono b1.size)), hW.next hR.size (b1.trans (h.mono b1.size))⟩
  have HC := text_any kd pk ln nn nm cd tx off X1 (hT.next b1) hl hn hs
  have HD : Hid (∀ W, Below X1.heap.size X1 W → Calls Tryz.prog 16 #[.agg #[.int .i64 kd, .int .i64 pk, .int .i64 ln, .string nm, .string cd, .bool off, .int .i64 nn, .string tx]] W (TxP W c)) := fun W h => by
    rw [hc]
    exact rtext_any kd pk ln nn nm cd tx off W (HF.out W h).2.2.1.p10 (HF.out W h).2.2.2.1 (HF.out W h).2.2.2.2 hl hn ⟨by omega, by omega, by omega⟩
  rw [← hc] at HC
  clear hT hR hW b1 f1 hl hn hs hc
  go_enter Tryz.func5, Tryz.ntmps5
  go_wp2_with fail
  refine HC.mono ?_
  rintro e w3 ⟨s, er, rfl, hq⟩
  clear HC
  have hb3 : Below X1.heap.size X1 w3 := hq.out.2
  have HQ : Hid _ := hq.out.1
  have HC2 := HD.out w3 hb3
  obtain ⟨⟨g0, -⟩, ⟨g1, -⟩, ⟨g2, -⟩, ⟨g3, -⟩, ⟨g4, -⟩, ⟨g5, -⟩, ⟨g6, -⟩, ⟨g7, -⟩⟩ := (HF.out w3 hb3).1.cell8
  clear hq HD
  go_wp2_with fail
  refine HC2.mono ?_
  rintro e w4 ⟨t, er2, rfl, hq4⟩
  clear HC2
  have hb4 : Below X1.heap.size X1 w4 := hb3.trans (hq4.out.2.mono hb3.size)
  have HL := lives_any w4 (HF.out w4 hb4).2.2.1
  have HB4 : Hid (Below w.heap.size w w4) := (HF.out w4 hb4).2.1
  obtain ⟨rfl, rfl⟩ : s = t ∧ er2 = er := by
    rcases HQ.out with ⟨h1, h2, h3⟩ | ⟨h1, h2, h3⟩
    · rcases hq4.out.1 with ⟨g1, g2, g3⟩ | ⟨g1, g2, g3⟩
      · exact ⟨ByteArray.ext (Array.ext' (by rw [h2, g2])), by rw [h1, g1]⟩
      · exact absurd h3 g3
    · rcases hq4.out.1 with ⟨g1, g2, g3⟩ | ⟨g1, g2, g3⟩
      · exact absurd g3 h3
      · exact ⟨by rw [h2, g2], by rw [h1, g1]⟩
  clear hq4 hb3 hb4 HF HQ
  go_wp2_with (first
    | (go_at_call 12; refine HL.mono ?_; rintro e w6 ⟨rfl, hb6⟩)
    | go_in)
  go_ret
  exact ⟨rfl, HB4.out.trans (hb6.mono HB4.out.size)⟩
end Go.Proofs.YtichbejmelkjeaaGreatDoor
