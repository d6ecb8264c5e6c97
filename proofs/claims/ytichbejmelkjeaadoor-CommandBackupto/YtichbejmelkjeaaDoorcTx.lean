import Derived.Test.YtichbejmelkjeaaDoorcNq
import Derived.Test.YtichbejmelkjeaaDoorcJn
namespace Go.Proofs.YtichbejmelkjeaaDoor
open Go.RowKit

set_option maxRecDepth 100000 in
set_option maxHeartbeats 4000000 in
theorem text_any (kd pk ln nn : Int) (nm cd tx : ByteArray) (off : Bool) (w : World) (hT : Tb w) (hl : -9223372036854775808 ≤ ln ∧ ln ≤ 9223372036854775807) (hn : -9223372036854775808 ≤ nn ∧ nn ≤ 9223372036854775807) (hs : nm.size ≤ 1000000000 ∧ cd.size ≤ 1000000000 ∧ tx.size ≤ 1000000000) :
    Calls Tryd.prog 7 #[.agg #[.int .i64 kd, .int .i64 pk, .int .i64 ln, .string nm, .string cd, .bool off, .int .i64 nn, .string tx]] w (TxP w ⟨kd, pk, ln, nm.data.toList, cd.data.toList, off, nn, tx.data.toList⟩) := by
  obtain ⟨c, hc⟩ : ∃ c : Cm, c = ⟨kd, pk, ln, nm.data.toList, cd.data.toList, off, nn, tx.data.toList⟩ := ⟨_, rfl⟩
  obtain ⟨X1, hX1⟩ : ∃ X1, w.alloc (.cells #[.int .i64 kd, .int .i64 pk, .int .i64 ln, .string nm, .string cd, .bool off, .int .i64 nn, .string tx] 39) = X1 := ⟨_, rfl⟩
  have b1 : Below w.heap.size w X1 := by rw [← hX1]; exact (Below.refl _ w).alloc (Nat.le_refl _) _
  have f1 : Full X1 w.heap.size 39 [.int .i64 kd, .int .i64 pk, .int .i64 ln, .string nm, .string cd, .bool off, .int .i64 nn, .string tx] := by rw [← hX1]; exact Full.new w _ _
  obtain ⟨⟨e0, -⟩, ⟨e1, -⟩, ⟨e2, -⟩, ⟨e3, -⟩, ⟨e4, -⟩, ⟨e5, -⟩, ⟨e6, -⟩, ⟨e7, -⟩⟩ := f1.cell8
  have HF : Hid (∀ W, Below X1.heap.size X1 W → Full W w.heap.size 39 [.int .i64 kd, .int .i64 pk, .int .i64 ln, .string nm, .string cd, .bool off, .int .i64 nn, .string tx] ∧ Below w.heap.size w W ∧ Tb W) := fun W h => ⟨f1.next h, b1.trans (h.mono b1.size), hT.next (b1.trans (h.mono b1.size))⟩
  have HC := written_any kd pk ln nn nm cd tx off X1 (hT.next b1) hl hn
  have hlen : (lnS c).length ≤ 2 * 1000000000 + 100 := by
    have z1 := Lib.size_eq nm; have z2 := Lib.size_eq cd; have z3 := Lib.size_eq tx
    refine wrS_len c 1000000000 ?_ ?_ ?_ ?_ ?_ <;> rw [hc]
    · show nm.data.toList.length ≤ _; omega
    · show cd.data.toList.length ≤ _; omega
    · show tx.data.toList.length ≤ _; omega
    · exact hl
    · exact hn
  rw [← hc] at HC ⊢
  have HCc : Hid (c = ⟨kd, pk, ln, nm.data.toList, cd.data.toList, off, nn, tx.data.toList⟩) := hc
  clear hT b1 f1 hl hn hs hc
  go_enter Tryd.func7, Tryd.ntmps7
  go_wp2_with fail
  refine HC.mono ?_
  rintro e w2 ⟨q, cap, rfl, hq⟩
  clear HC
  have HJ := join_any (wrS c) w2 q cap hq.out.1 (wrS_few c) (Nat.le_trans hlen (by decide))
  have hb2 : Below X1.heap.size X1 w2 := hq.out.2
  clear hq
  obtain ⟨nw, hnw⟩ : ∃ nw, (wrS c).length = nw := ⟨_, rfl⟩
  rw [hnw] at HJ ⊢
  clear hnw
  go_wp2_with fail
  refine HJ.mono ?_
  rintro e w3 ⟨s, rfl, hsl0, hb3⟩
  have hsl : s.data.toList = lnS c := hsl0
  clear hsl0
  clear HJ
  have hb13 : Below X1.heap.size X1 w3 := hb2.trans (hb3.mono hb2.size)
  have HP := parse_any s w3 (HF.out w3 hb13).2.2
  rw [hsl] at HP
  have hssz : s.size ≤ 2 * 1000000000 + 100 := by rw [Lib.size_eq, hsl]; exact hlen
  have HS : Hid (s.data.toList = lnS c) := hsl
  clear hsl hlen hb2 hb3
  go_wp2_with fail
  refine HP.mono ?_
  rintro e w4 ⟨k, a1, a2, a3, a4, a6, a7, er, rfl, hq4⟩
  clear HP
  have hb14 : Below X1.heap.size X1 w4 := hb13.trans (hq4.out.2.mono hb13.size)
  obtain ⟨W5, hW5⟩ : ∃ W5, w4.alloc (.cells #[.int .i64 k, .int .i64 a1, .int .i64 a2, .string a3, .string a4, .bool false, .int .i64 a6, .string a7] 39) = W5 := ⟨_, rfl⟩
  have n5 : Below X1.heap.size X1 W5 := by rw [← hW5]; exact hb14.alloc hb14.size _
  have f5 : Full W5 w4.heap.size 39 [.int .i64 k, .int .i64 a1, .int .i64 a2, .string a3, .string a4, .bool false, .int .i64 a6, .string a7] := by rw [← hW5]; exact Full.new w4 _ _
  obtain ⟨⟨r0, -⟩, ⟨r1, -⟩, ⟨r2, -⟩, ⟨r3, -⟩, ⟨r4, -⟩, ⟨r5, -⟩, ⟨r6, -⟩, ⟨r7, -⟩⟩ := f5.cell8
  obtain ⟨gF, h5b, -⟩ := HF.out W5 n5
  obtain ⟨⟨g0, -⟩, ⟨g1, -⟩, ⟨g2, -⟩, ⟨g3, -⟩, ⟨g4, -⟩, ⟨g5, -⟩, ⟨g6, -⟩, ⟨g7, -⟩⟩ := gF.cell8
  have HB5 : Hid (Below w.heap.size w W5) := h5b
  have HCl : Hid (Calls Tryd.prog 15 #[.string s] W5 fun e w' => e = .returned (.string s) ∧ Below W5.heap.size W5 w') := Lx.clone_any s W5 (by omega)
  have hne := neq8 k a1 a2 a3 a4 false a6 a7 kd pk ln nm cd off nn tx
  have hiff := eq8_iff k a1 a2 a3 a4 false a6 a7 kd pk ln nm cd off nn tx
  rw [← HCc.out] at hiff
  have HQ : Hid _ := hq4.out.1
  clear hq4 hb13 hb14 n5 f5 gF h5b HF HCc
  generalize eq8 k a1 a2 a3 a4 false a6 a7 kd pk ln nm cd off nn tx = bq at hne hiff
  subst hW5
  rcases HQ.out with ⟨rfl, hp⟩ | ⟨rfl, hp, -, -, -, -, -, -, -⟩
  · cases bq with
    | true =>
      have HR : Hid (parP (lnS c) = some c) := by
        show parP (lnS c) = some c
        rw [hp, hiff.1 rfl]
      clear hp hiff HQ
      go_wp2_with fail
      refine HCl.out.mono ?_
      rintro e w6 ⟨rfl, hb6⟩
      clear HCl
      go_wp2
      go_ret2
      unfold TxP
      exact ⟨s, 0, rfl, .inl ⟨rfl, HS.out, HR.out⟩, HB5.out.trans (hb6.mono HB5.out.size)⟩
    | false =>
      have HR : Hid (parP (lnS c) ≠ some c) := by
        show parP (lnS c) ≠ some c
        rw [hp]
        intro h
        cases hiff.2 (Option.some.inj h)
      clear hp hiff HQ HCl
      go_wp2
      go_ret2
      unfold TxP
      exact ⟨⟨#[]⟩, 1, rfl, .inr ⟨rfl, rfl, HR.out⟩, HB5.out⟩
  · have HR : Hid (parP (lnS c) ≠ some c) := by
      show parP (lnS c) ≠ some c
      rw [hp]; simp
    clear hp hiff HQ HCl
    go_wp2
    go_ret2
    unfold TxP
    exact ⟨⟨#[]⟩, 1, rfl, .inr ⟨rfl, rfl, HR.out⟩, HB5.out⟩
end Go.Proofs.YtichbejmelkjeaaDoor
