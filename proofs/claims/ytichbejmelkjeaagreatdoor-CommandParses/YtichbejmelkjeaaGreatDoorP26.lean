import Derived.Test.YtichbejmelkjeaaGreatDoorP22
import Derived.Test.YtichbejmelkjeaaGreatDoorP25
namespace Go.Proofs.YtichbejmelkjeaaGreatDoor
open Go.RowKit

set_option maxRecDepth 100000 in
theorem eqSame (k0 p0 l0 : Int) (n0 d0 : ByteArray) (m0 : Int) (t0 : ByteArray) : ∀ w : World,
    (binOp BinOp.eql 51 (.agg #[.int .i64 k0, .int .i64 p0, .int .i64 l0, .string n0, .string d0, .bool false, .int .i64 m0, .string t0]) (.agg #[.int .i64 k0, .int .i64 p0, .int .i64 l0, .string n0, .string d0, .bool false, .int .i64 m0, .string t0])).run Tryz.prog w = .ok (.bool true) w := fun w => by simp [go_sem]
theorem ba_eq {a b : ByteArray} (h : a.data.toList = b.data.toList) : a = b := ByteArray.ext (Array.ext' h)
set_option maxRecDepth 100000 in
set_option maxHeartbeats 4000000 in
theorem commandParses_any (s : ByteArray) (w : World) (hT : Tb w) (hR : Lx.RTabs w) (hW : RW w) : Calls Tryz.prog 4 #[.string s] w fun e w' => e = .returned (.bool true) ∧ Below w.heap.size w w' := by
  have HP := parse_any s w hT
  have HN : Hid (∀ W, Below w.heap.size w W → Tb W ∧ Lx.RTabs W ∧ RW W) := fun W h => ⟨hT.next h, hR.next h, hW.next hR.size h⟩
  clear hT hR hW
  go_enter Tryz.func4, Tryz.ntmps4
  go_wp2_with fail
  refine HP.mono ?_
  rintro e w2 ⟨k, a1, a2, a3, a4, a6, a7, er, rfl, hq⟩
  clear HP
  obtain ⟨hq1, hb2⟩ := hq.out
  obtain ⟨W3, hW3⟩ : ∃ W3, w2.alloc (.cells #[.int .i64 k, .int .i64 a1, .int .i64 a2, .string a3, .string a4, .bool false, .int .i64 a6, .string a7] 51) = W3 := ⟨_, rfl⟩
  have f3 : Full W3 w2.heap.size 51 [.int .i64 k, .int .i64 a1, .int .i64 a2, .string a3, .string a4, .bool false, .int .i64 a6, .string a7] := by rw [← hW3]; exact Full.new w2 _ _
  have b3 : Below w.heap.size w W3 := by rw [← hW3]; exact hb2.alloc hb2.size _
  have HP2 := rparse_any s W3 (HN.out W3 b3).2.1 (HN.out W3 b3).2.2
  have HF3 : Hid (Full W3 w2.heap.size 51 [.int .i64 k, .int .i64 a1, .int .i64 a2, .string a3, .string a4, .bool false, .int .i64 a6, .string a7]) := f3
  have HB3 : Hid (Below w.heap.size w W3) := b3
  have HQ1 : Hid _ := hq1
  clear f3 b3 hb2 hq1 hq
  subst hW3
  go_wp2_with fail
  refine HP2.mono ?_
  rintro e w4 ⟨k', b1, b2, b3, b4, b6, b7, er', rfl, hq⟩
  clear HP2
  obtain ⟨hq2, hb4⟩ := hq.out
  obtain ⟨rfl, rfl, rfl, rfl, rfl, rfl, rfl, rfl⟩ : k' = k ∧ b1 = a1 ∧ b2 = a2 ∧ b3 = a3 ∧ b4 = a4 ∧ b6 = a6 ∧ b7 = a7 ∧ er' = er := by
    rcases HQ1.out with ⟨h1, h2⟩ | ⟨h1, h2, h3, h4, h5, h6, h7, h8, h9⟩
    · rcases hq2 with ⟨g1, g2⟩ | ⟨g1, g2, -⟩
      · rw [h2] at g2
        have h := Option.some.inj g2
        simp only [Cm.mk.injEq] at h
        obtain ⟨e1, e2, e3, e4, e5, -, e6, e7⟩ := h
        exact ⟨e1.symm, e2.symm, e3.symm, ba_eq e4.symm, ba_eq e5.symm, e6.symm, ba_eq e7.symm, by rw [g1, h1]⟩
      · rw [h2] at g2; cases g2
    · rcases hq2 with ⟨g1, g2⟩ | ⟨g1, g2, g3, g4, g5, g6, g7, g8, g9⟩
      · rw [h2] at g2; cases g2
      · exact ⟨by rw [g3, h3], by rw [g4, h4], by rw [g5, h5], by rw [g6, h6], by rw [g7, h7], by rw [g8, h8], by rw [g9, h9], by rw [g1, h1]⟩
  obtain ⟨W5, hW5⟩ : ∃ W5, w4.alloc (.cells #[.int .i64 k', .int .i64 b1, .int .i64 b2, .string b3, .string b4, .bool false, .int .i64 b6, .string b7] 51) = W5 := ⟨_, rfl⟩
  have f5 : Full W5 w4.heap.size 51 [.int .i64 k', .int .i64 b1, .int .i64 b2, .string b3, .string b4, .bool false, .int .i64 b6, .string b7] := by rw [← hW5]; exact Full.new w4 _ _
  have n5 : Below w4.heap.size w4 W5 := by rw [← hW5]; exact (Below.refl _ w4).alloc (Nat.le_refl _) _
  have HF5 := (Full.next HF3.out hb4)
  have HF6 := Full.next HF5 n5
  have b5 : Below w.heap.size w W5 := HB3.out.trans ((hb4.trans (n5.mono hb4.size)).mono HB3.out.size)
  have HL := lives_any W5 (HN.out W5 b5).1
  have HB5 : Hid (Below w.heap.size w W5) := b5
  have he := eqSame k' b1 b2 b3 b4 b6 b7
  obtain ⟨⟨g0, -⟩, ⟨g1, -⟩, ⟨g2, -⟩, ⟨g3, -⟩, ⟨g4, -⟩, ⟨g5, -⟩, ⟨g6, -⟩, ⟨g7, -⟩⟩ := Full.cell8 HF6
  obtain ⟨⟨r0, -⟩, ⟨r1, -⟩, ⟨r2, -⟩, ⟨r3, -⟩, ⟨r4, -⟩, ⟨r5, -⟩, ⟨r6, -⟩, ⟨r7, -⟩⟩ := f5.cell8
  clear HF3 HF5 HF6 f5 n5 b5 hb4 HB3 HQ1 hq hq2 HN
  generalize w2.heap.size = B2 at *
  subst hW5
  go_wp2_with (first
    | (go_at_call 12; refine HL.mono ?_; rintro e w6 ⟨rfl, hb6⟩)
    | go_in)
  go_ret
  exact ⟨rfl, HB5.out.trans (hb6.mono HB5.out.size)⟩
end Go.Proofs.YtichbejmelkjeaaGreatDoor
