import Derived.Test.YtichbejmelkjeaaGreatDoorP22
import Derived.Test.YtichbejmelkjeaaGreatDoorP25
namespace Go.Proofs.YtichbejmelkjeaaGreatDoor
open Go.RowKit

theorem cat_ex (a b : ByteArray) (h : a.size + b.size ≤ 9223372036854775807) : ∃ y : ByteArray, Op.stringOp .add a b = pure (.string y) ∧ y.data.toList = a.data.toList ++ b.data.toList ∧ y.size = a.size + b.size := by
  refine ⟨a ++ b, ?_, by rw [ByteArray.data_append]; simp, ByteArray.size_append⟩
  unfold Op.stringOp
  simp only
  have e : IntKind.i64.max = 9223372036854775807 := by decide
  rw [e, if_neg (by omega)]
/-- What said tells. -/
def SdP (w : World) (c : Cm) (e : Ending) (w' : World) : Prop := ∃ y : ByteArray, e = .returned (.string y) ∧ Hid (y.data.toList = lnS c ∧ Below w.heap.size w w')
theorem ln_two (a b : List UInt8) : Lib.join [a, b] [32] = a ++ [32] ++ b := by
  rw [Lib.join_cons]; simp [Lib.joinTail]
theorem ln_four (a b c d : List UInt8) : Lib.join [a, b, c, d] [32] = a ++ [32] ++ b ++ [32] ++ c ++ [32] ++ d := by
  rw [Lib.join_cons]; simp [Lib.joinTail]
theorem wd_small (k : Nat) : (rws.getD k ([], 0)).1.length ≤ 20 := by
  rw [List.getD_eq_getElem?_getD]
  by_cases hk : k < rws.length
  · have hall : ∀ r ∈ rws, r.1.length ≤ 20 := by decide
    rw [List.getElem?_eq_getElem hk]
    exact hall _ (List.getElem_mem _)
  · rw [List.getElem?_eq_none (by omega)]; simp

set_option maxRecDepth 100000 in
set_option maxHeartbeats 4000000 in
theorem rsaid_any (kd pk ln nn : Int) (nm cd tx : ByteArray) (off : Bool) (w : World) (hT : Tab10 w) (hW : RW w) (hsz : 15 < w.heap.size) (hl : -9223372036854775808 ≤ ln ∧ ln ≤ 9223372036854775807) (hn : -9223372036854775808 ≤ nn ∧ nn ≤ 9223372036854775807) (hs : nm.size ≤ 140737488355328 ∧ cd.size ≤ 140737488355328 ∧ tx.size ≤ 140737488355328) :
    Calls Tryz.prog 32 #[.agg #[.int .i64 kd, .int .i64 pk, .int .i64 ln, .string nm, .string cd, .bool off, .int .i64 nn, .string tx]] w (SdP w ⟨kd, pk, ln, nm.data.toList, cd.data.toList, off, nn, tx.data.toList⟩) := by
  obtain ⟨c, hc⟩ : ∃ c : Cm, c = ⟨kd, pk, ln, nm.data.toList, cd.data.toList, off, nn, tx.data.toList⟩ := ⟨_, rfl⟩
  rw [← hc]
  obtain ⟨X1, hX1⟩ : ∃ X1, w.alloc (.cells #[.int .i64 kd, .int .i64 pk, .int .i64 ln, .string nm, .string cd, .bool off, .int .i64 nn, .string tx] 51) = X1 := ⟨_, rfl⟩
  have b1 : Below w.heap.size w X1 := by rw [← hX1]; exact (Below.refl _ w).alloc (Nat.le_refl _) _
  have f1 : Full X1 w.heap.size 51 [.int .i64 kd, .int .i64 pk, .int .i64 ln, .string nm, .string cd, .bool off, .int .i64 nn, .string tx] := by rw [← hX1]; exact Full.new w _ _
  obtain ⟨⟨e0, -⟩, ⟨e1, -⟩, ⟨e2, -⟩, ⟨e3, -⟩, ⟨e4, -⟩, ⟨e5, -⟩, ⟨e6, -⟩, ⟨e7, -⟩⟩ := f1.cell8
  have HB : Hid (Below w.heap.size w X1) := b1
  by_cases hbad : kd < 1 ∨ 22 < kd
  · have HL : Hid ((⟨#[]⟩ : ByteArray).data.toList = lnS c) := by
      show (⟨#[]⟩ : ByteArray).data.toList = lnS c
      unfold lnS wrS
      have e : c.kind = kd := by rw [hc]
      rw [e]
      by_cases h0 : kd < 0 ∨ 23 ≤ kd
      · rw [if_pos h0]; rfl
      · have h1 : kd = 0 := by omega
        rw [if_neg h0, h1]; rfl
    have hor : kd < 1 ∨ (¬ kd < 1 ∧ 22 < kd) := by omega
    clear hT hW hsz hl hn hs hc b1 f1 hbad
    rcases hor with q1 | ⟨q1, q2⟩
    all_goals
      go_enter Tryz.func32, Tryz.ntmps32
      go_wp2
      go_ret
      unfold SdP
      exact ⟨⟨#[]⟩, rfl, HL.out, HB.out⟩
  obtain ⟨kn, rfl⟩ : ∃ kn : Nat, kd = (kn : Int) := ⟨kd.toNat, by omega⟩
  have hkl : kn < 23 := by omega
  have q1 : ¬ (kn : Int) < 1 := by omega
  have q2 : ¬ (22 : Int) < (kn : Int) := by omega
  have q3 : (0 : Int) ≤ (kn : Int) := by omega
  have q4 : (kn : Int) < 23 := by omega
  obtain ⟨wd, hwd⟩ : ∃ wd : ByteArray, wd.data.toList = (rws.getD kn ([], 0)).1 := ⟨⟨(rws.getD kn ([], 0)).1.toArray⟩, rfl⟩
  have hwdA : (⟨(rws.getD kn ([], 0)).1.toArray⟩ : ByteArray) = wd := by rw [← hwd]
  have hwds : wd.size ≤ 20 := by rw [Lib.size_eq, hwd]; exact wd_small kn
  have cw : X1.cell? ⟨4, kn, none⟩ = some (.string wd) := by rw [← hwdA]; exact (hW.next hsz b1) kn hkl
  have hWr : wrS c = wd.data.toList :: (if tks kn = 2 ∨ tks kn = 3 then pwS c else if tks kn = 4 ∨ tks kn = 5 then [Lib.itoa nn] else if tks kn = 6 then [tx.data.toList] else []) := by
    unfold wrS
    have i1 : c.kind = (kn : Int) := by rw [hc]
    have i2 : c.n = nn := by rw [hc]
    have i3 : c.text = tx.data.toList := by rw [hc]
    rw [i1, i2, i3, if_neg (by omega), Int.toNat_natCast, ← hwd]
  have HE : Hid (∀ i : Nat, (kn = i → ((kn : Int) == (i : Int)) = true) ∧ (kn ≠ i → ((kn : Int) == (i : Int)) = false)) := fun i => ⟨fun h => by rw [h]; exact beq_self_eq_true _, fun h => by rw [beq_eq_false_iff_ne]; omega⟩
  obtain ⟨y1, j1, l1, z1⟩ := cat_ex wd ⟨#[32]⟩ (by show wd.size + 1 ≤ _; omega)
  have z1' : y1.size = wd.size + 1 := z1
  have HI1 : Hid (Calls Tryz.prog 17 #[.int .i64 ln] X1 fun e w' => ∃ s : ByteArray, e = .returned (.string s) ∧ s.data.toList = Lib.itoa ln ∧ Below X1.heap.size X1 w') := itoa_any ln X1 hl (hT.next b1)
  have HI2 : Hid (Calls Tryz.prog 17 #[.int .i64 nn] X1 fun e w' => ∃ s : ByteArray, e = .returned (.string s) ∧ s.data.toList = Lib.itoa nn ∧ Below X1.heap.size X1 w') := itoa_any nn X1 hn (hT.next b1)
  have hil := Lib.itoa_length_le ln hl.1 hl.2
  have hin := Lib.itoa_length_le nn hn.1 hn.2
  have HF : Hid (∀ W, Below X1.heap.size X1 W → Full W w.heap.size 51 [.int .i64 (kn : Int), .int .i64 pk, .int .i64 ln, .string nm, .string cd, .bool off, .int .i64 nn, .string tx] ∧ Below w.heap.size w W) := fun W h => ⟨f1.next h, b1.trans (h.mono b1.size)⟩
  have HLn : Hid (lnS c = Lib.join (wrS c) [32]) := rfl
  by_cases hp : kn = 1 ∨ kn = 2
  · have ht : tks kn = 2 ∨ tks kn = 3 := by rcases hp with h | h <;> rw [h] <;> first | exact .inl rfl | exact .inr rfl
    rw [if_pos ht] at hWr
    have hpc : pwS c = (if pk = 1 then Lib.itoa ln else nm.data.toList) :: (if cd.data.toList = [] then [] else [ifw, cd.data.toList]) := by rw [hc]; rfl
    have HW2 : Hid (lnS c = Lib.join (wd.data.toList :: (if pk = 1 then Lib.itoa ln else nm.data.toList) :: (if cd.data.toList = [] then [] else [ifw, cd.data.toList])) [32]) := by
      show lnS c = _
      rw [HLn.out, hWr, hpc]
    have hor : ((kn : Int) == 1) = true ∨ (((kn : Int) == 1) = false ∧ ((kn : Int) == 2) = true) := by
      rcases hp with h | h
      · exact .inl ((HE.out 1).1 h)
      · exact .inr ⟨(HE.out 1).2 (by omega), (HE.out 2).1 h⟩
    have HL1 : Hid (y1.data.toList = wd.data.toList ++ [32] ∧ y1.size ≤ 30) := ⟨l1, by omega⟩
    clear hW hsz hl hn hc b1 f1 hbad hWr hpc hp ht HE l1 z1 z1' hin HI2 hT HLn hwd hwdA
    by_cases hpk : pk = 1
    · have pk1 : (pk == 1) = true := by rw [hpk]; rfl
      by_cases hcd : cd.data.toList = []
      · have c0 : (cd.toList == []) = true := by rw [Lx.toL, hcd]; rfl
        have HW3 : Hid (lnS c = wd.data.toList ++ [32] ++ Lib.itoa ln) := by
          show lnS c = _
          rw [HW2.out, if_pos hpk, if_pos hcd, ln_two]
        clear HW2 hcd hpk
        rcases hor with d1 | ⟨d1, d2⟩
        all_goals
          go_enter Tryz.func32, Tryz.ntmps32
          go_wp2_with fail
          refine HI1.out.mono ?_
          rintro e w2 ⟨s, rfl, hsl, hb2⟩
          have hss : s.size ≤ 30 := by rw [Lib.size_eq, hsl]; omega
          obtain ⟨y2, j2, l2, -⟩ := cat_ex y1 s (by have := HL1.out.2; omega)
          have HY : Hid (y2.data.toList = lnS c) := by show _ = _; rw [l2, HL1.out.1, hsl, HW3.out]
          have HB2 : Hid _ := (HF.out w2 hb2).2
          obtain ⟨⟨e0, -⟩, ⟨e1, -⟩, ⟨e2, -⟩, ⟨e3, -⟩, ⟨e4, -⟩, ⟨e5, -⟩, ⟨e6, -⟩, ⟨e7, -⟩⟩ := (HF.out w2 hb2).1.cell8
          clear l2 hsl hb2
          go_wp2
          go_ret
          unfold SdP
          exact ⟨y2, rfl, HY.out, HB2.out⟩
      · have c0 : (cd.toList == []) = false := by rw [Lx.toL, beq_eq_false_iff_ne]; exact hcd
        have HW3 : Hid (lnS c = wd.data.toList ++ [32] ++ Lib.itoa ln ++ [32, 105, 102, 32] ++ cd.data.toList) := by
          show lnS c = _
          rw [HW2.out, if_pos hpk, if_neg hcd, ln_four]; simp [ifw]
        clear HW2 hcd hpk
        rcases hor with d1 | ⟨d1, d2⟩
        all_goals
          go_enter Tryz.func32, Tryz.ntmps32
          go_wp2_with fail
          refine HI1.out.mono ?_
          rintro e w2 ⟨s, rfl, hsl, hb2⟩
          have hss : s.size ≤ 30 := by rw [Lib.size_eq, hsl]; omega
          obtain ⟨y2, j2, l2, z2⟩ := cat_ex y1 s (by have := HL1.out.2; omega)
          obtain ⟨y3, j3, l3, z3⟩ := cat_ex y2 ⟨#[32, 105, 102, 32]⟩ (by have := HL1.out.2; show y2.size + 4 ≤ _; omega)
          have z3' : y3.size = y2.size + 4 := z3
          obtain ⟨y4, j4, l4, -⟩ := cat_ex y3 cd (by have := HL1.out.2; omega)
          have HY : Hid (y4.data.toList = lnS c) := by show _ = _; rw [l4, l3, l2, HL1.out.1, hsl, HW3.out]
          have HB2 : Hid _ := (HF.out w2 hb2).2
          obtain ⟨⟨e0, -⟩, ⟨e1, -⟩, ⟨e2, -⟩, ⟨e3, -⟩, ⟨e4, -⟩, ⟨e5, -⟩, ⟨e6, -⟩, ⟨e7, -⟩⟩ := (HF.out w2 hb2).1.cell8
          clear l2 l3 l4 z2 z3 z3' hsl hb2
          go_wp2
          go_ret
          unfold SdP
          exact ⟨y4, rfl, HY.out, HB2.out⟩
    · have pk1 : (pk == 1) = false := by rw [beq_eq_false_iff_ne]; exact hpk
      obtain ⟨y2, j2, l2, z2⟩ := cat_ex y1 nm (by have := HL1.out.2; omega)
      by_cases hcd : cd.data.toList = []
      · have c0 : (cd.toList == []) = true := by rw [Lx.toL, hcd]; rfl
        have HY : Hid (y2.data.toList = lnS c) := by
          show y2.data.toList = lnS c
          rw [HW2.out, if_neg hpk, if_pos hcd, ln_two, l2, HL1.out.1]
        clear HW2 hcd hpk l2 z2
        rcases hor with d1 | ⟨d1, d2⟩
        all_goals
          go_enter Tryz.func32, Tryz.ntmps32
          go_wp2
          go_ret
          unfold SdP
          exact ⟨y2, rfl, HY.out, HB.out⟩
      · have c0 : (cd.toList == []) = false := by rw [Lx.toL, beq_eq_false_iff_ne]; exact hcd
        obtain ⟨y3, j3, l3, z3⟩ := cat_ex y2 ⟨#[32, 105, 102, 32]⟩ (by have := HL1.out.2; show y2.size + 4 ≤ _; omega)
        have z3' : y3.size = y2.size + 4 := z3
        obtain ⟨y4, j4, l4, -⟩ := cat_ex y3 cd (by have := HL1.out.2; omega)
        have HY : Hid (y4.data.toList = lnS c) := by
          show y4.data.toList = lnS c
          rw [HW2.out, if_neg hpk, if_neg hcd, ln_four, l4, l3, l2, HL1.out.1]; simp [ifw]
        clear HW2 hcd hpk l2 l3 l4 z2 z3 z3'
        rcases hor with d1 | ⟨d1, d2⟩
        all_goals
          go_enter Tryz.func32, Tryz.ntmps32
          go_wp2
          go_ret
          unfold SdP
          exact ⟨y4, rfl, HY.out, HB.out⟩
  have d1 := (HE.out 1).2 (by omega)
  have d2 := (HE.out 2).2 (by omega)
  by_cases hnk : kn = 3 ∨ kn = 4 ∨ kn = 5 ∨ kn = 15
  · have ht : tks kn = 4 ∨ tks kn = 5 := by rcases hnk with h | h | h | h <;> rw [h] <;> first | exact .inl rfl | exact .inr rfl
    rw [if_neg (by omega), if_pos ht] at hWr
    have HW3 : Hid (lnS c = wd.data.toList ++ [32] ++ Lib.itoa nn) := by
      show lnS c = _
      rw [HLn.out, hWr, ln_two]
    have hor : ((kn : Int) == 3) = true ∨ (((kn : Int) == 3) = false ∧ ((kn : Int) == 4) = true) ∨ (((kn : Int) == 3) = false ∧ ((kn : Int) == 4) = false ∧ ((kn : Int) == 5) = true) ∨ (((kn : Int) == 3) = false ∧ ((kn : Int) == 4) = false ∧ ((kn : Int) == 5) = false ∧ ((kn : Int) == 15) = true) := by
      rcases hnk with h | h | h | h
      · exact .inl ((HE.out 3).1 h)
      · exact .inr (.inl ⟨(HE.out 3).2 (by omega), (HE.out 4).1 h⟩)
      · exact .inr (.inr (.inl ⟨(HE.out 3).2 (by omega), (HE.out 4).2 (by omega), (HE.out 5).1 h⟩))
      · exact .inr (.inr (.inr ⟨(HE.out 3).2 (by omega), (HE.out 4).2 (by omega), (HE.out 5).2 (by omega), (HE.out 15).1 h⟩))
    have HL1 : Hid (y1.data.toList = wd.data.toList ++ [32] ∧ y1.size ≤ 30) := ⟨l1, by omega⟩
    clear hW hsz hl hn hc b1 f1 hbad hWr hnk ht HE l1 z1 z1' hil HI1 hT HLn hwd hwdA hp
    rcases hor with d3 | ⟨d3, d4⟩ | ⟨d3, d4, d5⟩ | ⟨d3, d4, d5, d15⟩
    all_goals
      go_enter Tryz.func32, Tryz.ntmps32
      go_wp2_with fail
      refine HI2.out.mono ?_
      rintro e w2 ⟨s, rfl, hsl, hb2⟩
      have hss : s.size ≤ 30 := by rw [Lib.size_eq, hsl]; omega
      obtain ⟨y2, j2, l2, -⟩ := cat_ex y1 s (by have := HL1.out.2; omega)
      have HY : Hid (y2.data.toList = lnS c) := by show _ = _; rw [l2, HL1.out.1, hsl, HW3.out]
      have HB2 : Hid _ := (HF.out w2 hb2).2
      clear l2 hsl hb2
      go_wp2
      go_ret
      unfold SdP
      exact ⟨y2, rfl, HY.out, HB2.out⟩
  have d3 := (HE.out 3).2 (by omega)
  have d4 := (HE.out 4).2 (by omega)
  have d5 := (HE.out 5).2 (by omega)
  have d15 := (HE.out 15).2 (by omega)
  by_cases h16 : kn = 16
  · have ht : tks kn = 6 := by rw [h16]; rfl
    rw [if_neg (by omega), if_neg (by omega), if_pos ht] at hWr
    obtain ⟨y2, j2, l2, -⟩ := cat_ex y1 tx (by omega)
    have HY : Hid (y2.data.toList = lnS c) := by
      show y2.data.toList = lnS c
      rw [HLn.out, hWr, ln_two, l2, l1]
    have d16 := (HE.out 16).1 h16
    clear hW hsz hl hn hc b1 f1 hbad hWr hnk ht HE l1 l2 z1 z1' hil hin HI1 HI2 hT HLn hwd hwdA hp h16 HF hs
    go_enter Tryz.func32, Tryz.ntmps32
    go_wp2
    go_ret
    unfold SdP
    exact ⟨y2, rfl, HY.out, HB.out⟩
  · have ht : tks kn = 1 := tks_one kn hkl (by omega) (by omega) (by omega) (by omega) (by omega) (by omega) (by omega) h16
    rw [if_neg (by omega), if_neg (by omega), if_neg (by omega)] at hWr
    have HY : Hid (wd.data.toList = lnS c) := by
      show wd.data.toList = lnS c
      rw [HLn.out, hWr, Lib.join_one]
    have d16 := (HE.out 16).2 h16
    clear hW hsz hl hn hc b1 f1 hbad hWr hnk ht HE l1 z1 z1' hil hin HI1 HI2 hT HLn hwd hwdA hp h16 HF hs j1
    go_enter Tryz.func32, Tryz.ntmps32
    go_wp2
    go_ret
    unfold SdP
    exact ⟨wd, rfl, HY.out, HB.out⟩
end Go.Proofs.YtichbejmelkjeaaGreatDoor
