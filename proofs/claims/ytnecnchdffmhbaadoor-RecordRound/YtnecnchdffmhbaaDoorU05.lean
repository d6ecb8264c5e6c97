import Derived.Test.YtnecnchdffmhbaaDoorU03
import Derived.Test.YtnecnchdffmhbaaDoorO21
namespace Go.Proofs.YtnecnchdffmhbaaDoor
open Go.RowKit

set_option maxRecDepth 100000 in
set_option maxHeartbeats 4000000 in
theorem round_any (W : World) (ph tr : Int) (out : ByteArray) (inp : Int) (q : Option Addr) (cap : Nat) (L : List Ev) (hT : SumT W) (hI : RcIn W q cap L) (hm : L.length ≤ 2199023255488) (ho : out.size ≤ 140737488355328) :
    Calls Tryd.prog 6 #[.agg (recC ph tr out inp q L.length cap)] W fun e w' => e = .returned (.bool true) ∧ Below W.heap.size W w' := by
  obtain ⟨X1, hX1⟩ : ∃ X, W.alloc (.cells (recC ph tr out inp q L.length cap) 28) = X := ⟨_, rfl⟩
  obtain ⟨A, hA⟩ : ∃ A, W.heap.size = A := ⟨_, rfl⟩
  have b1 : Below W.heap.size W X1 := by rw [← hX1]; exact (Below.refl _ W).alloc (Nat.le_refl _) _
  have f1 : Full X1 A 28 [.int .i64 ph, .int .i64 tr, .string out, .int .i64 inp, .slice q L.length cap] := by rw [← hX1, ← hA]; exact Full.new W _ _
  have R1 : Row X1 X1.heap.size q L.length (L.flatMap ec) := (hI.row.below b1 (Nat.le_refl _)).up b1.size
  obtain ⟨rc, hrc⟩ : ∃ rc : Rc, (⟨ph, tr, out.data.toList, inp, L⟩ : Rc) = rc := ⟨_, rfl⟩
  have HTw := twin_any X1 ph tr out inp q cap L R1 hm
  obtain ⟨n, hln⟩ : ∃ n, L.length = n := ⟨_, rfl⟩
  have HI : Hid ((∀ e ∈ L, EvSz e) ∧ (∀ e ∈ L, -9223372036854775808 ≤ e.vn ∧ e.vn ≤ 9223372036854775807) ∧ n ≤ cap ∧ L.length = n ∧ n ≤ 2199023255488 ∧ out.size ≤ 140737488355328) := ⟨hI.sz, hI.vn, hln ▸ hI.cap, hln, hln ▸ hm, ho⟩
  have HRc : Hid ((⟨ph, tr, out.data.toList, inp, L⟩ : Rc) = rc) := hrc
  have HT : Hid (SumT W) := hT
  have HA : Hid (W.heap.size = A) := hA
  rw [hln] at hX1 f1 HTw R1 ⊢
  unfold recC at hX1 HTw ⊢
  have H1 : Hid (Below W.heap.size W X1 ∧ Full X1 A 28 [.int .i64 ph, .int .i64 tr, .string out, .int .i64 inp, .slice q n cap] ∧ Row X1 X1.heap.size q n (L.flatMap ec)) := ⟨b1, f1, R1⟩
  obtain ⟨⟨⟨r0, -⟩, ⟨r1, -⟩, r2, -⟩, ⟨r3, -⟩, r4, -⟩ := f1.five2
  clear b1 f1 R1 hI hm ho hln hrc hT
  go_enter Tryd.func6, Tryd.ntmps6
  go_wp2_with fail
  refine HTw.mono ?_
  rintro e w2 ⟨G, rfl, hq2⟩
  obtain ⟨rest, fG⟩ := hq2.out.2.1
  have b2 : Below X1.heap.size X1 w2 := hq2.out.2.2
  have rowG : Row w2 w2.heap.size (some ⟨G, 0, none⟩) L.length (L.flatMap ec) := fun _ => ⟨G, 0, rfl, fG.lt, fG.range⟩
  have HE := encode_any w2 ph tr out inp (some ⟨G, 0, none⟩) (n + 1) L ((HT.out.next H1.out.1).next b2) ⟨rowG, by rw [HI.out.2.2.2.1]; omega, HI.out.1, HI.out.2.1, by rw [HI.out.2.2.2.1]; have := HI.out.2.2.2.2.1; omega⟩ HI.out.2.2.2.2.2
  rw [HI.out.2.2.2.1] at HE
  unfold recC EncP at HE
  rw [HRc.out] at HE
  have H2 : Hid (Below W.heap.size W w2 ∧ Full w2 A 28 [.int .i64 ph, .int .i64 tr, .string out, .int .i64 inp, .slice q n cap] ∧ Row w2 w2.heap.size q n (L.flatMap ec)) := ⟨H1.out.1.trans (b2.mono H1.out.1.size), H1.out.2.1.next b2, (H1.out.2.2.below b2 (Nat.le_refl _)).up b2.size⟩
  clear HTw hq2 fG b2 rowG r0 r1 r2 r3 r4 H1 hX1
  go_wp2_with fail
  refine HE.mono ?_
  rintro e w3 ⟨rfl, hb3⟩
  have H3 : Hid (Below W.heap.size W w3 ∧ Full w3 A 28 [.int .i64 ph, .int .i64 tr, .string out, .int .i64 inp, .slice q n cap] ∧ Row w3 w3.heap.size q n (L.flatMap ec)) := ⟨H2.out.1.trans (hb3.mono H2.out.1.size), H2.out.2.1.next hb3, (H2.out.2.2.below hb3 (Nat.le_refl _)).up hb3.size⟩
  clear HE hb3 H2
  obtain ⟨⟨⟨r0, -⟩, ⟨r1, -⟩, r2, -⟩, ⟨r3, -⟩, r4, -⟩ := H3.out.2.1.five2
  by_cases h0 : (encS rc).2 = 0
  case neg =>
    obtain ⟨hb0, he⟩ := encS_no h0
    rw [hb0]
    have HVa := rvalid_any w3 ph tr out inp q cap L (by rw [HI.out.2.2.2.1]; exact H3.out.2.2) HI.out.1 (by rw [HI.out.2.2.2.1]; have := HI.out.2.2.2.2.1; omega) HI.out.2.2.2.2.2
    rw [HI.out.2.2.2.1, HRc.out] at HVa
    unfold recC at HVa
    obtain ⟨er, her⟩ : ∃ er, (encS rc).2 = er := ⟨_, rfl⟩
    rw [her] at HVa h0 he ⊢
    have hen : (er == 0) = false := by rw [beq_eq_false_iff_ne]; exact h0
    clear her hb0
    rcases he with rfl | rfl
    all_goals
      clear h0 hen
      go_wp2_with fail
      refine HVa.mono ?_
      rintro e w4 ⟨rfl, hb4⟩
      have H4 : Hid (Below W.heap.size W w4) := H3.out.1.trans (hb4.mono H3.out.1.size)
      have HK := known_any w4 (HT.out.next H4.out)
      clear HVa hb4 H3 r0 r1 r2 r3 r4
      go_wp2_with fail
      refine HK.mono ?_
      rintro e w5 ⟨rfl, hb5⟩
      have H5 : Hid (Below W.heap.size W w5) := H4.out.trans (hb5.mono H4.out.size)
      clear HK hb5 H4
      go_wp2_with fail
      go_ret
      exact ⟨rfl, (by first | exact H5.out | (rw [← HA.out]; exact H5.out))⟩
  case pos =>
    have hfl := file_le h0 (by rw [← HRc.out]; exact HI.out.2.1)
    have hback := enc_back rc h0 (by rw [← HRc.out]; exact HI.out.2.1)
    rw [h0]
    obtain ⟨fb, hfb⟩ : ∃ fb : ByteArray, (⟨(encS rc).1.toArray⟩ : ByteArray) = fb := ⟨_, rfl⟩
    have hfbl : fb.data.toList = (encS rc).1 := by rw [← hfb]
    rw [← hfbl] at hback hfl
    rw [hfb]
    have hfs : fb.size ≤ 100000000000 := by rw [Lib.size_eq]; exact hfl
    have HB : Hid (decS fb.data.toList = (rc, 0) ∧ salS fb.data.toList = (rc, fb.data.toList.length, 0) ∧ fb.size ≤ 100000000000) := ⟨hback.1, hback.2, hfs⟩
    have qf : (fb.size : Int) ≤ 100000000000 := by omega
    clear h0 hfl hback hfb hfbl hfs r0 r1 r2 r3 r4
    have HD := decode_any w3 fb (HT.out.next H3.out.1) (by have := HB.out.2.2; omega)
    rw [HB.out.1] at HD
    go_wp2_with fail
    refine HD.mono ?_
    rintro e w4 ⟨⟨v, rfl, hv⟩, hb4⟩
    obtain ⟨od, qd, cd, rfl, hod, hcd, hrd⟩ := hv.op
    rw [← HRc.out] at hod hrd
    simp only at hod hrd
    obtain rfl := (ba_eq hod).symm
    rw [HI.out.2.2.2.1] at hrd
    have hval : Value.agg (recC rc.ph rc.tr out rc.inp qd rc.evs.length cd) = .agg #[.int .i64 ph, .int .i64 tr, .string out, .int .i64 inp, .slice qd n cd] := by rw [← HRc.out]; simp only; rw [HI.out.2.2.2.1]
    rw [hval]
    obtain ⟨D, hD⟩ : ∃ D, w4.heap.size = D := ⟨_, rfl⟩
    obtain ⟨X4, hX4⟩ : ∃ X, w4.alloc (.cells #[.int .i64 ph, .int .i64 tr, .string out, .int .i64 inp, .slice qd n cd] 28) = X := ⟨_, rfl⟩
    have n4 : Below w4.heap.size w4 X4 := by rw [← hX4]; exact (Below.refl _ _).alloc (Nat.le_refl _) _
    have f4 : Full X4 D 28 [.int .i64 ph, .int .i64 tr, .string out, .int .i64 inp, .slice qd n cd] := by rw [← hX4, ← hD]; exact Full.new w4 _ _
    have n34 : Below w3.heap.size w3 X4 := hb4.trans (n4.mono hb4.size)
    have H5 : Hid (Below W.heap.size W X4 ∧ Full X4 A 28 [.int .i64 ph, .int .i64 tr, .string out, .int .i64 inp, .slice q n cap] ∧ Row X4 X4.heap.size q n (L.flatMap ec) ∧ Full X4 D 28 [.int .i64 ph, .int .i64 tr, .string out, .int .i64 inp, .slice qd n cd] ∧ Row X4 X4.heap.size qd n (L.flatMap ec)) := ⟨H3.out.1.trans (n34.mono H3.out.1.size), H3.out.2.1.next n34, (H3.out.2.2.below n34 (Nat.le_refl _)).up n34.size, f4, (hrd.below n4 (Nat.le_refl _)).up n4.size⟩
    have HS := salvage_any X4 fb (HT.out.next H5.out.1) (by have := HB.out.2.2; omega)
    rw [HB.out.2.1] at HS
    clear HD hb4 hv hod hcd hrd n4 f4 n34 H3 hval
    go_wp2_with fail
    refine HS.mono ?_
    rintro e w6 ⟨⟨v, rfl, hv⟩, hb6⟩
    obtain ⟨os, qs, cs, rfl, hos, hcs, hrs⟩ := hv.op
    rw [← HRc.out] at hos hrs
    simp only at hos hrs
    obtain rfl := (ba_eq hos).symm
    rw [HI.out.2.2.2.1] at hrs
    have hval : Value.agg (recC rc.ph rc.tr out rc.inp qs rc.evs.length cs) = .agg #[.int .i64 ph, .int .i64 tr, .string out, .int .i64 inp, .slice qs n cs] := by rw [← HRc.out]; simp only; rw [HI.out.2.2.2.1]
    have hln2 : (((fb.data.toList).length : Nat) : Int) = (fb.size : Int) := by rw [Lib.size_eq]
    rw [hval, hln2]
    obtain ⟨S, hS⟩ : ∃ S, w6.heap.size = S := ⟨_, rfl⟩
    obtain ⟨X6, hX6⟩ : ∃ X, w6.alloc (.cells #[.int .i64 ph, .int .i64 tr, .string out, .int .i64 inp, .slice qs n cs] 28) = X := ⟨_, rfl⟩
    have n6 : Below w6.heap.size w6 X6 := by rw [← hX6]; exact (Below.refl _ _).alloc (Nat.le_refl _) _
    have f6 : Full X6 S 28 [.int .i64 ph, .int .i64 tr, .string out, .int .i64 inp, .slice qs n cs] := by rw [← hX6, ← hS]; exact Full.new w6 _ _
    have n56 : Below X4.heap.size X4 X6 := hb6.trans (n6.mono hb6.size)
    have H6 : Hid (Below W.heap.size W X6 ∧ Full X6 A 28 [.int .i64 ph, .int .i64 tr, .string out, .int .i64 inp, .slice q n cap] ∧ Row X6 X6.heap.size q n (L.flatMap ec) ∧ Full X6 D 28 [.int .i64 ph, .int .i64 tr, .string out, .int .i64 inp, .slice qd n cd] ∧ Row X6 X6.heap.size qd n (L.flatMap ec) ∧ Full X6 S 28 [.int .i64 ph, .int .i64 tr, .string out, .int .i64 inp, .slice qs n cs] ∧ Row X6 X6.heap.size qs n (L.flatMap ec)) := ⟨H5.out.1.trans (n56.mono H5.out.1.size), H5.out.2.1.next n56, (H5.out.2.2.1.below n56 (Nat.le_refl _)).up n56.size, H5.out.2.2.2.1.next n56, (H5.out.2.2.2.2.below n56 (Nat.le_refl _)).up n56.size, f6, (hrs.below n6 (Nat.le_refl _)).up n6.size⟩
    have hsm : ∀ (w : World) (qa : Option Addr) (ca : Nat), Row w w.heap.size qa n (L.flatMap ec) → Row w w.heap.size q n (L.flatMap ec) → Calls Tryd.prog 17 #[.agg #[.int .i64 ph, .int .i64 tr, .string out, .int .i64 inp, .slice qa n ca], .agg #[.int .i64 ph, .int .i64 tr, .string out, .int .i64 inp, .slice q n cap]] w fun e w' => e = .returned (.bool true) ∧ Below w.heap.size w w' := fun w qa ca ha hb => by
      have h := same_yes w ph tr out inp L qa q ca cap (by rw [HI.out.2.2.2.1]; exact ha) (by rw [HI.out.2.2.2.1]; exact hb) (by rw [HI.out.2.2.2.1]; have := HI.out.2.2.2.2.1; omega)
      rw [HI.out.2.2.2.1] at h
      exact h
    have HM := hsm X6 qd cd H6.out.2.2.2.2.1 H6.out.2.2.1
    have HSm : Hid (∀ (w : World) (qa : Option Addr) (ca : Nat), Row w w.heap.size qa n (L.flatMap ec) → Row w w.heap.size q n (L.flatMap ec) → Calls Tryd.prog 17 #[.agg #[.int .i64 ph, .int .i64 tr, .string out, .int .i64 inp, .slice qa n ca], .agg #[.int .i64 ph, .int .i64 tr, .string out, .int .i64 inp, .slice q n cap]] w fun e w' => e = .returned (.bool true) ∧ Below w.heap.size w w') := hsm
    obtain ⟨⟨⟨r0, -⟩, ⟨r1, -⟩, r2, -⟩, ⟨r3, -⟩, r4, -⟩ := H6.out.2.1.five2
    obtain ⟨⟨⟨d0, -⟩, ⟨d1, -⟩, d2, -⟩, ⟨d3, -⟩, d4, -⟩ := H6.out.2.2.2.1.five2
    clear HS hb6 hv hos hcs hrs n6 f6 n56 H5 hX4 hln2 hval hsm
    go_wp2_with fail
    refine HM.mono ?_
    rintro e w7 ⟨rfl, hb7⟩
    have HM2 := HSm.out w7 qs cs ((H6.out.2.2.2.2.2.2.below hb7 (Nat.le_refl _)).up hb7.size) ((H6.out.2.2.1.below hb7 (Nat.le_refl _)).up hb7.size)
    have H7 : Hid (Below W.heap.size W w7) := H6.out.1.trans (hb7.mono H6.out.1.size)
    clear r0 r1 r2 r3 r4 d0 d1 d2 d3 d4 HM hX6
    obtain ⟨⟨⟨r0, -⟩, ⟨r1, -⟩, r2, -⟩, ⟨r3, -⟩, r4, -⟩ := (H6.out.2.1.next hb7).five2
    obtain ⟨⟨⟨d0, -⟩, ⟨d1, -⟩, d2, -⟩, ⟨d3, -⟩, d4, -⟩ := (H6.out.2.2.2.2.2.1.next hb7).five2
    clear hb7
    go_wp2_with fail
    refine HM2.mono ?_
    rintro e w8 ⟨rfl, hb8⟩
    have H8 : Hid (Below W.heap.size W w8) := H7.out.trans (hb8.mono H7.out.size)
    have HK := known_any w8 (HT.out.next H8.out)
    clear HM2 hb8 r0 r1 r2 r3 r4 d0 d1 d2 d3 d4 H6 H7
    go_wp2_with fail
    refine HK.mono ?_
    rintro e w9 ⟨rfl, hb9⟩
    have H9 : Hid (Below W.heap.size W w9) := H8.out.trans (hb9.mono H8.out.size)
    clear HK hb9 H8
    go_wp2_with fail
    go_ret
    exact ⟨rfl, (by first | exact H9.out | (rw [← HA.out]; exact H9.out))⟩
end Go.Proofs.YtnecnchdffmhbaaDoor
