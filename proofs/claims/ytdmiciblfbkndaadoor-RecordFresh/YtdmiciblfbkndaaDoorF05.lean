import Derived.Test.YtdmiciblfbkndaaDoorF04
namespace Go.Proofs.YtdmiciblfbkndaaDoor
open Go.RowKit

set_option maxRecDepth 100000 in
set_option maxHeartbeats 8000000 in
theorem fresh_law (W : World) (ph0 tr0 : Int) (out0 : ByteArray) (inp0 : Int) (q0 : Option Addr) (cap0 : Nat) (L0 : List Ev) (hT : SumT W) (hI : RcIn W q0 cap0 L0) (ho : out0.size ≤ 140737488355328) :
    Calls Tryd.prog 3 #[.agg (recC ph0 tr0 out0 inp0 q0 L0.length cap0)] W fun e w' => e = .returned (.bool true) ∧ Below W.heap.size W w' := by
  obtain ⟨X1, hX1⟩ : ∃ X, W.alloc (.cells (recC ph0 tr0 out0 inp0 q0 L0.length cap0) 28) = X := ⟨_, rfl⟩
  obtain ⟨A, hA⟩ : ∃ A, W.heap.size = A := ⟨_, rfl⟩
  have b1 : Below W.heap.size W X1 := by rw [← hX1]; exact (Below.refl _ W).alloc (Nat.le_refl _) _
  have f1 : Full X1 A 28 [.int .i64 ph0, .int .i64 tr0, .string out0, .int .i64 inp0, .slice q0 L0.length cap0] := by rw [← hX1, ← hA]; exact Full.new W _ _
  have R1 : Row X1 X1.heap.size q0 L0.length (L0.flatMap ec) := (hI.row.below b1 (Nat.le_refl _)).up b1.size
  have HE := rencode_any X1 ph0 tr0 out0 inp0 q0 cap0 L0 ⟨R1, hI.cap, hI.sz, hI.vn, hI.most⟩ ho
  obtain ⟨er, her⟩ : ∃ er, (encS ⟨ph0, tr0, out0.data.toList, inp0, L0⟩).2 = er := ⟨_, rfl⟩
  obtain ⟨D0, hD0⟩ : ∃ D : ByteArray, (⟨(encS ⟨ph0, tr0, out0.data.toList, inp0, L0⟩).1.toArray⟩ : ByteArray) = D := ⟨_, rfl⟩
  obtain ⟨n0, hn0⟩ : ∃ n, L0.length = n := ⟨_, rfl⟩
  have HEn : Hid (L0.length = n0 ∧ (encS ⟨ph0, tr0, out0.data.toList, inp0, L0⟩).2 = er ∧ D0.data.toList = (encS ⟨ph0, tr0, out0.data.toList, inp0, L0⟩).1 ∧ (∀ e ∈ L0, -9223372036854775808 ≤ e.vn ∧ e.vn ≤ 9223372036854775807)) := ⟨hn0, her, by rw [← hD0], hI.vn⟩
  unfold EncP at HE
  rw [her, hD0] at HE
  rw [hn0] at hX1 f1 R1 HE ⊢
  unfold recC at hX1 HE ⊢
  have HT : Hid (SumT W) := hT
  have H1 : Hid (Below W.heap.size W X1 ∧ Full X1 A 28 [.int .i64 ph0, .int .i64 tr0, .string out0, .int .i64 inp0, .slice q0 n0 cap0] ∧ Row X1 X1.heap.size q0 n0 (L0.flatMap ec) ∧ W.heap.size = A) := ⟨b1, f1, R1, hA⟩
  obtain ⟨⟨⟨r0, -⟩, ⟨r1, -⟩, r2, -⟩, ⟨r3, -⟩, r4, -⟩ := f1.five2
  clear b1 f1 R1 hI ho hn0 her hD0 hT
  go_enter Tryd.func3, Tryd.ntmps3
  go_wp2_with fail
  refine HE.mono ?_
  rintro e w2 ⟨rfl, hb2⟩
  have H2 : Hid (Below W.heap.size W w2 ∧ Full w2 A 28 [.int .i64 ph0, .int .i64 tr0, .string out0, .int .i64 inp0, .slice q0 n0 cap0] ∧ Row w2 w2.heap.size q0 n0 (L0.flatMap ec) ∧ W.heap.size = A) := ⟨H1.out.1.trans (hb2.mono H1.out.1.size), H1.out.2.1.next hb2, (H1.out.2.2.1.below hb2 (Nat.le_refl _)).up hb2.size, H1.out.2.2.2⟩
  clear HE hb2 H1 hX1 r0 r1 r2 r3 r4
  go_upto_if 30 with fail
  go_cut [3] (fun u3 wx => ∃ (ph tr : Int) (ob : ByteArray) (inp : Int) (q : Option Addr) (c m : Nat) (L : List Ev) (D : ByteArray), u3 = .string D ∧ Hid (FrS W A ph tr ob inp q c m L D wx))
  case first =>
    by_cases h0 : er = 0
    · have HF : Hid (FrS W A ph0 tr0 out0 inp0 q0 cap0 n0 L0 D0 w2) := FrS.of HEn.out.1 H2.out.1 H2.out.2.1 H2.out.2.2.1 (by rw [HEn.out.2.1]; exact h0) HEn.out.2.2.1 HEn.out.2.2.2
      subst h0
      clear H2 HEn
      go_wp2_with fail
      go_meet
      case rel => exact ⟨_, _, _, _, _, _, _, _, _, rfl, HF⟩
    · have hne : (er == 0) = false := beq_eq_false_iff_ne.2 h0
      obtain ⟨S, hS⟩ : ∃ S, w2.heap.size = S := ⟨_, rfl⟩
      obtain ⟨X3, hX3⟩ : ∃ X, w2.alloc (.cells #[.int .i64 1, .int .i64 0, .string ⟨#[]⟩, .int .i64 0, .int .i64 0, .string ⟨#[]⟩, .int .i64 2, .int .i64 1, .string ⟨#[]⟩, .int .i64 0, .int .i64 0, .string ⟨#[]⟩] 37) = X := ⟨_, rfl⟩
      have n3 : Below w2.heap.size w2 X3 := by rw [← hX3]; exact (Below.refl _ _).alloc (Nat.le_refl _) _
      have fS : Full X3 S 37 (evF2.flatMap ec) := by rw [← hX3, ← hS]; exact Full.new w2 _ _
      have fA := H2.out.2.1.next n3
      obtain ⟨⟨⟨r0, y0⟩, ⟨r1, y1⟩, r2, y2⟩, ⟨r3, y3⟩, r4, y4⟩ := fA.five2
      have fB : Full (X3.setCells A 0 [.int .i64 0, .int .i64 0, .string ⟨#[]⟩, .int .i64 0, .slice (some ⟨S, 0, none⟩) 2 2]) A 28 [.int .i64 0, .int .i64 0, .string ⟨#[]⟩, .int .i64 0, .slice (some ⟨S, 0, none⟩) 2 2] := Full.put (a := []) (b := [.int .i64 ph0, .int .i64 tr0, .string out0, .int .i64 inp0, .slice q0 n0 cap0]) (d := []) _ fA rfl
      have gS : Full (X3.setCells A 0 [.int .i64 0, .int .i64 0, .string ⟨#[]⟩, .int .i64 0, .slice (some ⟨S, 0, none⟩) 2 2]) S 37 (evF2.flatMap ec) := fS.other (by have := H2.out.2.1.lt; omega)
      have bB : Below W.heap.size W (X3.setCells A 0 [.int .i64 0, .int .i64 0, .string ⟨#[]⟩, .int .i64 0, .slice (some ⟨S, 0, none⟩) 2 2]) := below_sets (H2.out.1.trans (n3.mono H2.out.1.size)) (Nat.le_of_eq H2.out.2.2.2) _ _
      obtain ⟨X4, hX4⟩ : ∃ X, X3.setCells A 0 [.int .i64 0, .int .i64 0, .string ⟨#[]⟩, .int .i64 0, .slice (some ⟨S, 0, none⟩) 2 2] = X := ⟨_, rfl⟩
      rw [hX4] at fB gS bB
      simp only [World.setCells, Nat.zero_add, Nat.reduceAdd] at hX4
      have rS : Row X4 X4.heap.size (some ⟨S, 0, none⟩) evF2.length (evF2.flatMap ec) := fun _ => ⟨S, 0, rfl, gS.lt, by have h := gS; rw [← List.append_nil (evF2.flatMap ec)] at h; exact h.range⟩
      have HE2 := rencode_any X4 0 0 ⟨#[]⟩ 0 (some ⟨S, 0, none⟩) 2 evF2 ⟨rS, Nat.le_refl _, fun e he => (rdF2 e he).1, fun e he => (rdF2 e he).2, by decide⟩ (by decide)
      unfold EncP at HE2
      rw [show (⟨0, 0, (⟨#[]⟩ : ByteArray).data.toList, 0, evF2⟩ : Rc) = rcF2 from rfl, encF2] at HE2
      obtain ⟨D2, hD2⟩ : ∃ D : ByteArray, (⟨(fileL rcF2).toArray⟩ : ByteArray) = D := ⟨_, rfl⟩
      simp only at HE2
      rw [hD2] at HE2
      unfold recC at HE2
      have H4 : Hid (Below W.heap.size W X4 ∧ Full X4 A 28 [.int .i64 0, .int .i64 0, .string ⟨#[]⟩, .int .i64 0, .slice (some ⟨S, 0, none⟩) 2 2] ∧ Row X4 X4.heap.size (some ⟨S, 0, none⟩) 2 (evF2.flatMap ec) ∧ D2.data.toList = fileL rcF2) := ⟨bB, fB, rS, by rw [← hD2]⟩
      obtain ⟨⟨⟨s0, -⟩, ⟨s1, -⟩, s2, -⟩, ⟨s3, -⟩, s4, -⟩ := fB.five2
      have HX4 : Hid (_ = X4) := hX4
      clear n3 fS fA fB gS bB rS hX4 hD2 H2 HEn h0
      go_upto_region 4 with fail
      rw [HX4.out]
      clear HX4 r0 y0 r1 y1 r2 y2 r3 y3 r4 y4 hX3
      go_wp2_with fail
      refine HE2.mono ?_
      rintro e w5 ⟨rfl, hb5⟩
      have HF : Hid (FrS W A 0 0 ⟨#[]⟩ 0 (some ⟨S, 0, none⟩) 2 2 evF2 D2 w5) := FrS.of rfl (H4.out.1.trans (hb5.mono H4.out.1.size)) (H4.out.2.1.next hb5) ((H4.out.2.2.1.below hb5 (Nat.le_refl _)).up hb5.size) (by show (encS rcF2).2 = 0; rw [encF2]) (by rw [H4.out.2.2.2]; show _ = (encS rcF2).1; rw [encF2]) (fun e he => (rdF2 e he).2)
      clear HE2 hb5 H4 s0 s1 s2 s3 s4
      go_wp2_with fail
      go_meet
      case rel => exact ⟨_, _, _, _, _, _, _, _, _, rfl, HF⟩
  case rest =>
  obtain ⟨ph, tr, ob, inp, q, c, m, L, D, rfl, HF⟩ := hcut
  clear H2 HEn
  have HDc : Hid (∀ w, Below wc.heap.size wc w → (Calls Tryd.prog 6 #[.string D] w fun e w' => ∃ (q : Option Addr) (c : Nat), e = .returned (.tuple #[.agg #[.int .i64 ph, .int .i64 tr, .string ob, .int .i64 inp, .slice q m c], .int .i64 0]) ∧ Hid (w'.ownsRow w.heap.size 37 6 (.slice q m c) m (L.flatMap ec) ∧ Below w.heap.size w w')) ∧ (Calls Tryd.prog 7 #[.string D] w fun e w' => ∃ (q : Option Addr) (c : Nat), e = .returned (.tuple #[.agg #[.int .i64 ph, .int .i64 tr, .string ob, .int .i64 inp, .slice q m c], .int .i64 (D.size : Int), .int .i64 0]) ∧ Hid (w'.ownsRow w.heap.size 37 6 (.slice q m c) m (L.flatMap ec) ∧ Below w.heap.size w w')) ∧ Row w w.heap.size q m (L.flatMap ec) ∧ Full w A 28 [.int .i64 ph, .int .i64 tr, .string ob, .int .i64 inp, .slice q m c]) := fun w hw =>
    have hTw : SumT w := HT.out.next (HF.out.bel.trans (hw.mono HF.out.bel.size))
    ⟨fr_dec w ph tr ob inp m L D hTw HF.out.n HF.out.sz HF.out.dec, fr_sal w ph tr ob inp m L D hTw HF.out.n HF.out.sz HF.out.sal, (HF.out.row.below hw (Nat.le_refl _)).up hw.size, HF.out.box.next hw⟩
  have HL0 : Hid (Al ph tr ob inp m L wc [] wc) := ⟨Below.refl _ _, fun x hx => absurd hx List.not_mem_nil⟩
  have HC := (HDc.out wc HL0.out.bel).1
  go_wp2_with fail
  refine HC.mono ?_
  rintro e waa ⟨qaa, caa, rfl, hwaa⟩
  have aaa := AnB.lay (ph := ph) (tr := tr) (ob := ob) (inp := inp) hwaa.out.1
  obtain ⟨Paa, hPaa⟩ : ∃ P, waa.heap.size = P := ⟨_, rfl⟩
  obtain ⟨Xaa, hXaa⟩ : ∃ X, waa.alloc (.cells #[.int .i64 ph, .int .i64 tr, .string ob, .int .i64 inp, .slice qaa m caa] 28) = X := ⟨_, rfl⟩
  have naa : Below wc.heap.size wc Xaa := by rw [← hXaa]; exact hwaa.out.2.alloc hwaa.out.2.size _
  have zaa : Xaa.heap.size = Paa + 1 := by rw [← hXaa, World.size_alloc, hPaa]
  have HZaa : Hid (wc.heap.size ≤ Paa ∧ Xaa.heap.size = Paa + 1) := ⟨by rw [← hPaa]; exact hwaa.out.2.size, zaa⟩
  rw [hXaa, hPaa] at aaa
  have HLaa : Hid (Al ph tr ob inp m L wc [(Paa, wc.heap.size, Paa, qaa, caa)] Xaa) := HL0.out.add naa aaa
  clear HC hwaa aaa naa zaa
  have HC := (HDc.out Xaa HLaa.out.bel).1
  go_wp2_with fail
  refine HC.mono ?_
  rintro e wbb ⟨qbb, cbb, rfl, hwbb⟩
  have abb := AnB.lay (ph := ph) (tr := tr) (ob := ob) (inp := inp) hwbb.out.1
  obtain ⟨Pbb, hPbb⟩ : ∃ P, wbb.heap.size = P := ⟨_, rfl⟩
  obtain ⟨Xbb, hXbb⟩ : ∃ X, wbb.alloc (.cells #[.int .i64 ph, .int .i64 tr, .string ob, .int .i64 inp, .slice qbb m cbb] 28) = X := ⟨_, rfl⟩
  have nbb : Below Xaa.heap.size Xaa Xbb := by rw [← hXbb]; exact hwbb.out.2.alloc hwbb.out.2.size _
  have zbb : Xbb.heap.size = Pbb + 1 := by rw [← hXbb, World.size_alloc, hPbb]
  have HZbb : Hid (Xaa.heap.size ≤ Pbb ∧ Xbb.heap.size = Pbb + 1) := ⟨by rw [← hPbb]; exact hwbb.out.2.size, zbb⟩
  rw [hXbb, hPbb] at abb
  have HLbb : Hid (Al ph tr ob inp m L wc [(Pbb, Xaa.heap.size, Pbb, qbb, cbb), (Paa, wc.heap.size, Paa, qaa, caa)] Xbb) := HLaa.out.add nbb abb
  clear HC hwbb abb nbb zbb
  have HC := (HDc.out Xbb HLbb.out.bel).2.1
  go_wp2_with fail
  refine HC.mono ?_
  rintro e wcc ⟨qcc, ccc, rfl, hwcc⟩
  have acc := AnB.lay (ph := ph) (tr := tr) (ob := ob) (inp := inp) hwcc.out.1
  obtain ⟨Pcc, hPcc⟩ : ∃ P, wcc.heap.size = P := ⟨_, rfl⟩
  obtain ⟨Xcc, hXcc⟩ : ∃ X, wcc.alloc (.cells #[.int .i64 ph, .int .i64 tr, .string ob, .int .i64 inp, .slice qcc m ccc] 28) = X := ⟨_, rfl⟩
  have ncc : Below Xbb.heap.size Xbb Xcc := by rw [← hXcc]; exact hwcc.out.2.alloc hwcc.out.2.size _
  have zcc : Xcc.heap.size = Pcc + 1 := by rw [← hXcc, World.size_alloc, hPcc]
  have HZcc : Hid (Xbb.heap.size ≤ Pcc ∧ Xcc.heap.size = Pcc + 1) := ⟨by rw [← hPcc]; exact hwcc.out.2.size, zcc⟩
  rw [hXcc, hPcc] at acc
  have HLcc : Hid (Al ph tr ob inp m L wc [(Pcc, Xbb.heap.size, Pcc, qcc, ccc), (Pbb, Xaa.heap.size, Pbb, qbb, cbb), (Paa, wc.heap.size, Paa, qaa, caa)] Xcc) := HLbb.out.add ncc acc
  clear HC hwcc acc ncc zcc
  have hbd1 := HLcc.out.bel
  have and1 := HLcc.out.an (Paa, wc.heap.size, Paa, qaa, caa) (by simp)
  have HM := fr_same Xcc ph tr ob inp m L qaa q caa c HF.out.n HF.out.le (row_of_own and1.own) (HDc.out Xcc hbd1).2.2.1
  obtain ⟨⟨⟨p0, -⟩, ⟨p1, -⟩, p2, -⟩, ⟨p3, -⟩, p4, -⟩ := and1.box.five2
  obtain ⟨⟨⟨v0, -⟩, ⟨v1, -⟩, v2, -⟩, ⟨v3, -⟩, v4, -⟩ := (HDc.out Xcc hbd1).2.2.2.five2
  clear hbd1 and1
  go_wp2_with fail
  refine HM.mono ?_
  rintro e wd1 ⟨rfl, hwd1⟩
  have HLd1 : Hid (Al ph tr ob inp m L wc [(Pcc, Xbb.heap.size, Pcc, qcc, ccc), (Pbb, Xaa.heap.size, Pbb, qbb, cbb), (Paa, wc.heap.size, Paa, qaa, caa)] wd1) := HLcc.out.next hwd1
  have HNd1 : Hid (Xcc.heap.size ≤ wd1.heap.size) := hwd1.size
  clear HM p0 p1 p2 p3 p4 v0 v1 v2 v3 v4 HLcc
  clear hXaa hPaa hXbb hPbb hXcc hPcc hwd1
  have HC := (HDc.out wd1 HLd1.out.bel).2.1
  go_wp2_with fail
  refine HC.mono ?_
  rintro e wdd ⟨qdd, cdd, rfl, hwdd⟩
  have add := AnB.lay (ph := ph) (tr := tr) (ob := ob) (inp := inp) hwdd.out.1
  obtain ⟨Pdd, hPdd⟩ : ∃ P, wdd.heap.size = P := ⟨_, rfl⟩
  obtain ⟨Xdd, hXdd⟩ : ∃ X, wdd.alloc (.cells #[.int .i64 ph, .int .i64 tr, .string ob, .int .i64 inp, .slice qdd m cdd] 28) = X := ⟨_, rfl⟩
  have ndd : Below wd1.heap.size wd1 Xdd := by rw [← hXdd]; exact hwdd.out.2.alloc hwdd.out.2.size _
  have zdd : Xdd.heap.size = Pdd + 1 := by rw [← hXdd, World.size_alloc, hPdd]
  have HZdd : Hid (wd1.heap.size ≤ Pdd ∧ Xdd.heap.size = Pdd + 1) := ⟨by rw [← hPdd]; exact hwdd.out.2.size, zdd⟩
  rw [hXdd, hPdd] at add
  have HLdd : Hid (Al ph tr ob inp m L wc [(Pdd, wd1.heap.size, Pdd, qdd, cdd), (Pcc, Xbb.heap.size, Pcc, qcc, ccc), (Pbb, Xaa.heap.size, Pbb, qbb, cbb), (Paa, wc.heap.size, Paa, qaa, caa)] Xdd) := HLd1.out.add ndd add
  clear HC hwdd add ndd zdd
  obtain ⟨S1, hS1⟩ : ∃ S, Xdd.heap.size = S := ⟨_, rfl⟩
  obtain ⟨Y1, hY1⟩ : ∃ X, Xdd.alloc (.cells #[.int .i64 2, .int .i64 1, .string ⟨#[]⟩, .int .i64 0, .int .i64 0, .string ⟨#[]⟩] 37) = X := ⟨_, rfl⟩
  have m1 : Below Xdd.heap.size Xdd Y1 := by rw [← hY1]; exact (Below.refl _ _).alloc (Nat.le_refl _) _
  have gS1 : Full Y1 S1 37 (evF1.flatMap ec) := by rw [← hY1, ← hS1]; exact Full.new Xdd _ _
  have rS1 : Row Y1 Y1.heap.size (some ⟨S1, 0, none⟩) evF1.length (evF1.flatMap ec) := fun _ => ⟨S1, 0, rfl, gS1.lt, by have h := gS1; rw [← List.append_nil (evF1.flatMap ec)] at h; exact h.range⟩
  have HC := rencode_any Y1 0 0 ⟨#[]⟩ 0 (some ⟨S1, 0, none⟩) 1 evF1 ⟨rS1, Nat.le_refl _, fun e he => (rdF1 e he).1, fun e he => (rdF1 e he).2, by decide⟩ (by decide)
  unfold EncP at HC
  rw [show (⟨0, 0, (⟨#[]⟩ : ByteArray).data.toList, 0, evF1⟩ : Rc) = rcF1 from rfl, encF1] at HC
  obtain ⟨D1, hD1⟩ : ∃ D : ByteArray, (⟨(fileL rcF1).toArray⟩ : ByteArray) = D := ⟨_, rfl⟩
  simp only at HC
  rw [hD1] at HC
  unfold recC at HC
  have HD1 : Hid (D1.data.toList = (encS rcF1).1) := by show _ = _; rw [encF1, ← hD1]
  have HLs : Hid (Al ph tr ob inp m L wc [(Pdd, wd1.heap.size, Pdd, qdd, cdd), (Pcc, Xbb.heap.size, Pcc, qcc, ccc), (Pbb, Xaa.heap.size, Pbb, qbb, cbb), (Paa, wc.heap.size, Paa, qaa, caa)] Y1 ∧ Xdd.heap.size ≤ Y1.heap.size) := ⟨HLdd.out.next m1, m1.size⟩
  clear m1 gS1 rS1 hD1 HLdd
  go_wp2_with fail
  refine HC.mono ?_
  rintro e w6 ⟨rfl, hw6⟩
  have HL6 : Hid (Al ph tr ob inp m L wc [(Pdd, wd1.heap.size, Pdd, qdd, cdd), (Pcc, Xbb.heap.size, Pcc, qcc, ccc), (Pbb, Xaa.heap.size, Pbb, qbb, cbb), (Paa, wc.heap.size, Paa, qaa, caa)] w6 ∧ Xdd.heap.size ≤ w6.heap.size) := ⟨HLs.out.1.next hw6, Nat.le_trans HLs.out.2 hw6.size⟩
  clear HC hw6 HLs hY1 hS1 hXdd hPdd
  have hfv := FrS.of (W := w6) (A := 0) (c := 0) (q := none) (w := w6) (ph := 0) (tr := 0) (ob := ⟨#[]⟩) (inp := 0) (L := evF1) (m := 1) (D := D1)
  have hb1 := enc_back rcF1 (by rw [encF1]) (fun e he => (rdF1 e he).2)
  have hfl := file_le (rc := rcF1) (by rw [encF1]) (fun e he => (rdF1 e he).2)
  have HC := fr_dec w6 0 0 ⟨#[]⟩ 0 1 evF1 D1 (HT.out.next (HF.out.bel.trans (HL6.out.1.bel.mono HF.out.bel.size))) rfl (by rw [Lib.size_eq, HD1.out]; exact hfl) (by rw [HD1.out]; exact hb1.1)
  clear hfv hb1 hfl
  go_wp2_with fail
  refine HC.mono ?_
  rintro e w7 ⟨q7, c7, rfl, hw7⟩
  have a7 := AnB.lay (ph := 0) (tr := 0) (ob := ⟨#[]⟩) (inp := 0) hw7.out.1
  obtain ⟨P7, hP7⟩ : ∃ P, w7.heap.size = P := ⟨_, rfl⟩
  obtain ⟨X7, hX7⟩ : ∃ X, w7.alloc (.cells #[.int .i64 0, .int .i64 0, .string ⟨#[]⟩, .int .i64 0, .slice q7 1 c7] 28) = X := ⟨_, rfl⟩
  have n7 : Below w6.heap.size w6 X7 := by rw [← hX7]; exact hw7.out.2.alloc hw7.out.2.size _
  rw [hX7, hP7] at a7
  have HL7 : Hid (Al ph tr ob inp m L wc [(Pdd, wd1.heap.size, Pdd, qdd, cdd), (Pcc, Xbb.heap.size, Pcc, qcc, ccc), (Pbb, Xaa.heap.size, Pbb, qbb, cbb), (Paa, wc.heap.size, Paa, qaa, caa)] X7 ∧ Xdd.heap.size ≤ w6.heap.size) := ⟨HL6.out.1.next n7, HL6.out.2⟩
  have HV7 : Hid (AnB 0 0 ⟨#[]⟩ 0 1 evF1 P7 w6.heap.size P7 q7 c7 X7) := a7
  have HLz : Hid (Al ph tr ob inp m L wc [(Pdd, wd1.heap.size, Pdd, qdd, cdd), (Pcc, Xbb.heap.size, Pcc, qcc, ccc), (Pbb, Xaa.heap.size, Pbb, qbb, cbb), (Paa, wc.heap.size, Paa, qaa, caa)] X7) := HL7.out.1
  clear HC hw7 a7 n7 HL6
  have hbe1 := HLz.out.bel
  have ane1 := HLz.out.an (Paa, wc.heap.size, Paa, qaa, caa) (by simp)
  have HM := fr_same X7 ph tr ob inp m L qaa q caa c HF.out.n HF.out.le (row_of_own ane1.own) (HDc.out X7 hbe1).2.2.1
  obtain ⟨⟨⟨p0, -⟩, ⟨p1, -⟩, p2, -⟩, ⟨p3, -⟩, p4, -⟩ := ane1.box.five2
  obtain ⟨⟨⟨v0, -⟩, ⟨v1, -⟩, v2, -⟩, ⟨v3, -⟩, v4, -⟩ := (HDc.out X7 hbe1).2.2.2.five2
  clear hbe1 ane1
  go_wp2_with fail
  refine HM.mono ?_
  rintro e we1 ⟨rfl, hwe1⟩
  have HLe1 : Hid (Al ph tr ob inp m L wc [(Pdd, wd1.heap.size, Pdd, qdd, cdd), (Pcc, Xbb.heap.size, Pcc, qcc, ccc), (Pbb, Xaa.heap.size, Pbb, qbb, cbb), (Paa, wc.heap.size, Paa, qaa, caa)] we1) := HLz.out.next hwe1
  have HNe1 : Hid (X7.heap.size ≤ we1.heap.size) := hwe1.size
  clear HM p0 p1 p2 p3 p4 v0 v1 v2 v3 v4 HLz
  have HVe1 : Hid (AnB 0 0 ⟨#[]⟩ 0 1 evF1 P7 w6.heap.size P7 q7 c7 we1) := HV7.out.next hwe1
  clear hwe1 HV7 hX7 hP7
  have hbe2 := HLe1.out.bel
  have ane2 := HLe1.out.an (Pbb, Xaa.heap.size, Pbb, qbb, cbb) (by simp)
  have HM := fr_same we1 ph tr ob inp m L qbb q cbb c HF.out.n HF.out.le (row_of_own ane2.own) (HDc.out we1 hbe2).2.2.1
  obtain ⟨⟨⟨p0, -⟩, ⟨p1, -⟩, p2, -⟩, ⟨p3, -⟩, p4, -⟩ := ane2.box.five2
  obtain ⟨⟨⟨v0, -⟩, ⟨v1, -⟩, v2, -⟩, ⟨v3, -⟩, v4, -⟩ := (HDc.out we1 hbe2).2.2.2.five2
  clear hbe2 ane2
  go_wp2_with fail
  refine HM.mono ?_
  rintro e we2 ⟨rfl, hwe2⟩
  have HLe2 : Hid (Al ph tr ob inp m L wc [(Pdd, wd1.heap.size, Pdd, qdd, cdd), (Pcc, Xbb.heap.size, Pcc, qcc, ccc), (Pbb, Xaa.heap.size, Pbb, qbb, cbb), (Paa, wc.heap.size, Paa, qaa, caa)] we2) := HLe1.out.next hwe2
  have HNe2 : Hid (we1.heap.size ≤ we2.heap.size) := hwe2.size
  clear HM p0 p1 p2 p3 p4 v0 v1 v2 v3 v4 HLe1
  have HVe2 : Hid (AnB 0 0 ⟨#[]⟩ 0 1 evF1 P7 w6.heap.size P7 q7 c7 we2) := HVe1.out.next hwe2
  clear hwe2 HVe1
  have hbe3 := HLe2.out.bel
  have ane3 := HLe2.out.an (Pcc, Xbb.heap.size, Pcc, qcc, ccc) (by simp)
  have HM := fr_same we2 ph tr ob inp m L qcc q ccc c HF.out.n HF.out.le (row_of_own ane3.own) (HDc.out we2 hbe3).2.2.1
  obtain ⟨⟨⟨p0, -⟩, ⟨p1, -⟩, p2, -⟩, ⟨p3, -⟩, p4, -⟩ := ane3.box.five2
  obtain ⟨⟨⟨v0, -⟩, ⟨v1, -⟩, v2, -⟩, ⟨v3, -⟩, v4, -⟩ := (HDc.out we2 hbe3).2.2.2.five2
  clear hbe3 ane3
  go_wp2_with fail
  refine HM.mono ?_
  rintro e we3 ⟨rfl, hwe3⟩
  have HLe3 : Hid (Al ph tr ob inp m L wc [(Pdd, wd1.heap.size, Pdd, qdd, cdd), (Pcc, Xbb.heap.size, Pcc, qcc, ccc), (Pbb, Xaa.heap.size, Pbb, qbb, cbb), (Paa, wc.heap.size, Paa, qaa, caa)] we3) := HLe2.out.next hwe3
  have HNe3 : Hid (we2.heap.size ≤ we3.heap.size) := hwe3.size
  clear HM p0 p1 p2 p3 p4 v0 v1 v2 v3 v4 HLe2
  have HVe3 : Hid (AnB 0 0 ⟨#[]⟩ 0 1 evF1 P7 w6.heap.size P7 q7 c7 we3) := HVe2.out.next hwe3
  clear hwe3 HVe2
  have hbe4 := HLe3.out.bel
  have ane4 := HLe3.out.an (Pdd, wd1.heap.size, Pdd, qdd, cdd) (by simp)
  have HM := fr_same we3 ph tr ob inp m L qdd q cdd c HF.out.n HF.out.le (row_of_own ane4.own) (HDc.out we3 hbe4).2.2.1
  obtain ⟨⟨⟨p0, -⟩, ⟨p1, -⟩, p2, -⟩, ⟨p3, -⟩, p4, -⟩ := ane4.box.five2
  obtain ⟨⟨⟨v0, -⟩, ⟨v1, -⟩, v2, -⟩, ⟨v3, -⟩, v4, -⟩ := (HDc.out we3 hbe4).2.2.2.five2
  clear hbe4 ane4
  go_wp2_with fail
  refine HM.mono ?_
  rintro e we4 ⟨rfl, hwe4⟩
  have HLe4 : Hid (Al ph tr ob inp m L wc [(Pdd, wd1.heap.size, Pdd, qdd, cdd), (Pcc, Xbb.heap.size, Pcc, qcc, ccc), (Pbb, Xaa.heap.size, Pbb, qbb, cbb), (Paa, wc.heap.size, Paa, qaa, caa)] we4) := HLe3.out.next hwe4
  have HNe4 : Hid (we3.heap.size ≤ we4.heap.size) := hwe4.size
  clear HM p0 p1 p2 p3 p4 v0 v1 v2 v3 v4 HLe3
  have HVe4 : Hid (AnB 0 0 ⟨#[]⟩ 0 1 evF1 P7 w6.heap.size P7 q7 c7 we4) := HVe3.out.next hwe4
  clear hwe4 HVe3
  have hl5 := HLe4.out
  have aAa := hl5.an (Paa, wc.heap.size, Paa, qaa, caa) (by simp)
  have aBb := hl5.an (Pbb, Xaa.heap.size, Pbb, qbb, cbb) (by simp)
  have aCc := hl5.an (Pcc, Xbb.heap.size, Pcc, qcc, ccc) (by simp)
  have aDd := hl5.an (Pdd, wd1.heap.size, Pdd, qdd, cdd) (by simp)
  have a77 := HVe4.out
  obtain ⟨-, -, ⟨k1, -⟩⟩ := aAa.box.five2
  obtain ⟨-, -, ⟨k2, -⟩⟩ := aBb.box.five2
  obtain ⟨-, -, ⟨k3, -⟩⟩ := aCc.box.five2
  obtain ⟨-, -, ⟨k4, -⟩⟩ := aDd.box.five2
  obtain ⟨-, -, ⟨k5, -⟩⟩ := a77.box.five2
  obtain ⟨O, hO⟩ : ∃ O, we4.heap.size = O := ⟨_, rfl⟩
  obtain ⟨Y5, hY5⟩ : ∃ X, we4.alloc (.cells #[.slice qaa m caa, .slice qbb m cbb, .slice qcc m ccc, .slice qdd m cdd, .slice q7 1 c7] 26) = X := ⟨_, rfl⟩
  have m5 : Below we4.heap.size we4 Y5 := by rw [← hY5]; exact (Below.refl _ _).alloc (Nat.le_refl _) _
  have hlen := HF.out.n
  have hcell : Y5.heap[O]? = some (.cells #[.slice qaa L.length caa, .slice qbb L.length cbb, .slice qcc L.length ccc, .slice qdd L.length cdd, .slice q7 evF1.length c7] 26) := by
    rw [hlen, ← hY5, ← hO]
    exact World.alloc_heap_new we4 _
  have hans := ans5 Y5 O wc.heap.size L evF1 qaa qbb qcc qdd q7 caa cbb ccc cdd c7 wc.heap.size Xaa.heap.size Xbb.heap.size wd1.heap.size w6.heap.size Paa Pbb Pcc Pdd hcell (by have := hl5.bel.size; omega) (by rw [hlen]; exact own_next aAa.own m5) (by rw [hlen]; exact own_next aBb.own m5) (by rw [hlen]; exact own_next aCc.own m5) (by rw [hlen]; exact own_next aDd.own m5) (own_next a77.own m5) (by rw [hlen]; exact aAa.hi) (by rw [hlen]; exact aBb.hi) (by rw [hlen]; exact aCc.hi) (by rw [hlen]; exact aDd.hi)
    (by have := HZaa.out; have := HZbb.out; have := HZcc.out; have := HZdd.out; have := HNd1.out; have := HL7.out.2; omega)
  have hle := HF.out.le
  have HC : Calls Tryd.prog 9 #[.slice (some ⟨O, 0, none⟩) 5 5] Y5 fun e w' => e = .returned (.bool true) ∧ Kp (bkL [.slice qaa L.length caa, .slice qbb L.length cbb, .slice qcc L.length ccc, .slice qdd L.length cdd, .slice q7 evF1.length c7]) Y5 w' :=
    apartE_any Y5 O 5 wc.heap.size [L, L, L, L, evF1] _ hans (by show 5 ≤ 1000; decide) (fun l hl => by
      simp only [List.mem_cons, List.not_mem_nil, or_false] at hl
      rcases hl with rfl | rfl | rfl | rfl | rfl
      · omega
      · omega
      · omega
      · omega
      · decide) (Nat.le_trans hl5.bel.size m5.size)
  have HB5 : Hid (Below wc.heap.size wc Y5 ∧ ∀ g, bkL [.slice qaa L.length caa, .slice qbb L.length cbb, .slice qcc L.length ccc, .slice qdd L.length cdd, .slice q7 evF1.length c7] g → wc.heap.size ≤ g) := ⟨hl5.bel.trans (m5.mono hl5.bel.size), fun g hg => hans.low g hg⟩
  clear hl5 aAa aBb aCc aDd a77 m5 hcell hans hle hlen HLe4 HVe4
  go_wp2_with fail
  refine HC.mono ?_
  rintro e w9 ⟨rfl, hk9⟩
  have HL9 : Hid (Al ph tr ob inp m L wc [] w9) := ⟨HB5.out.1.trans (hk9.below HB5.out.2 HB5.out.1.size), fun x hx => absurd hx List.not_mem_nil⟩
  clear HC hk9 HB5 k1 k2 k3 k4 k5 hO hY5
  have HC := (HDc.out w9 HL9.out.bel).1
  go_wp2_with fail
  refine HC.mono ?_
  rintro e wxx ⟨qxx, cxx, rfl, hwxx⟩
  have axx := AnB.lay (ph := ph) (tr := tr) (ob := ob) (inp := inp) hwxx.out.1
  obtain ⟨Pxx, hPxx⟩ : ∃ P, wxx.heap.size = P := ⟨_, rfl⟩
  obtain ⟨Xxx, hXxx⟩ : ∃ X, wxx.alloc (.cells #[.int .i64 ph, .int .i64 tr, .string ob, .int .i64 inp, .slice qxx m cxx] 28) = X := ⟨_, rfl⟩
  have nxx : Below w9.heap.size w9 Xxx := by rw [← hXxx]; exact hwxx.out.2.alloc hwxx.out.2.size _
  have zxx : Xxx.heap.size = Pxx + 1 := by rw [← hXxx, World.size_alloc, hPxx]
  have HZxx : Hid (w9.heap.size ≤ Pxx ∧ Xxx.heap.size = Pxx + 1) := ⟨by rw [← hPxx]; exact hwxx.out.2.size, zxx⟩
  rw [hXxx, hPxx] at axx
  have HLxx : Hid (Al ph tr ob inp m L wc [(Pxx, w9.heap.size, Pxx, qxx, cxx)] Xxx) := HL9.out.add nxx axx
  clear HC hwxx axx nxx zxx
  have HC := (HDc.out Xxx HLxx.out.bel).2.1
  go_wp2_with fail
  refine HC.mono ?_
  rintro e wyy ⟨qyy, cyy, rfl, hwyy⟩
  have ayy := AnB.lay (ph := ph) (tr := tr) (ob := ob) (inp := inp) hwyy.out.1
  obtain ⟨Pyy, hPyy⟩ : ∃ P, wyy.heap.size = P := ⟨_, rfl⟩
  obtain ⟨Xyy, hXyy⟩ : ∃ X, wyy.alloc (.cells #[.int .i64 ph, .int .i64 tr, .string ob, .int .i64 inp, .slice qyy m cyy] 28) = X := ⟨_, rfl⟩
  have nyy : Below Xxx.heap.size Xxx Xyy := by rw [← hXyy]; exact hwyy.out.2.alloc hwyy.out.2.size _
  have zyy : Xyy.heap.size = Pyy + 1 := by rw [← hXyy, World.size_alloc, hPyy]
  have HZyy : Hid (Xxx.heap.size ≤ Pyy ∧ Xyy.heap.size = Pyy + 1) := ⟨by rw [← hPyy]; exact hwyy.out.2.size, zyy⟩
  rw [hXyy, hPyy] at ayy
  have HLyy : Hid (Al ph tr ob inp m L wc [(Pyy, Xxx.heap.size, Pyy, qyy, cyy), (Pxx, w9.heap.size, Pxx, qxx, cxx)] Xyy) := HLxx.out.add nyy ayy
  clear HC hwyy ayy nyy zyy
  have hbf1 := HLyy.out.bel
  have anf1 := HLyy.out.an (Pxx, w9.heap.size, Pxx, qxx, cxx) (by simp)
  have HM := fr_same Xyy ph tr ob inp m L qxx q cxx c HF.out.n HF.out.le (row_of_own anf1.own) (HDc.out Xyy hbf1).2.2.1
  obtain ⟨⟨⟨p0, -⟩, ⟨p1, -⟩, p2, -⟩, ⟨p3, -⟩, p4, -⟩ := anf1.box.five2
  obtain ⟨⟨⟨v0, -⟩, ⟨v1, -⟩, v2, -⟩, ⟨v3, -⟩, v4, -⟩ := (HDc.out Xyy hbf1).2.2.2.five2
  clear hbf1 anf1
  go_wp2_with fail
  refine HM.mono ?_
  rintro e wf1 ⟨rfl, hwf1⟩
  have HLf1 : Hid (Al ph tr ob inp m L wc [(Pyy, Xxx.heap.size, Pyy, qyy, cyy), (Pxx, w9.heap.size, Pxx, qxx, cxx)] wf1) := HLyy.out.next hwf1
  have HNf1 : Hid (Xyy.heap.size ≤ wf1.heap.size) := hwf1.size
  clear HM p0 p1 p2 p3 p4 v0 v1 v2 v3 v4 HLyy
  clear hwf1 hXxx hPxx hXyy hPyy
  have hbf2 := HLf1.out.bel
  have anf2 := HLf1.out.an (Pyy, Xxx.heap.size, Pyy, qyy, cyy) (by simp)
  have HM := fr_same wf1 ph tr ob inp m L qyy q cyy c HF.out.n HF.out.le (row_of_own anf2.own) (HDc.out wf1 hbf2).2.2.1
  obtain ⟨⟨⟨p0, -⟩, ⟨p1, -⟩, p2, -⟩, ⟨p3, -⟩, p4, -⟩ := anf2.box.five2
  obtain ⟨⟨⟨v0, -⟩, ⟨v1, -⟩, v2, -⟩, ⟨v3, -⟩, v4, -⟩ := (HDc.out wf1 hbf2).2.2.2.five2
  clear hbf2 anf2
  go_wp2_with fail
  refine HM.mono ?_
  rintro e wf2 ⟨rfl, hwf2⟩
  have HLf2 : Hid (Al ph tr ob inp m L wc [(Pyy, Xxx.heap.size, Pyy, qyy, cyy), (Pxx, w9.heap.size, Pxx, qxx, cxx)] wf2) := HLf1.out.next hwf2
  have HNf2 : Hid (wf1.heap.size ≤ wf2.heap.size) := hwf2.size
  clear HM p0 p1 p2 p3 p4 v0 v1 v2 v3 v4 HLf1
  clear hwf2
  have hbe := HF.out.bel.trans (HLf2.out.bel.mono HF.out.bel.size)
  have HFin : Hid (Below W.heap.size W wf2) := hbe
  clear hbe HLf2
  go_wp2_with fail
  go_ret
  exact ⟨rfl, by first | exact HFin.out | (rw [← hA]; exact HFin.out)⟩
end Go.Proofs.YtdmiciblfbkndaaDoor
