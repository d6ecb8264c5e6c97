import Derived.Test.YtaeigpfcfodmdaaEVb
namespace Go.Proofs.Ytaeigpfcfodmdaa
open Go.RowKit

theorem neqV (k n : Int) (s : ByteArray) : ∀ w : World,
    (binOp BinOp.neq 31 (.agg #[.int .i64 k, .int .i64 n, .string s]) (.agg #[.int .i64 0, .int .i64 0, .string e0])).run Try.prog w = .ok (.bool (!((k == 0 && n == 0) && s.toList == []))) w := by
  intro w
  rw [← e0_list]
  cases h1 : (k == 0) with
  | false => simp [go_sem, h1]
  | true =>
    cases h2 : (n == 0) with
    | false => simp [go_sem, h1, h2]
    | true =>
      cases h3 : (s.toList == e0.toList) with
      | false =>
        simp [go_sem, h1, h2]
        intro h
        rw [h, e0_list] at h3
        cases h3
      | true =>
        simp [go_sem, h1, h2]
        have h4 := eq_of_beq h3
        rw [e0_list] at h4
        exact h4
section
variable {w : World} {B : Nat} {q : Option Addr} {L : List Hk}
set_option maxRecDepth 100000 in
set_option maxHeartbeats 16000000 in
theorem rread_any (h : Row w B q L.length (L.flatMap hc)) (hB : B ≤ w.heap.size) (hL : L.length ≤ 9223372036854775807) (cap : Nat) (hk : Int) (hk64 : -9223372036854775808 ≤ hk) (has : Bool) (k n : Int) (s : ByteArray) (hs : s.size ≤ 9223372036854775807) :
    Calls Try.prog 5 #[.slice q L.length cap, .agg #[.int .i64 hk, .bool has, .int .i64 k, .int .i64 n, .string s]] w fun z w' => z = .returned (rdS L hk has k n s) ∧ Below w.heap.size w w' := by
  obtain ⟨R, HR⟩ : ∃ R, Hid (rdS L hk has k n s = R) := ⟨_, (rfl : rdS L hk has k n s = _)⟩
  rw [HR.out]
  have hY := yb_new w hk has k n s
  obtain ⟨X, hX⟩ : ∃ X, (w.alloc (.cells #[.int .i64 hk, .bool has, .int .i64 k, .int .i64 n, .string s] 38)).alloc (.cells #[.int .i64 0, .int .i64 0, .string e0, .int .i64 0, .int .i64 0, .string e0] 33) = X := ⟨_, rfl⟩
  rw [hX] at hY
  have HY : Hid (Yb w X hk has k n s [.int .i64 0, .int .i64 0, .string e0, .int .i64 0, .int .i64 0, .string e0]) := hY
  have x0 := (hY.y.cell 0 _ rfl).1
  have hLI : (L.length : Int) ≤ 9223372036854775807 := by omega
  have HBAD : Hid (∀ X', Yb w X' hk has k n s [.int .i64 0, .int .i64 0, .string e0, .int .i64 0, .int .i64 0, .string e0] → Full ((((((X'.setCell ⟨w.heap.size + 1, 0, none⟩ (.int .i64 0)).setCell ⟨w.heap.size + 1, 1, none⟩ (.int .i64 0)).setCell ⟨w.heap.size + 1, 2, none⟩ (.string e0)).setCell ⟨w.heap.size + 1, 3, none⟩ (.int .i64 0)).setCell ⟨w.heap.size + 1, 4, none⟩ (.int .i64 0)).setCell ⟨w.heap.size + 1, 5, none⟩ (.string e0)) (w.heap.size + 1) 33 [.int .i64 0, .int .i64 0, .string e0, .int .i64 0, .int .i64 0, .string e0] ∧ Below w.heap.size w ((((((X'.setCell ⟨w.heap.size + 1, 0, none⟩ (.int .i64 0)).setCell ⟨w.heap.size + 1, 1, none⟩ (.int .i64 0)).setCell ⟨w.heap.size + 1, 2, none⟩ (.string e0)).setCell ⟨w.heap.size + 1, 3, none⟩ (.int .i64 0)).setCell ⟨w.heap.size + 1, 4, none⟩ (.int .i64 0)).setCell ⟨w.heap.size + 1, 5, none⟩ (.string e0))) := fun X' hy => hy.told _ _ _ _ _ _
  by_cases hb1 : hk < 1
  · have HE : Hid (noV = R) := by show _ = R; rw [← HR.out]; unfold rdS rowS; rw [if_neg (by omega)]
    clear HR h hY
    go_enter Try.func5, Try.ntmps5
    go_upto_region 2 with fail
    have hz : Yb w X hk has k n s [.int .i64 0, .int .i64 0, .string e0, .int .i64 0, .int .i64 0, .string e0] := HY.out
    obtain ⟨fz, bz⟩ := HBAD.out X hz
    have HZ : Hid (Below w.heap.size w _) := bz
    have p0 := (fz.cell 0 _ rfl).1
    have p1 := (fz.cell 1 _ rfl).1
    have p2 := (fz.cell 2 _ rfl).1
    have p3 := (fz.cell 3 _ rfl).1
    have p4 := (fz.cell 4 _ rfl).1
    have p5 := (fz.cell 5 _ rfl).1
    have v0 := hz.z.cell 0 _ rfl
    have v1 := hz.z.cell 1 _ rfl
    have v2 := hz.z.cell 2 _ rfl
    have v3 := hz.z.cell 3 _ rfl
    have v4 := hz.z.cell 4 _ rfl
    have v5 := hz.z.cell 5 _ rfl
    clear hz fz bz
    go_wp2
    exact bodyPost_ret (v := noV) (by simp [results, Try.results5, go_sem, p0, p1, p2, p3, p4, p5, noV]) rfl ⟨by rw [← HE.out], HZ.out⟩
  by_cases hb2 : (L.length : Int) < hk
  · have HE : Hid (noV = R) := by show _ = R; rw [← HR.out]; unfold rdS rowS; rw [if_neg (by omega)]
    clear HR h hY
    go_enter Try.func5, Try.ntmps5
    go_upto_region 2 with fail
    have hz : Yb w X hk has k n s [.int .i64 0, .int .i64 0, .string e0, .int .i64 0, .int .i64 0, .string e0] := HY.out
    obtain ⟨fz, bz⟩ := HBAD.out X hz
    have HZ : Hid (Below w.heap.size w _) := bz
    have p0 := (fz.cell 0 _ rfl).1
    have p1 := (fz.cell 1 _ rfl).1
    have p2 := (fz.cell 2 _ rfl).1
    have p3 := (fz.cell 3 _ rfl).1
    have p4 := (fz.cell 4 _ rfl).1
    have p5 := (fz.cell 5 _ rfl).1
    have v0 := hz.z.cell 0 _ rfl
    have v1 := hz.z.cell 1 _ rfl
    have v2 := hz.z.cell 2 _ rfl
    have v3 := hz.z.cell 3 _ rfl
    have v4 := hz.z.cell 4 _ rfl
    have v5 := hz.z.cell 5 _ rfl
    clear hz fz bz
    go_wp2
    exact bodyPost_ret (v := noV) (by simp [results, Try.results5, go_sem, p0, p1, p2, p3, p4, p5, noV]) rfl ⟨by rw [← HE.out], HZ.out⟩
  obtain ⟨j, hkj⟩ : ∃ j : Nat, hk = (j : Int) + 1 := ⟨(hk - 1).toNat, by omega⟩
  have hj : j < L.length := by omega
  obtain ⟨g, o, rfl, hg, hr⟩ := hk_at (h.below hY.b hB) j hj
  have HR2 : Hid ((if fitS (L.getD j (0, 0, e0)).1 has && mcS has k n s then evV (L.getD j (0, 0, e0)) k n s else noV) = R) := by
    show _ = R
    rw [← HR.out]
    have e : rowS L hk = some (L.getD j (0, 0, e0)) := by unfold rowS; rw [if_pos ⟨by omega, by omega⟩, show (hk - 1).toNat = j by omega]
    unfold rdS
    rw [e]
  generalize L.getD j (0, 0, e0) = x at hr HR2
  obtain ⟨kd, nd, nm⟩ := x
  have r0 := hr 0 _ rfl
  have r1 := hr 1 _ rfl
  have r2 := hr 2 _ rfl
  rw [Nat.add_zero] at r0
  simp only at r0 r1 r2
  have hw : IntKind.i64.wrap (hk - 1) = (j : Int) := by rw [IntKind.wrap_i64]; omega
  have a0 : (0 : Int) ≤ (j : Int) := by omega
  have a1 : (j : Int) < (L.length : Int) := by omega
  have b1' : ¬ (hk < 1) := hb1
  have b2' : ¬ ((L.length : Int) < hk) := hb2
  obtain ⟨V, hV⟩ : ∃ V, X.alloc (.cells #[.int .i64 kd, .int .i64 nd, .string nm] 28) = V := ⟨_, rfl⟩
  have bV : Below X.heap.size X V := by rw [← hV]; exact (Below.refl _ X).alloc (Nat.le_refl _) _
  obtain ⟨b6, Hb6⟩ : ∃ b6, Hid (X.heap.size = b6) := ⟨_, (rfl : X.heap.size = _)⟩
  have fV : Full V b6 28 [.int .i64 kd, .int .i64 nd, .string nm] := by rw [← Hb6.out, ← hV]; exact Full.new X _ _
  have HV : Hid (Yb w V hk has k n s [.int .i64 0, .int .i64 0, .string e0, .int .i64 0, .int .i64 0, .string e0] ∧ Full V b6 28 [.int .i64 kd, .int .i64 nd, .string nm]) := ⟨HY.out.next bV, fV⟩
  clear HR h hr hY hg bV fV hb1 hb2 hj hkj
  go_enter Try.func5, Try.ntmps5
  go_upto_region 4 with fail
  rw [Hb6.out]
  clear x0 r0 r1 r2 hV hX a0 a1 b1' b2' hw HY
  have k0 := (HV.out.2.cell 0 _ rfl).1
  by_cases hl1 : kd < 1
  · have HE : Hid (noV = R) := by
      show _ = R
      rw [← HR2.out, show fitS kd has = false by unfold fitS; rw [if_neg (by omega), if_neg (by omega), if_neg (by omega)]]
      rfl
    go_upto_region 5 with fail
    have hz : Yb w V hk has k n s [.int .i64 0, .int .i64 0, .string e0, .int .i64 0, .int .i64 0, .string e0] := HV.out.1
    obtain ⟨fz, bz⟩ := HBAD.out V hz
    have HZ : Hid (Below w.heap.size w _) := bz
    have p0 := (fz.cell 0 _ rfl).1
    have p1 := (fz.cell 1 _ rfl).1
    have p2 := (fz.cell 2 _ rfl).1
    have p3 := (fz.cell 3 _ rfl).1
    have p4 := (fz.cell 4 _ rfl).1
    have p5 := (fz.cell 5 _ rfl).1
    have v0 := hz.z.cell 0 _ rfl
    have v1 := hz.z.cell 1 _ rfl
    have v2 := hz.z.cell 2 _ rfl
    have v3 := hz.z.cell 3 _ rfl
    have v4 := hz.z.cell 4 _ rfl
    have v5 := hz.z.cell 5 _ rfl
    clear hz fz bz
    go_wp2
    exact bodyPost_ret (v := noV) (by simp [results, Try.results5, go_sem, p0, p1, p2, p3, p4, p5, noV]) rfl ⟨by rw [← HE.out], HZ.out⟩
  by_cases hl8 : 8 < kd
  · have HE : Hid (noV = R) := by
      show _ = R
      rw [← HR2.out, show fitS kd has = false by unfold fitS; rw [if_neg (by omega), if_neg (by omega), if_neg (by omega)]]
      rfl
    go_upto_region 5 with fail
    have hz : Yb w V hk has k n s [.int .i64 0, .int .i64 0, .string e0, .int .i64 0, .int .i64 0, .string e0] := HV.out.1
    obtain ⟨fz, bz⟩ := HBAD.out V hz
    have HZ : Hid (Below w.heap.size w _) := bz
    have p0 := (fz.cell 0 _ rfl).1
    have p1 := (fz.cell 1 _ rfl).1
    have p2 := (fz.cell 2 _ rfl).1
    have p3 := (fz.cell 3 _ rfl).1
    have p4 := (fz.cell 4 _ rfl).1
    have p5 := (fz.cell 5 _ rfl).1
    have v0 := hz.z.cell 0 _ rfl
    have v1 := hz.z.cell 1 _ rfl
    have v2 := hz.z.cell 2 _ rfl
    have v3 := hz.z.cell 3 _ rfl
    have v4 := hz.z.cell 4 _ rfl
    have v5 := hz.z.cell 5 _ rfl
    clear hz fz bz
    go_wp2
    exact bodyPost_ret (v := noV) (by simp [results, Try.results5, go_sem, p0, p1, p2, p3, p4, p5, noV]) rfl ⟨by rw [← HE.out], HZ.out⟩
  by_cases h7 : kd = 7
  · subst h7
    cases has with
    | false =>
      have HE : Hid (noV = R) := by have := HR2.out; simp only at this; rw [show fitS 7 false = false from rfl, Bool.false_and] at this; exact this
      have x1 := (HV.out.1.y.cell 1 _ rfl).1
      go_upto_region 9 with fail
      have hz : Yb w V hk false k n s [.int .i64 0, .int .i64 0, .string e0, .int .i64 0, .int .i64 0, .string e0] := HV.out.1
      obtain ⟨fz, bz⟩ := HBAD.out V hz
      have HZ : Hid (Below w.heap.size w _) := bz
      have p0 := (fz.cell 0 _ rfl).1
      have p1 := (fz.cell 1 _ rfl).1
      have p2 := (fz.cell 2 _ rfl).1
      have p3 := (fz.cell 3 _ rfl).1
      have p4 := (fz.cell 4 _ rfl).1
      have p5 := (fz.cell 5 _ rfl).1
      have v0 := hz.z.cell 0 _ rfl
      have v1 := hz.z.cell 1 _ rfl
      have v2 := hz.z.cell 2 _ rfl
      have v3 := hz.z.cell 3 _ rfl
      have v4 := hz.z.cell 4 _ rfl
      have v5 := hz.z.cell 5 _ rfl
      clear hz fz bz
      go_wp2
      exact bodyPost_ret (v := noV) (by simp [results, Try.results5, go_sem, p0, p1, p2, p3, p4, p5, noV]) rfl ⟨by rw [← HE.out], HZ.out⟩
    | true =>
      have x1 := (HV.out.1.y.cell 1 _ rfl).1
      have HR3 : Hid ((if mcS true k n s then evV (7, nd, nm) k n s else noV) = R) := by
        have := HR2.out
        simp only at this
        rw [show fitS 7 true = true from rfl, Bool.true_and] at this
        exact this
      go_upto_region 11 with fail
      obtain ⟨V2, hV2⟩ : ∃ V2, V2 = V.alloc (.cells #[.int .i64 0, .int .i64 0, .string e0] 31) := ⟨_, rfl⟩
      rw [← hV2]
      have b2 : Below V.heap.size V V2 := by rw [hV2]; exact (Below.refl _ V).alloc (Nat.le_refl _) _
      have f2 : Full V2 V.heap.size 31 [.int .i64 0, .int .i64 0, .string e0] := by rw [hV2]; exact Full.new V _ _
      have HV2 : Hid (Yb w V2 hk true k n s [.int .i64 0, .int .i64 0, .string e0, .int .i64 0, .int .i64 0, .string e0] ∧ Full V2 b6 28 [.int .i64 7, .int .i64 nd, .string nm] ∧ Full V2 V.heap.size 31 [.int .i64 0, .int .i64 0, .string e0]) := ⟨HV.out.1.next b2, HV.out.2.next b2, f2⟩
      have cV := rvalid_any k n s V2 hs
      obtain ⟨O, HO⟩ : ∃ O, Hid (okV k n s = O) := ⟨_, (rfl : okV k n s = _)⟩
      rw [HO.out] at cV
      have y2 := (HV2.out.1.y.cell 2 _ rfl).1
      have y3 := (HV2.out.1.y.cell 3 _ rfl).1
      have y4 := (HV2.out.1.y.cell 4 _ rfl).1
      clear hV2 b2 f2 k0
      generalize V.heap.size = b9 at *
      go_wp2_with fail
      refine cV.mono ?_
      rintro e W1 ⟨rfl, bW⟩
      have HW : Hid (Yb w W1 hk true k n s [.int .i64 0, .int .i64 0, .string e0, .int .i64 0, .int .i64 0, .string e0] ∧ Full W1 b6 28 [.int .i64 7, .int .i64 nd, .string nm] ∧ Full W1 b9 31 [.int .i64 0, .int .i64 0, .string e0]) := ⟨HV2.out.1.next bW, HV2.out.2.1.next bW, HV2.out.2.2.next bW⟩
      clear cV bW y2 y3 y4 HV2
      have y1 := (HW.out.1.y.cell 1 _ rfl).1
      have y2 := (HW.out.1.y.cell 2 _ rfl).1
      have y3 := (HW.out.1.y.cell 3 _ rfl).1
      have y4 := (HW.out.1.y.cell 4 _ rfl).1
      by_cases hk0 : k = 0
      · have HMc : Hid (mcS true k n s = false) := by show (!(k == 0) && okV k n s) = false; rw [hk0]; rfl
        subst hk0
        have HE : Hid (noV = R) := by have := HR3.out; rw [HMc.out] at this; exact this
        go_upto_region 13 with fail
        have hz : Yb w W1 hk true 0 n s [.int .i64 0, .int .i64 0, .string e0, .int .i64 0, .int .i64 0, .string e0] := HW.out.1
        obtain ⟨fz, bz⟩ := HBAD.out W1 hz
        have HZ : Hid (Below w.heap.size w _) := bz
        have p0 := (fz.cell 0 _ rfl).1
        have p1 := (fz.cell 1 _ rfl).1
        have p2 := (fz.cell 2 _ rfl).1
        have p3 := (fz.cell 3 _ rfl).1
        have p4 := (fz.cell 4 _ rfl).1
        have p5 := (fz.cell 5 _ rfl).1
        have v0 := hz.z.cell 0 _ rfl
        have v1 := hz.z.cell 1 _ rfl
        have v2 := hz.z.cell 2 _ rfl
        have v3 := hz.z.cell 3 _ rfl
        have v4 := hz.z.cell 4 _ rfl
        have v5 := hz.z.cell 5 _ rfl
        clear hz fz bz
        go_wp2
        exact bodyPost_ret (v := noV) (by simp [results, Try.results5, go_sem, p0, p1, p2, p3, p4, p5, noV]) rfl ⟨by rw [← HE.out], HZ.out⟩
      · have ek : (k == 0) = false := by rw [beq_eq_false_iff_ne]; exact hk0
        have HMc : Hid (mcS true k n s = O) := by show (!(k == 0) && okV k n s) = O; rw [ek, HO.out]; rfl
        cases O with
        | true =>
          have HE : Hid (evV (7, nd, nm) k n s = R) := by have := HR3.out; rw [HMc.out] at this; exact this
          go_upto_region 14 with fail
          have k0 := (HW.out.2.1.cell 0 _ rfl).1
          have k1 := (HW.out.2.1.cell 1 _ rfl).1
          have k2 := (HW.out.2.1.cell 2 _ rfl).1
          have v0 := HW.out.1.z.cell 0 _ rfl
          have v1 := HW.out.1.z.cell 1 _ rfl
          have v2 := HW.out.1.z.cell 2 _ rfl
          have v3 := HW.out.1.z.cell 3 _ rfl
          have v4 := HW.out.1.z.cell 4 _ rfl
          have v5 := HW.out.1.z.cell 5 _ rfl
          obtain ⟨fz, bz⟩ := HW.out.1.told (.int .i64 7) (.int .i64 nd) (.string nm) (.int .i64 k) (.int .i64 n) (.string s)
          have HZ : Hid (Below w.heap.size w _) := bz
          have p0 := (fz.cell 0 _ rfl).1
          have p1 := (fz.cell 1 _ rfl).1
          have p2 := (fz.cell 2 _ rfl).1
          have p3 := (fz.cell 3 _ rfl).1
          have p4 := (fz.cell 4 _ rfl).1
          have p5 := (fz.cell 5 _ rfl).1
          clear fz bz
          go_wp2
          exact bodyPost_ret (v := evV (7, nd, nm) k n s) (by simp [results, Try.results5, go_sem, p0, p1, p2, p3, p4, p5, evV]) rfl ⟨by rw [← HE.out], HZ.out⟩
        | false =>
          have HE : Hid (noV = R) := by have := HR3.out; rw [HMc.out] at this; exact this
          go_upto_region 13 with fail
          have hz : Yb w W1 hk true k n s [.int .i64 0, .int .i64 0, .string e0, .int .i64 0, .int .i64 0, .string e0] := HW.out.1
          obtain ⟨fz, bz⟩ := HBAD.out W1 hz
          have HZ : Hid (Below w.heap.size w _) := bz
          have p0 := (fz.cell 0 _ rfl).1
          have p1 := (fz.cell 1 _ rfl).1
          have p2 := (fz.cell 2 _ rfl).1
          have p3 := (fz.cell 3 _ rfl).1
          have p4 := (fz.cell 4 _ rfl).1
          have p5 := (fz.cell 5 _ rfl).1
          have v0 := hz.z.cell 0 _ rfl
          have v1 := hz.z.cell 1 _ rfl
          have v2 := hz.z.cell 2 _ rfl
          have v3 := hz.z.cell 3 _ rfl
          have v4 := hz.z.cell 4 _ rfl
          have v5 := hz.z.cell 5 _ rfl
          clear hz fz bz
          go_wp2
          exact bodyPost_ret (v := noV) (by simp [results, Try.results5, go_sem, p0, p1, p2, p3, p4, p5, noV]) rfl ⟨by rw [← HE.out], HZ.out⟩
  by_cases h8 : kd = 8
  · subst h8
    cases has with
    | false =>
      have HE : Hid (noV = R) := by have := HR2.out; simp only at this; rw [show fitS 8 false = false from rfl, Bool.false_and] at this; exact this
      have x1 := (HV.out.1.y.cell 1 _ rfl).1
      go_upto_region 9 with fail
      have hz : Yb w V hk false k n s [.int .i64 0, .int .i64 0, .string e0, .int .i64 0, .int .i64 0, .string e0] := HV.out.1
      obtain ⟨fz, bz⟩ := HBAD.out V hz
      have HZ : Hid (Below w.heap.size w _) := bz
      have p0 := (fz.cell 0 _ rfl).1
      have p1 := (fz.cell 1 _ rfl).1
      have p2 := (fz.cell 2 _ rfl).1
      have p3 := (fz.cell 3 _ rfl).1
      have p4 := (fz.cell 4 _ rfl).1
      have p5 := (fz.cell 5 _ rfl).1
      have v0 := hz.z.cell 0 _ rfl
      have v1 := hz.z.cell 1 _ rfl
      have v2 := hz.z.cell 2 _ rfl
      have v3 := hz.z.cell 3 _ rfl
      have v4 := hz.z.cell 4 _ rfl
      have v5 := hz.z.cell 5 _ rfl
      clear hz fz bz
      go_wp2
      exact bodyPost_ret (v := noV) (by simp [results, Try.results5, go_sem, p0, p1, p2, p3, p4, p5, noV]) rfl ⟨by rw [← HE.out], HZ.out⟩
    | true =>
      have x1 := (HV.out.1.y.cell 1 _ rfl).1
      have HR3 : Hid ((if mcS true k n s then evV (8, nd, nm) k n s else noV) = R) := by
        have := HR2.out
        simp only at this
        rw [show fitS 8 true = true from rfl, Bool.true_and] at this
        exact this
      go_upto_region 11 with fail
      obtain ⟨V2, hV2⟩ : ∃ V2, V2 = V.alloc (.cells #[.int .i64 0, .int .i64 0, .string e0] 31) := ⟨_, rfl⟩
      rw [← hV2]
      have b2 : Below V.heap.size V V2 := by rw [hV2]; exact (Below.refl _ V).alloc (Nat.le_refl _) _
      have f2 : Full V2 V.heap.size 31 [.int .i64 0, .int .i64 0, .string e0] := by rw [hV2]; exact Full.new V _ _
      have HV2 : Hid (Yb w V2 hk true k n s [.int .i64 0, .int .i64 0, .string e0, .int .i64 0, .int .i64 0, .string e0] ∧ Full V2 b6 28 [.int .i64 8, .int .i64 nd, .string nm] ∧ Full V2 V.heap.size 31 [.int .i64 0, .int .i64 0, .string e0]) := ⟨HV.out.1.next b2, HV.out.2.next b2, f2⟩
      have cV := rvalid_any k n s V2 hs
      obtain ⟨O, HO⟩ : ∃ O, Hid (okV k n s = O) := ⟨_, (rfl : okV k n s = _)⟩
      rw [HO.out] at cV
      have y2 := (HV2.out.1.y.cell 2 _ rfl).1
      have y3 := (HV2.out.1.y.cell 3 _ rfl).1
      have y4 := (HV2.out.1.y.cell 4 _ rfl).1
      clear hV2 b2 f2 k0
      generalize V.heap.size = b9 at *
      go_wp2_with fail
      refine cV.mono ?_
      rintro e W1 ⟨rfl, bW⟩
      have HW : Hid (Yb w W1 hk true k n s [.int .i64 0, .int .i64 0, .string e0, .int .i64 0, .int .i64 0, .string e0] ∧ Full W1 b6 28 [.int .i64 8, .int .i64 nd, .string nm] ∧ Full W1 b9 31 [.int .i64 0, .int .i64 0, .string e0]) := ⟨HV2.out.1.next bW, HV2.out.2.1.next bW, HV2.out.2.2.next bW⟩
      clear cV bW y2 y3 y4 HV2
      have y1 := (HW.out.1.y.cell 1 _ rfl).1
      have y2 := (HW.out.1.y.cell 2 _ rfl).1
      have y3 := (HW.out.1.y.cell 3 _ rfl).1
      have y4 := (HW.out.1.y.cell 4 _ rfl).1
      by_cases hk0 : k = 0
      · have HMc : Hid (mcS true k n s = false) := by show (!(k == 0) && okV k n s) = false; rw [hk0]; rfl
        subst hk0
        have HE : Hid (noV = R) := by have := HR3.out; rw [HMc.out] at this; exact this
        go_upto_region 13 with fail
        have hz : Yb w W1 hk true 0 n s [.int .i64 0, .int .i64 0, .string e0, .int .i64 0, .int .i64 0, .string e0] := HW.out.1
        obtain ⟨fz, bz⟩ := HBAD.out W1 hz
        have HZ : Hid (Below w.heap.size w _) := bz
        have p0 := (fz.cell 0 _ rfl).1
        have p1 := (fz.cell 1 _ rfl).1
        have p2 := (fz.cell 2 _ rfl).1
        have p3 := (fz.cell 3 _ rfl).1
        have p4 := (fz.cell 4 _ rfl).1
        have p5 := (fz.cell 5 _ rfl).1
        have v0 := hz.z.cell 0 _ rfl
        have v1 := hz.z.cell 1 _ rfl
        have v2 := hz.z.cell 2 _ rfl
        have v3 := hz.z.cell 3 _ rfl
        have v4 := hz.z.cell 4 _ rfl
        have v5 := hz.z.cell 5 _ rfl
        clear hz fz bz
        go_wp2
        exact bodyPost_ret (v := noV) (by simp [results, Try.results5, go_sem, p0, p1, p2, p3, p4, p5, noV]) rfl ⟨by rw [← HE.out], HZ.out⟩
      · have ek : (k == 0) = false := by rw [beq_eq_false_iff_ne]; exact hk0
        have HMc : Hid (mcS true k n s = O) := by show (!(k == 0) && okV k n s) = O; rw [ek, HO.out]; rfl
        cases O with
        | true =>
          have HE : Hid (evV (8, nd, nm) k n s = R) := by have := HR3.out; rw [HMc.out] at this; exact this
          go_upto_region 14 with fail
          have k0 := (HW.out.2.1.cell 0 _ rfl).1
          have k1 := (HW.out.2.1.cell 1 _ rfl).1
          have k2 := (HW.out.2.1.cell 2 _ rfl).1
          have v0 := HW.out.1.z.cell 0 _ rfl
          have v1 := HW.out.1.z.cell 1 _ rfl
          have v2 := HW.out.1.z.cell 2 _ rfl
          have v3 := HW.out.1.z.cell 3 _ rfl
          have v4 := HW.out.1.z.cell 4 _ rfl
          have v5 := HW.out.1.z.cell 5 _ rfl
          obtain ⟨fz, bz⟩ := HW.out.1.told (.int .i64 8) (.int .i64 nd) (.string nm) (.int .i64 k) (.int .i64 n) (.string s)
          have HZ : Hid (Below w.heap.size w _) := bz
          have p0 := (fz.cell 0 _ rfl).1
          have p1 := (fz.cell 1 _ rfl).1
          have p2 := (fz.cell 2 _ rfl).1
          have p3 := (fz.cell 3 _ rfl).1
          have p4 := (fz.cell 4 _ rfl).1
          have p5 := (fz.cell 5 _ rfl).1
          clear fz bz
          go_wp2
          exact bodyPost_ret (v := evV (8, nd, nm) k n s) (by simp [results, Try.results5, go_sem, p0, p1, p2, p3, p4, p5, evV]) rfl ⟨by rw [← HE.out], HZ.out⟩
        | false =>
          have HE : Hid (noV = R) := by have := HR3.out; rw [HMc.out] at this; exact this
          go_upto_region 13 with fail
          have hz : Yb w W1 hk true k n s [.int .i64 0, .int .i64 0, .string e0, .int .i64 0, .int .i64 0, .string e0] := HW.out.1
          obtain ⟨fz, bz⟩ := HBAD.out W1 hz
          have HZ : Hid (Below w.heap.size w _) := bz
          have p0 := (fz.cell 0 _ rfl).1
          have p1 := (fz.cell 1 _ rfl).1
          have p2 := (fz.cell 2 _ rfl).1
          have p3 := (fz.cell 3 _ rfl).1
          have p4 := (fz.cell 4 _ rfl).1
          have p5 := (fz.cell 5 _ rfl).1
          have v0 := hz.z.cell 0 _ rfl
          have v1 := hz.z.cell 1 _ rfl
          have v2 := hz.z.cell 2 _ rfl
          have v3 := hz.z.cell 3 _ rfl
          have v4 := hz.z.cell 4 _ rfl
          have v5 := hz.z.cell 5 _ rfl
          clear hz fz bz
          go_wp2
          exact bodyPost_ret (v := noV) (by simp [results, Try.results5, go_sem, p0, p1, p2, p3, p4, p5, noV]) rfl ⟨by rw [← HE.out], HZ.out⟩
  by_cases h6 : kd = 6
  · subst h6
    cases has with
    | false =>
      have x1 := (HV.out.1.y.cell 1 _ rfl).1
      have HR3 : Hid ((if mcS false k n s then evV (6, nd, nm) k n s else noV) = R) := by
        have := HR2.out
        simp only at this
        rw [show fitS 6 false = true from rfl, Bool.true_and] at this
        exact this
      go_upto_region 11 with fail
      obtain ⟨V2, hV2⟩ : ∃ V2, V2 = V.alloc (.cells #[.int .i64 0, .int .i64 0, .string e0] 31) := ⟨_, rfl⟩
      rw [← hV2]
      have b2 : Below V.heap.size V V2 := by rw [hV2]; exact (Below.refl _ V).alloc (Nat.le_refl _) _
      have f2 : Full V2 V.heap.size 31 [.int .i64 0, .int .i64 0, .string e0] := by rw [hV2]; exact Full.new V _ _
      have HV2 : Hid (Yb w V2 hk false k n s [.int .i64 0, .int .i64 0, .string e0, .int .i64 0, .int .i64 0, .string e0] ∧ Full V2 b6 28 [.int .i64 6, .int .i64 nd, .string nm] ∧ Full V2 V.heap.size 31 [.int .i64 0, .int .i64 0, .string e0]) := ⟨HV.out.1.next b2, HV.out.2.next b2, f2⟩
      have cV := rvalid_any k n s V2 hs
      obtain ⟨O, HO⟩ : ∃ O, Hid (okV k n s = O) := ⟨_, (rfl : okV k n s = _)⟩
      rw [HO.out] at cV
      have y2 := (HV2.out.1.y.cell 2 _ rfl).1
      have y3 := (HV2.out.1.y.cell 3 _ rfl).1
      have y4 := (HV2.out.1.y.cell 4 _ rfl).1
      clear hV2 b2 f2 k0
      generalize V.heap.size = b9 at *
      go_wp2_with fail
      refine cV.mono ?_
      rintro e W1 ⟨rfl, bW⟩
      have HW : Hid (Yb w W1 hk false k n s [.int .i64 0, .int .i64 0, .string e0, .int .i64 0, .int .i64 0, .string e0] ∧ Full W1 b6 28 [.int .i64 6, .int .i64 nd, .string nm] ∧ Full W1 b9 31 [.int .i64 0, .int .i64 0, .string e0]) := ⟨HV2.out.1.next bW, HV2.out.2.1.next bW, HV2.out.2.2.next bW⟩
      clear cV bW y2 y3 y4 HV2
      have y1 := (HW.out.1.y.cell 1 _ rfl).1
      have y2 := (HW.out.1.y.cell 2 _ rfl).1
      have y3 := (HW.out.1.y.cell 3 _ rfl).1
      have y4 := (HW.out.1.y.cell 4 _ rfl).1
      have n0 := (HW.out.2.2.cell 0 _ rfl).1
      have n1 := (HW.out.2.2.cell 1 _ rfl).1
      have n2 := (HW.out.2.2.cell 2 _ rfl).1
      have nq := neqV k n s
      obtain ⟨E, hE⟩ : ∃ E, ((k == 0 && n == 0) && s.toList == []) = E := ⟨_, rfl⟩
      rw [hE] at nq
      have HMc : Hid (mcS false k n s = E) := hE
      clear hE
      cases E with
      | true =>
        have HE : Hid (evV (6, nd, nm) k n s = R) := by have := HR3.out; rw [HMc.out] at this; exact this
        go_upto_region 14 with fail
        have k0 := (HW.out.2.1.cell 0 _ rfl).1
        have k1 := (HW.out.2.1.cell 1 _ rfl).1
        have k2 := (HW.out.2.1.cell 2 _ rfl).1
        have v0 := HW.out.1.z.cell 0 _ rfl
        have v1 := HW.out.1.z.cell 1 _ rfl
        have v2 := HW.out.1.z.cell 2 _ rfl
        have v3 := HW.out.1.z.cell 3 _ rfl
        have v4 := HW.out.1.z.cell 4 _ rfl
        have v5 := HW.out.1.z.cell 5 _ rfl
        obtain ⟨fz, bz⟩ := HW.out.1.told (.int .i64 6) (.int .i64 nd) (.string nm) (.int .i64 k) (.int .i64 n) (.string s)
        have HZ : Hid (Below w.heap.size w _) := bz
        have p0 := (fz.cell 0 _ rfl).1
        have p1 := (fz.cell 1 _ rfl).1
        have p2 := (fz.cell 2 _ rfl).1
        have p3 := (fz.cell 3 _ rfl).1
        have p4 := (fz.cell 4 _ rfl).1
        have p5 := (fz.cell 5 _ rfl).1
        clear fz bz
        go_wp2
        exact bodyPost_ret (v := evV (6, nd, nm) k n s) (by simp [results, Try.results5, go_sem, p0, p1, p2, p3, p4, p5, evV]) rfl ⟨by rw [← HE.out], HZ.out⟩
      | false =>
        have HE : Hid (noV = R) := by have := HR3.out; rw [HMc.out] at this; exact this
        go_upto_region 13 with fail
        have hz : Yb w W1 hk false k n s [.int .i64 0, .int .i64 0, .string e0, .int .i64 0, .int .i64 0, .string e0] := HW.out.1
        obtain ⟨fz, bz⟩ := HBAD.out W1 hz
        have HZ : Hid (Below w.heap.size w _) := bz
        have p0 := (fz.cell 0 _ rfl).1
        have p1 := (fz.cell 1 _ rfl).1
        have p2 := (fz.cell 2 _ rfl).1
        have p3 := (fz.cell 3 _ rfl).1
        have p4 := (fz.cell 4 _ rfl).1
        have p5 := (fz.cell 5 _ rfl).1
        have v0 := hz.z.cell 0 _ rfl
        have v1 := hz.z.cell 1 _ rfl
        have v2 := hz.z.cell 2 _ rfl
        have v3 := hz.z.cell 3 _ rfl
        have v4 := hz.z.cell 4 _ rfl
        have v5 := hz.z.cell 5 _ rfl
        clear hz fz bz
        go_wp2
        exact bodyPost_ret (v := noV) (by simp [results, Try.results5, go_sem, p0, p1, p2, p3, p4, p5, noV]) rfl ⟨by rw [← HE.out], HZ.out⟩
    | true =>
      have x1 := (HV.out.1.y.cell 1 _ rfl).1
      have HR3 : Hid ((if mcS true k n s then evV (6, nd, nm) k n s else noV) = R) := by
        have := HR2.out
        simp only at this
        rw [show fitS 6 true = true from rfl, Bool.true_and] at this
        exact this
      go_upto_region 11 with fail
      obtain ⟨V2, hV2⟩ : ∃ V2, V2 = V.alloc (.cells #[.int .i64 0, .int .i64 0, .string e0] 31) := ⟨_, rfl⟩
      rw [← hV2]
      have b2 : Below V.heap.size V V2 := by rw [hV2]; exact (Below.refl _ V).alloc (Nat.le_refl _) _
      have f2 : Full V2 V.heap.size 31 [.int .i64 0, .int .i64 0, .string e0] := by rw [hV2]; exact Full.new V _ _
      have HV2 : Hid (Yb w V2 hk true k n s [.int .i64 0, .int .i64 0, .string e0, .int .i64 0, .int .i64 0, .string e0] ∧ Full V2 b6 28 [.int .i64 6, .int .i64 nd, .string nm] ∧ Full V2 V.heap.size 31 [.int .i64 0, .int .i64 0, .string e0]) := ⟨HV.out.1.next b2, HV.out.2.next b2, f2⟩
      have cV := rvalid_any k n s V2 hs
      obtain ⟨O, HO⟩ : ∃ O, Hid (okV k n s = O) := ⟨_, (rfl : okV k n s = _)⟩
      rw [HO.out] at cV
      have y2 := (HV2.out.1.y.cell 2 _ rfl).1
      have y3 := (HV2.out.1.y.cell 3 _ rfl).1
      have y4 := (HV2.out.1.y.cell 4 _ rfl).1
      clear hV2 b2 f2 k0
      generalize V.heap.size = b9 at *
      go_wp2_with fail
      refine cV.mono ?_
      rintro e W1 ⟨rfl, bW⟩
      have HW : Hid (Yb w W1 hk true k n s [.int .i64 0, .int .i64 0, .string e0, .int .i64 0, .int .i64 0, .string e0] ∧ Full W1 b6 28 [.int .i64 6, .int .i64 nd, .string nm] ∧ Full W1 b9 31 [.int .i64 0, .int .i64 0, .string e0]) := ⟨HV2.out.1.next bW, HV2.out.2.1.next bW, HV2.out.2.2.next bW⟩
      clear cV bW y2 y3 y4 HV2
      have y1 := (HW.out.1.y.cell 1 _ rfl).1
      have y2 := (HW.out.1.y.cell 2 _ rfl).1
      have y3 := (HW.out.1.y.cell 3 _ rfl).1
      have y4 := (HW.out.1.y.cell 4 _ rfl).1
      by_cases hk0 : k = 0
      · have HMc : Hid (mcS true k n s = false) := by show (!(k == 0) && okV k n s) = false; rw [hk0]; rfl
        subst hk0
        have HE : Hid (noV = R) := by have := HR3.out; rw [HMc.out] at this; exact this
        go_upto_region 13 with fail
        have hz : Yb w W1 hk true 0 n s [.int .i64 0, .int .i64 0, .string e0, .int .i64 0, .int .i64 0, .string e0] := HW.out.1
        obtain ⟨fz, bz⟩ := HBAD.out W1 hz
        have HZ : Hid (Below w.heap.size w _) := bz
        have p0 := (fz.cell 0 _ rfl).1
        have p1 := (fz.cell 1 _ rfl).1
        have p2 := (fz.cell 2 _ rfl).1
        have p3 := (fz.cell 3 _ rfl).1
        have p4 := (fz.cell 4 _ rfl).1
        have p5 := (fz.cell 5 _ rfl).1
        have v0 := hz.z.cell 0 _ rfl
        have v1 := hz.z.cell 1 _ rfl
        have v2 := hz.z.cell 2 _ rfl
        have v3 := hz.z.cell 3 _ rfl
        have v4 := hz.z.cell 4 _ rfl
        have v5 := hz.z.cell 5 _ rfl
        clear hz fz bz
        go_wp2
        exact bodyPost_ret (v := noV) (by simp [results, Try.results5, go_sem, p0, p1, p2, p3, p4, p5, noV]) rfl ⟨by rw [← HE.out], HZ.out⟩
      · have ek : (k == 0) = false := by rw [beq_eq_false_iff_ne]; exact hk0
        have HMc : Hid (mcS true k n s = O) := by show (!(k == 0) && okV k n s) = O; rw [ek, HO.out]; rfl
        cases O with
        | true =>
          have HE : Hid (evV (6, nd, nm) k n s = R) := by have := HR3.out; rw [HMc.out] at this; exact this
          go_upto_region 14 with fail
          have k0 := (HW.out.2.1.cell 0 _ rfl).1
          have k1 := (HW.out.2.1.cell 1 _ rfl).1
          have k2 := (HW.out.2.1.cell 2 _ rfl).1
          have v0 := HW.out.1.z.cell 0 _ rfl
          have v1 := HW.out.1.z.cell 1 _ rfl
          have v2 := HW.out.1.z.cell 2 _ rfl
          have v3 := HW.out.1.z.cell 3 _ rfl
          have v4 := HW.out.1.z.cell 4 _ rfl
          have v5 := HW.out.1.z.cell 5 _ rfl
          obtain ⟨fz, bz⟩ := HW.out.1.told (.int .i64 6) (.int .i64 nd) (.string nm) (.int .i64 k) (.int .i64 n) (.string s)
          have HZ : Hid (Below w.heap.size w _) := bz
          have p0 := (fz.cell 0 _ rfl).1
          have p1 := (fz.cell 1 _ rfl).1
          have p2 := (fz.cell 2 _ rfl).1
          have p3 := (fz.cell 3 _ rfl).1
          have p4 := (fz.cell 4 _ rfl).1
          have p5 := (fz.cell 5 _ rfl).1
          clear fz bz
          go_wp2
          exact bodyPost_ret (v := evV (6, nd, nm) k n s) (by simp [results, Try.results5, go_sem, p0, p1, p2, p3, p4, p5, evV]) rfl ⟨by rw [← HE.out], HZ.out⟩
        | false =>
          have HE : Hid (noV = R) := by have := HR3.out; rw [HMc.out] at this; exact this
          go_upto_region 13 with fail
          have hz : Yb w W1 hk true k n s [.int .i64 0, .int .i64 0, .string e0, .int .i64 0, .int .i64 0, .string e0] := HW.out.1
          obtain ⟨fz, bz⟩ := HBAD.out W1 hz
          have HZ : Hid (Below w.heap.size w _) := bz
          have p0 := (fz.cell 0 _ rfl).1
          have p1 := (fz.cell 1 _ rfl).1
          have p2 := (fz.cell 2 _ rfl).1
          have p3 := (fz.cell 3 _ rfl).1
          have p4 := (fz.cell 4 _ rfl).1
          have p5 := (fz.cell 5 _ rfl).1
          have v0 := hz.z.cell 0 _ rfl
          have v1 := hz.z.cell 1 _ rfl
          have v2 := hz.z.cell 2 _ rfl
          have v3 := hz.z.cell 3 _ rfl
          have v4 := hz.z.cell 4 _ rfl
          have v5 := hz.z.cell 5 _ rfl
          clear hz fz bz
          go_wp2
          exact bodyPost_ret (v := noV) (by simp [results, Try.results5, go_sem, p0, p1, p2, p3, p4, p5, noV]) rfl ⟨by rw [← HE.out], HZ.out⟩
  have e6 : (kd == 6) = false := by rw [beq_eq_false_iff_ne]; exact h6
  have e7 : (kd == 7) = false := by rw [beq_eq_false_iff_ne]; exact h7
  have e8 : (kd == 8) = false := by rw [beq_eq_false_iff_ne]; exact h8
  cases has with
  | false =>
    have x1 := (HV.out.1.y.cell 1 _ rfl).1
    have HR3 : Hid ((if mcS false k n s then evV (kd, nd, nm) k n s else noV) = R) := by
      have := HR2.out
      simp only at this
      rw [show fitS kd false = true by unfold fitS; rw [if_neg (by omega), if_neg (by omega), if_pos ⟨by omega, by omega⟩]; rfl, Bool.true_and] at this
      exact this
    go_upto_region 11 with fail
    obtain ⟨V2, hV2⟩ : ∃ V2, V2 = V.alloc (.cells #[.int .i64 0, .int .i64 0, .string e0] 31) := ⟨_, rfl⟩
    rw [← hV2]
    have b2 : Below V.heap.size V V2 := by rw [hV2]; exact (Below.refl _ V).alloc (Nat.le_refl _) _
    have f2 : Full V2 V.heap.size 31 [.int .i64 0, .int .i64 0, .string e0] := by rw [hV2]; exact Full.new V _ _
    have HV2 : Hid (Yb w V2 hk false k n s [.int .i64 0, .int .i64 0, .string e0, .int .i64 0, .int .i64 0, .string e0] ∧ Full V2 b6 28 [.int .i64 kd, .int .i64 nd, .string nm] ∧ Full V2 V.heap.size 31 [.int .i64 0, .int .i64 0, .string e0]) := ⟨HV.out.1.next b2, HV.out.2.next b2, f2⟩
    have cV := rvalid_any k n s V2 hs
    obtain ⟨O, HO⟩ : ∃ O, Hid (okV k n s = O) := ⟨_, (rfl : okV k n s = _)⟩
    rw [HO.out] at cV
    have y2 := (HV2.out.1.y.cell 2 _ rfl).1
    have y3 := (HV2.out.1.y.cell 3 _ rfl).1
    have y4 := (HV2.out.1.y.cell 4 _ rfl).1
    clear hV2 b2 f2 k0
    generalize V.heap.size = b9 at *
    go_wp2_with fail
    refine cV.mono ?_
    rintro e W1 ⟨rfl, bW⟩
    have HW : Hid (Yb w W1 hk false k n s [.int .i64 0, .int .i64 0, .string e0, .int .i64 0, .int .i64 0, .string e0] ∧ Full W1 b6 28 [.int .i64 kd, .int .i64 nd, .string nm] ∧ Full W1 b9 31 [.int .i64 0, .int .i64 0, .string e0]) := ⟨HV2.out.1.next bW, HV2.out.2.1.next bW, HV2.out.2.2.next bW⟩
    clear cV bW y2 y3 y4 HV2
    have y1 := (HW.out.1.y.cell 1 _ rfl).1
    have y2 := (HW.out.1.y.cell 2 _ rfl).1
    have y3 := (HW.out.1.y.cell 3 _ rfl).1
    have y4 := (HW.out.1.y.cell 4 _ rfl).1
    have n0 := (HW.out.2.2.cell 0 _ rfl).1
    have n1 := (HW.out.2.2.cell 1 _ rfl).1
    have n2 := (HW.out.2.2.cell 2 _ rfl).1
    have nq := neqV k n s
    obtain ⟨E, hE⟩ : ∃ E, ((k == 0 && n == 0) && s.toList == []) = E := ⟨_, rfl⟩
    rw [hE] at nq
    have HMc : Hid (mcS false k n s = E) := hE
    clear hE
    cases E with
    | true =>
      have HE : Hid (evV (kd, nd, nm) k n s = R) := by have := HR3.out; rw [HMc.out] at this; exact this
      go_upto_region 14 with fail
      have k0 := (HW.out.2.1.cell 0 _ rfl).1
      have k1 := (HW.out.2.1.cell 1 _ rfl).1
      have k2 := (HW.out.2.1.cell 2 _ rfl).1
      have v0 := HW.out.1.z.cell 0 _ rfl
      have v1 := HW.out.1.z.cell 1 _ rfl
      have v2 := HW.out.1.z.cell 2 _ rfl
      have v3 := HW.out.1.z.cell 3 _ rfl
      have v4 := HW.out.1.z.cell 4 _ rfl
      have v5 := HW.out.1.z.cell 5 _ rfl
      obtain ⟨fz, bz⟩ := HW.out.1.told (.int .i64 kd) (.int .i64 nd) (.string nm) (.int .i64 k) (.int .i64 n) (.string s)
      have HZ : Hid (Below w.heap.size w _) := bz
      have p0 := (fz.cell 0 _ rfl).1
      have p1 := (fz.cell 1 _ rfl).1
      have p2 := (fz.cell 2 _ rfl).1
      have p3 := (fz.cell 3 _ rfl).1
      have p4 := (fz.cell 4 _ rfl).1
      have p5 := (fz.cell 5 _ rfl).1
      clear fz bz
      go_wp2
      exact bodyPost_ret (v := evV (kd, nd, nm) k n s) (by simp [results, Try.results5, go_sem, p0, p1, p2, p3, p4, p5, evV]) rfl ⟨by rw [← HE.out], HZ.out⟩
    | false =>
      have HE : Hid (noV = R) := by have := HR3.out; rw [HMc.out] at this; exact this
      go_upto_region 13 with fail
      have hz : Yb w W1 hk false k n s [.int .i64 0, .int .i64 0, .string e0, .int .i64 0, .int .i64 0, .string e0] := HW.out.1
      obtain ⟨fz, bz⟩ := HBAD.out W1 hz
      have HZ : Hid (Below w.heap.size w _) := bz
      have p0 := (fz.cell 0 _ rfl).1
      have p1 := (fz.cell 1 _ rfl).1
      have p2 := (fz.cell 2 _ rfl).1
      have p3 := (fz.cell 3 _ rfl).1
      have p4 := (fz.cell 4 _ rfl).1
      have p5 := (fz.cell 5 _ rfl).1
      have v0 := hz.z.cell 0 _ rfl
      have v1 := hz.z.cell 1 _ rfl
      have v2 := hz.z.cell 2 _ rfl
      have v3 := hz.z.cell 3 _ rfl
      have v4 := hz.z.cell 4 _ rfl
      have v5 := hz.z.cell 5 _ rfl
      clear hz fz bz
      go_wp2
      exact bodyPost_ret (v := noV) (by simp [results, Try.results5, go_sem, p0, p1, p2, p3, p4, p5, noV]) rfl ⟨by rw [← HE.out], HZ.out⟩
  | true =>
    have HE : Hid (noV = R) := by have := HR2.out; simp only at this; rw [show fitS kd true = false by unfold fitS; rw [if_neg (by omega), if_neg (by omega), if_pos ⟨by omega, by omega⟩]; rfl, Bool.false_and] at this; exact this
    have x1 := (HV.out.1.y.cell 1 _ rfl).1
    go_upto_region 9 with fail
    have hz : Yb w V hk true k n s [.int .i64 0, .int .i64 0, .string e0, .int .i64 0, .int .i64 0, .string e0] := HV.out.1
    obtain ⟨fz, bz⟩ := HBAD.out V hz
    have HZ : Hid (Below w.heap.size w _) := bz
    have p0 := (fz.cell 0 _ rfl).1
    have p1 := (fz.cell 1 _ rfl).1
    have p2 := (fz.cell 2 _ rfl).1
    have p3 := (fz.cell 3 _ rfl).1
    have p4 := (fz.cell 4 _ rfl).1
    have p5 := (fz.cell 5 _ rfl).1
    have v0 := hz.z.cell 0 _ rfl
    have v1 := hz.z.cell 1 _ rfl
    have v2 := hz.z.cell 2 _ rfl
    have v3 := hz.z.cell 3 _ rfl
    have v4 := hz.z.cell 4 _ rfl
    have v5 := hz.z.cell 5 _ rfl
    clear hz fz bz
    go_wp2
    exact bodyPost_ret (v := noV) (by simp [results, Try.results5, go_sem, p0, p1, p2, p3, p4, p5, noV]) rfl ⟨by rw [← HE.out], HZ.out⟩
end
end Go.Proofs.Ytaeigpfcfodmdaa
