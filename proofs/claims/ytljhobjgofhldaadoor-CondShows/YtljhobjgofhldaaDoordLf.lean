import Derived.Test.YtljhobjgofhldaaDoordSw
namespace Go.Proofs.YtljhobjgofhldaaDoor
open Go.RowKit

theorem neSh (a b : ByteArray) (c d e f : Int) (s : ByteArray) : ∀ w : World, (binOp BinOp.neq 48 (.agg #[.string a, .string b, .int .i64 c, .int .i64 d, .int .i64 e, .int .i64 f, .string s]) (.agg #[.string a, .string b, .int .i64 c, .int .i64 d, .int .i64 e, .int .i64 f, .string s])).run Tryd.prog w = .ok (.bool false) w := by
  intro w
  simp [go_sem]
theorem neVl (a b : Int) (s : ByteArray) : ∀ w : World, (binOp BinOp.neq 26 (.agg #[.int .i64 a, .int .i64 b, .string s]) (.agg #[.int .i64 a, .int .i64 b, .string s])).run Tryd.prog w = .ok (.bool false) w := by
  intro w
  simp [go_sem]
theorem Full.thr {W : World} {g : Nat} {L : List V} {r : List Value} (h : Full W g 26 (L.flatMap vc ++ r)) (j : Nat) (hj : j < L.length) : W.cell? ⟨g, j * 3, none⟩ = some (.int .i64 L[j].1) ∧ W.cell? ⟨g, j * 3 + 1, none⟩ = some (.int .i64 L[j].2.1) ∧ W.cell? ⟨g, j * 3 + 2, none⟩ = some (.string L[j].2.2) := by
  have k : ∀ t v, t < 3 → (vc L[j])[t]? = some v → W.cell? ⟨g, j * 3 + t, none⟩ = some v := fun t v ht hv => by
    refine (h.cell (j * 3 + t) v ?_).1
    rw [List.getElem?_append_left (by rw [vc_len]; omega), flat_at vc 3 (fun _ => rfl) L j t hj ht]
    exact hv
  exact ⟨k 0 _ (by omega) rfl, k 1 _ (by omega) rfl, k 2 _ (by omega) rfl⟩
set_option maxRecDepth 100000 in
set_option maxHeartbeats 8000000 in
theorem left_any {w : World} {tx s : ByteArray} {vq aq : Option Addr} {vcp acp gv g h B : Nat} {k n dp : Int} {Vs : List Sw} {Ls : List (List V)} {Gs : List Nat} (hV : ShAt w w.heap.size vq Vs) (hA : ArrAt w w.heap.size aq Ls) (fV : Full w gv 48 (Vs.flatMap sc ++ sc mkS)) (fA : LsW w B g Gs h Ls)
    (b0 : Vs.length * 80 ≤ 140737488351232) (b1 : Ls.length * 24 ≤ 140737488351232) (b2 : ∀ L ∈ Ls, L.length * 32 ≤ 140737488351232) :
    Calls Tryd.prog 7 #[.agg #[.string tx, .slice vq Vs.length vcp, .slice aq Ls.length acp, .int .i64 k, .int .i64 n, .string s, .int .i64 dp], .slice (some ⟨gv, 0, none⟩) Vs.length (Vs.length + 1), .slice (some ⟨g, 0, none⟩) Ls.length (Ls.length + 1)] w fun e w' => e = .returned (.bool true) ∧ Below w.heap.size w w' := by
  have upV := up_run Tryd.underlying22 sz_Sh ⟨gv, 0, none⟩ Vs.length (Vs.length + 1) (Vs.length + 1) (by omega)
  have upA := up_run Tryd.underlying23 sz_L ⟨g, 0, none⟩ Ls.length (Ls.length + 1) (Ls.length + 1) (by omega)
  rw [show ((Vs.length + 1 : Nat) : Int) = (Vs.length : Int) + 1 from rfl] at upV
  rw [show ((Ls.length + 1 : Nat) : Int) = (Ls.length : Int) + 1 from rfl] at upA
  obtain ⟨X, hX⟩ : ∃ X, w.alloc (.cells #[.string tx, .slice vq Vs.length vcp, .slice aq Ls.length acp, .int .i64 k, .int .i64 n, .string s, .int .i64 dp] 28) = X := ⟨_, rfl⟩
  have nb : Below w.heap.size w X := by rw [← hX]; exact (Below.refl _ w).alloc (Nat.le_refl _) _
  have fX : Full X w.heap.size 28 [.string tx, .slice vq Vs.length vcp, .slice aq Ls.length acp, .int .i64 k, .int .i64 n, .string s, .int .i64 dp] := by rw [← hX]; exact Full.new w _ _
  have HB : Hid (Below w.heap.size w X) := nb
  have HX : Hid (∀ Y, Below X.heap.size X Y → Y.cell? ⟨w.heap.size, 1, none⟩ = some (.slice vq Vs.length vcp) ∧ Y.cell? ⟨w.heap.size, 2, none⟩ = some (.slice aq Ls.length acp)) := fun Y hb => ⟨((fX.next hb).cell 1 _ rfl).1, ((fX.next hb).cell 2 _ rfl).1⟩
  have HV : Hid (∀ Y, Below X.heap.size X Y → ∀ j (hj : j < Vs.length), ∃ gs os, vq = some ⟨gs, os, none⟩ ∧ Sev Y gs (os + j * 7) Vs[j] ∧ Sev Y gv (j * 7) Vs[j]) := fun Y hb j hj => by
    have hwY : Below w.heap.size w Y := nb.trans (hb.mono nb.size)
    obtain ⟨gs, os, e1, e2, e3⟩ := hV j hj
    exact ⟨gs, os, e1, e3.same (hwY.block gs e2), (fV.next hwY).sev j hj⟩
  have HVm : Hid (∀ Y, Below X.heap.size X Y → Y.cell? ⟨gv, Vs.length * 7, none⟩ = some (.string ⟨#[115, 112, 97, 114, 101]⟩)) := fun Y hb => by
    have hwY : Below w.heap.size w Y := nb.trans (hb.mono nb.size)
    refine ((fV.next hwY).cell (Vs.length * 7) _ ?_).1
    rw [List.getElem?_append_right (by rw [sc_len]; omega), sc_len, Nat.sub_self]
    rfl
  have HAm : Hid (∀ Y, Below X.heap.size X Y → Y.cell? ⟨g, Ls.length, none⟩ = some (.slice (some ⟨h, 0, none⟩) 1 1) ∧ Y.cell? ⟨h, 0, none⟩ = some (.int .i64 78)) := fun Y hb => by
    have hwY : Below w.heap.size w Y := nb.trans (hb.mono nb.size)
    refine ⟨((fA.out.next hwY).cell Ls.length _ ?_).1, ((fA.last.next hwY).cell 0 _ rfl).1⟩
    rw [List.getElem?_append_right (by rw [zipL_len fA.len]; omega), zipL_len fA.len, Nat.sub_self]
    rfl
  have HA : Hid (∀ i (hi : i < Ls.length), ∃ ga oa p c G, aq = some ⟨ga, oa, none⟩ ∧ ∀ Y, Below X.heap.size X Y → Y.cell? ⟨ga, oa + i, none⟩ = some (.slice p Ls[i].length c) ∧ Y.cell? ⟨g, i, none⟩ = some (.slice (some ⟨G, 0, none⟩) Ls[i].length (Ls[i].length + 1)) ∧ Y.cell? ⟨G, Ls[i].length * 3, none⟩ = some (.int .i64 77) ∧ ∀ j (hj : j < Ls[i].length), ∃ b r, p = some ⟨b, r, none⟩ ∧ (Y.cell? ⟨b, r + j * 3, none⟩ = some (.int .i64 Ls[i][j].1) ∧ Y.cell? ⟨b, r + j * 3 + 1, none⟩ = some (.int .i64 Ls[i][j].2.1) ∧ Y.cell? ⟨b, r + j * 3 + 2, none⟩ = some (.string Ls[i][j].2.2)) ∧ Y.cell? ⟨G, j * 3, none⟩ = some (.int .i64 Ls[i][j].1) ∧ Y.cell? ⟨G, j * 3 + 1, none⟩ = some (.int .i64 Ls[i][j].2.1) ∧ Y.cell? ⟨G, j * 3 + 2, none⟩ = some (.string Ls[i][j].2.2)) := fun i hi => by
    have hg : i < Gs.length := by rw [fA.len]; exact hi
    obtain ⟨ga, oa, p, c, e1, e2, e3, e4, e5⟩ := hA i hi
    refine ⟨ga, oa, p, c, Gs[i], e1, fun Y hb => ?_⟩
    have hwY : Below w.heap.size w Y := nb.trans (hb.mono nb.size)
    refine ⟨(hwY.cell (p := ⟨ga, oa + i, none⟩) e2).trans e3, ((fA.out.next hwY).cell i _ ?_).1, (((fA.each i hg hi).next hwY).cell (Ls[i].length * 3) _ ?_).1, fun j hj => ?_⟩
    · rw [List.getElem?_append_left (by rw [zipL_len fA.len]; exact hi), zipL_at hi hg]
    · rw [List.getElem?_append_right (by rw [vc_len]; omega), vc_len, Nat.sub_self]
      rfl
    · obtain ⟨b', r', k1, k2, k3, k4, k5, k6⟩ := e5 j hj
      refine ⟨b', r', k1, ?_, ((fA.each i hg hi).next hwY).thr j hj⟩
      rw [Nat.mul_comm j 3]
      exact ⟨(hwY.cell (p := ⟨b', r' + 3 * j, none⟩) k2).trans k4, (hwY.cell (p := ⟨b', r' + 3 * j + 1, none⟩) k2).trans k5, (hwY.cell (p := ⟨b', r' + 3 * j + 2, none⟩) k2).trans k6⟩
  have HLb : Hid (∀ L ∈ Ls, L.length * 32 ≤ 140737488351232) := b2
  have v0 : (0 : Int) ≤ (Vs.length : Int) := by omega
  have v1 : (Vs.length : Int) < (Vs.length : Int) + 1 := by omega
  have v2 : (Vs.length : Int) ≤ 17592186043904 := by omega
  have a0 : (0 : Int) ≤ (Ls.length : Int) := by omega
  have a1 : (Ls.length : Int) < (Ls.length : Int) + 1 := by omega
  have a2 : (Ls.length : Int) ≤ 17592186043904 := by omega
  obtain ⟨x1, x2⟩ := HX.out X (Below.refl _ _)
  clear hV hA fV fA b0 b1 b2 nb fX
  go_enter Tryd.func7, Tryd.ntmps7
  go_wp2_with fail
  clear x1 x2
  go_loopw [8] (fun i wr => ∃ j : Nat, j ≤ Vs.length ∧ i = .int .i64 (j : Int) ∧ Hid (Below X.heap.size X wr)) (fun i _ => Vs.length - (intOf i).toNat)
  case atStart => exact ⟨0, Nat.zero_le _, rfl, Below.refl _ _⟩
  case round =>
    obtain ⟨j, hj, rfl, hI⟩ := hrel
    have j0 : (0 : Int) ≤ (j : Int) := by omega
    obtain ⟨x1, x2⟩ := HX.out wr hI.out
    by_cases hlt : j < Vs.length
    case pos =>
      obtain ⟨gs, os, rfl, ⟨d0, d1, d2, d3, d4, d5, d6⟩, ⟨e0', e1, e2, e3, e4, e5, e6⟩⟩ := HV.out wr hI.out j hlt
      generalize Vs[j] = x at *
      obtain ⟨y0, y1, y2, y3, y4, y5, y6⟩ := x
      simp only at d0 d1 d2 d3 d4 d5 d6 e0' e1 e2 e3 e4 e5 e6
      have ne := neSh y0 y1 y2 y3 y4 y5 y6
      have j1 : (j : Int) < (Vs.length : Int) := by omega
      have j2 : (j : Int) < (Vs.length : Int) + 1 := by omega
      have HK : Hid (∀ Y, Below wr.heap.size wr Y → Below X.heap.size X Y) := fun Y hb => hI.out.trans (hb.mono hI.out.size)
      clear hI HX HV HVm HAm HA HLb hX
      go_wp2_with fail
      have q0 := cell_regrown d0
      have q1 := cell_regrown d1
      have q2 := cell_regrown d2
      have q3 := cell_regrown d3
      have q4 := cell_regrown d4
      have q5 := cell_regrown d5
      have q6 := cell_regrown d6
      have r0 := cell_regrown e0'
      have r1 := cell_regrown e1
      have r2 := cell_regrown e2
      have r3 := cell_regrown e3
      have r4 := cell_regrown e4
      have r5 := cell_regrown e5
      have r6 := cell_regrown e6
      have s1 := cell_regrown x1
      refine wp_region_quiet_below (by kernel_rfl) (by kernel_rfl) ?_
      repeat (first | go_big_quiet_step (first | fail) | quiet_step (first | fail))
      refine wpQuiet_nil ?_
      intro _ hw'
      obtain ⟨⟨dq, osq⟩, hw''⟩ := hw'
      subst hw''
      have hY := below_regrown wr dq osq
      first | (change Exit.then _ _ Exit.normal _ (Sort.grow (redrawn wr dq) osq)) | skip
      generalize Sort.grow (redrawn wr dq) osq = Y at hY ⊢
      clear q0 q1 q2 q3 q4 q5 q6 r0 r1 r2 r3 r4 r5 r6 s1 d0 d1 d2 d3 d4 d5 d6 e0' e1 e2 e3 e4 e5 e6 x1 x2
      have HY := HK.out Y hY
      go_wp2_with fail
      exact ⟨⟨j + 1, by omega, by go_num, HY⟩, by simp [intOf]; omega⟩
    obtain rfl : j = Vs.length := by omega
    have p1 : ¬ (Vs.length : Int) < (Vs.length : Int) := by omega
    have m0 := HVm.out wr hI.out
    obtain ⟨m1, m2⟩ := HAm.out wr hI.out
    have HI : Hid (Below X.heap.size X wr) := hI
    clear hX HV HVm HAm hI
    go_wp2_with fail
    clear m0 m1 m2 x1 x2 p1 upV upA
    obtain ⟨wo, rfl⟩ : ∃ wo, wo = wr := ⟨wr, rfl⟩
    go_loopw [10] (fun i wr => ∃ j : Nat, j ≤ Ls.length ∧ i = .int .i64 (j : Int) ∧ Hid (Below X.heap.size X wr)) (fun i _ => Ls.length - (intOf i).toNat)
    case atStart => exact ⟨0, Nat.zero_le _, rfl, HI⟩
    case round =>
      obtain ⟨i, hi, rfl, hI⟩ := hrel
      clear HI
      have i0 : (0 : Int) ≤ (i : Int) := by omega
      obtain ⟨x1, x2⟩ := HX.out wr hI.out
      by_cases hlt : i < Ls.length
      case neg =>
        obtain rfl : i = Ls.length := by omega
        have p1 : ¬ (Ls.length : Int) < (Ls.length : Int) := by omega
        have HF : Hid (Below w.heap.size w wr) := HB.out.trans (hI.out.mono HB.out.size)
        clear hI HX HA HLb HB
        go_wp2_with fail
        first | (change bodyPost Tryd.prog Tryd.f7 _ Exit.ret _ _) | (simp only [Exit.noGoto])
        go_ret
        exact ⟨rfl, HF.out⟩
      obtain ⟨ga, oa, p, c, G, rfl, hF⟩ := HA.out i hlt
      have hL := HLb.out Ls[i] (List.getElem_mem hlt)
      have HLT : Hid (i < Ls.length) := hlt
      generalize Ls[i] = L at *
      have HFF : Hid (∀ Y, Below X.heap.size X Y → Y.cell? ⟨ga, oa + i, none⟩ = some (.slice p L.length c) ∧ Y.cell? ⟨g, i, none⟩ = some (.slice (some ⟨G, 0, none⟩) L.length (L.length + 1)) ∧ Y.cell? ⟨G, L.length * 3, none⟩ = some (.int .i64 77) ∧ ∀ j (hj : j < L.length), ∃ b r, p = some ⟨b, r, none⟩ ∧ (Y.cell? ⟨b, r + j * 3, none⟩ = some (.int .i64 L[j].1) ∧ Y.cell? ⟨b, r + j * 3 + 1, none⟩ = some (.int .i64 L[j].2.1) ∧ Y.cell? ⟨b, r + j * 3 + 2, none⟩ = some (.string L[j].2.2)) ∧ Y.cell? ⟨G, j * 3, none⟩ = some (.int .i64 L[j].1) ∧ Y.cell? ⟨G, j * 3 + 1, none⟩ = some (.int .i64 L[j].2.1) ∧ Y.cell? ⟨G, j * 3 + 2, none⟩ = some (.string L[j].2.2)) := hF
      obtain ⟨f1, f2, -, -⟩ := hF wr hI.out
      have upL := up_run Tryd.underlying35 sz_V ⟨G, 0, none⟩ L.length (L.length + 1) (L.length + 1) (by omega)
      rw [show ((L.length + 1 : Nat) : Int) = (L.length : Int) + 1 from rfl] at upL
      have l0 : (0 : Int) ≤ (L.length : Int) := by omega
      have l1 : (L.length : Int) < (L.length : Int) + 1 := by omega
      have l2 : (L.length : Int) ≤ 17592186043904 := by omega
      have i1 : (i : Int) < (Ls.length : Int) := by omega
      have i2 : (i : Int) < (Ls.length : Int) + 1 := by omega
      have hne : (((L.length : Int) != (L.length : Int)) = false) := by simp
      have HI : Hid (Below X.heap.size X wr) := hI
      clear hF hL hI HLb HA hlt hi
      go_wp2_with fail
      clear f1 f2 x1 x2 upL hne
      obtain ⟨wp, rfl⟩ : ∃ wp, wp = wr := ⟨wr, rfl⟩
      go_loopw [13] (fun i wr => ∃ j : Nat, j ≤ L.length ∧ i = .int .i64 (j : Int) ∧ Hid (Below X.heap.size X wr)) (fun i _ => L.length - (intOf i).toNat)
      case atStart => exact ⟨0, Nat.zero_le _, rfl, HI⟩
      case round =>
        obtain ⟨j, hj, rfl, hI⟩ := hrel
        clear HI
        have j0 : (0 : Int) ≤ (j : Int) := by omega
        obtain ⟨x1, x2⟩ := HX.out wr hI.out
        obtain ⟨f1, -, f3, f4⟩ := HFF.out wr hI.out
        by_cases hlt : j < L.length
        case neg =>
          obtain rfl : j = L.length := by omega
          have p1 : ¬ (L.length : Int) < (L.length : Int) := by omega
          clear f4
          go_wp2_with fail
          have := HLT.out
          exact ⟨⟨i + 1, by omega, by go_num, hI⟩, by simp [intOf]; omega⟩
        obtain ⟨b, r, rfl, ⟨d0, d1, d2⟩, e0', e1, e2⟩ := f4 j hlt
        generalize L[j] = x at *
        obtain ⟨y0, y1, y2⟩ := x
        simp only at d0 d1 d2 e0' e1 e2
        have ne := neVl y0 y1 y2
        have j1 : (j : Int) < (L.length : Int) := by omega
        have j2 : (j : Int) < (L.length : Int) + 1 := by omega
        have HK : Hid (∀ Y, Below wr.heap.size wr Y → Below X.heap.size X Y) := fun Y hb => hI.out.trans (hb.mono hI.out.size)
        clear hI HX f3 f4 HFF
        go_wp2_with fail
        have q0 := cell_regrown d0
        have q1 := cell_regrown d1
        have q2 := cell_regrown d2
        have r0 := cell_regrown e0'
        have r1 := cell_regrown e1
        have r2 := cell_regrown e2
        have s2 := cell_regrown x2
        have s3 := cell_regrown f1
        refine wp_region_quiet_below (by kernel_rfl) (by kernel_rfl) ?_
        repeat (first | go_big_quiet_step (first | fail) | quiet_step (first | fail))
        refine wpQuiet_nil ?_
        intro _ hw'
        obtain ⟨⟨dq, osq⟩, hw''⟩ := hw'
        subst hw''
        have hY := below_regrown wr dq osq
        first | (change Exit.then _ _ Exit.normal _ (Sort.grow (redrawn wr dq) osq)) | skip
        generalize Sort.grow (redrawn wr dq) osq = Y at hY ⊢
        clear q0 q1 q2 r0 r1 r2 s2 s3 d0 d1 d2 e0' e1 e2 x1 x2 f1
        have HY := HK.out Y hY
        go_wp2_with fail
        exact ⟨⟨j + 1, by omega, by go_num, HY⟩, by simp [intOf]; omega⟩
end Go.Proofs.YtljhobjgofhldaaDoor
