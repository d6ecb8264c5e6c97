import Derived.Test.YtichbejmelkjeaaDoorXB
import Derived.Test.YtichbejmelkjeaaDoorXC
import Derived.Lib.QuietBelow
namespace Go.Proofs.YtichbejmelkjeaaDoor
open Go.RowKit

theorem Full.cell10 {W : World} {B : Nat} {t : TypeId} {x0 x1 x2 x3 x4 x5 x6 x7 x8 x9 : Value} (h : Full W B t [x0, x1, x2, x3, x4, x5, x6, x7, x8, x9]) : W.cell? ⟨B, 0, none⟩ = some x0 ∧ W.cell? ⟨B, 1, none⟩ = some x1 ∧ W.cell? ⟨B, 2, none⟩ = some x2 ∧ W.cell? ⟨B, 3, none⟩ = some x3 ∧ W.cell? ⟨B, 4, none⟩ = some x4 ∧ W.cell? ⟨B, 5, none⟩ = some x5 ∧ W.cell? ⟨B, 6, none⟩ = some x6 ∧ W.cell? ⟨B, 7, none⟩ = some x7 ∧ W.cell? ⟨B, 8, none⟩ = some x8 ∧ W.cell? ⟨B, 9, none⟩ = some x9 :=
  ⟨(h.cell 0 _ rfl).1, (h.cell 1 _ rfl).1, (h.cell 2 _ rfl).1, (h.cell 3 _ rfl).1, (h.cell 4 _ rfl).1, (h.cell 5 _ rfl).1, (h.cell 6 _ rfl).1, (h.cell 7 _ rfl).1, (h.cell 8 _ rfl).1, (h.cell 9 _ rfl).1⟩
theorem response_fix (st s1 s2 s3 : Int) (q : Option Addr) (cap : Nat) (L : List (List UInt8)) (w : World) (hst : -9223372036854775808 ≤ st ∧ st ≤ 9223372036854775807) (hR : Row w w.heap.size q L.length (L.map sV)) (hT : Tab10 w) (hle : L.length ≤ cap) (hM : (rsS st L).length ≤ 999999000) (hml : ∀ x ∈ L, x.length ≤ 1000000000) :
    Calls Tryd.prog 5 #[.agg #[.int .i64 st, .int .i64 s1, .int .i64 s2, .int .i64 s3, .slice q L.length cap]] w fun e w' => e = .returned (.string ⟨(rsS st L).toArray⟩) ∧ Below w.heap.size w w' := by
  refine (response_any st s1 s2 s3 q cap L w hst hR hT hle hM hml).mono ?_
  rintro e w' ⟨y, rfl, hq⟩
  have : y = ⟨(rsS st L).toArray⟩ := ByteArray.ext (Array.ext' (by rw [hq.out.1]))
  rw [this]
  exact ⟨rfl, hq.out.2⟩
theorem take_eq_step {A B : List (List UInt8)} {i : Nat} {a b : List UInt8} (h : A.take i = B.take i) (ha : A[i]? = some a) (hb : B[i]? = some b) : A.take (i + 1) = B.take (i + 1) ↔ a = b := by
  rw [List.take_add_one, List.take_add_one, ha, hb, h]
  simp

set_option maxRecDepth 100000 in
set_option maxHeartbeats 8000000 in
theorem apart_any (st a1 a2 a3 su b1 b2 b3 : Int) (q r : Option Addr) (cap dap : Nat) (L M : List (List UInt8)) (w : World) (hst : -9223372036854775808 ≤ st ∧ st ≤ 9223372036854775807) (hsu : -9223372036854775808 ≤ su ∧ su ≤ 9223372036854775807) (hL : Row w w.heap.size q L.length (L.map sV)) (hM : Row w w.heap.size r M.length (M.map sV)) (hT : Tb w) (hle : L.length ≤ cap) (hme : M.length ≤ dap)
    (hLn : (rsS st L).length ≤ 999999000) (hMn : (rsS su M).length ≤ 999999000) (hLm : ∀ x ∈ L, x.length ≤ 1000000000) (hMm : ∀ x ∈ M, x.length ≤ 1000000000) :
    Calls Tryd.prog 3 #[.agg #[.int .i64 st, .int .i64 a1, .int .i64 a2, .int .i64 a3, .slice q L.length cap, .int .i64 su, .int .i64 b1, .int .i64 b2, .int .i64 b3, .slice r M.length dap]] w fun e w' => e = .returned (.bool true) ∧ Below w.heap.size w w' := by
  have hnb : L.length ≤ 1000000000 := by
    have h1 := len_flat L
    unfold rsS at hLn
    rw [List.length_append] at hLn
    omega
  obtain ⟨n, hn⟩ : ∃ n, L.length = n := ⟨_, rfl⟩
  obtain ⟨m, hm⟩ : ∃ m, M.length = m := ⟨_, rfl⟩
  have HR0 : Hid (∀ W, Row W W.heap.size q n (L.map sV) → Tb W → Calls Tryd.prog 5 #[.agg #[.int .i64 st, .int .i64 a1, .int .i64 a2, .int .i64 a3, .slice q n cap]] W fun e w' => e = .returned (.string ⟨(rsS st L).toArray⟩) ∧ Below W.heap.size W w') := fun W h1 h2 => by
    rw [← hn] at h1 ⊢; exact response_fix st a1 a2 a3 q cap L W hst h1 h2.p10 hle hLn hLm
  have HR1 : Hid (∀ W, Row W W.heap.size r m (M.map sV) → Tb W → Calls Tryd.prog 5 #[.agg #[.int .i64 su, .int .i64 b1, .int .i64 b2, .int .i64 b3, .slice r m dap]] W fun e w' => e = .returned (.string ⟨(rsS su M).toArray⟩) ∧ Below W.heap.size W w') := fun W h1 h2 => by
    rw [← hm] at h1 ⊢; exact response_fix su b1 b2 b3 r dap M W hsu h1 h2.p10 hme hMn hMm
  rw [hn] at hL hnb ⊢
  rw [hm] at hM ⊢
  obtain ⟨X1, hX1⟩ : ∃ X1, w.alloc (.cells #[.int .i64 st, .int .i64 a1, .int .i64 a2, .int .i64 a3, .slice q n cap, .int .i64 su, .int .i64 b1, .int .i64 b2, .int .i64 b3, .slice r m dap] 30) = X1 := ⟨_, rfl⟩
  have b1' : Below w.heap.size w X1 := by rw [← hX1]; exact (Below.refl _ w).alloc (Nat.le_refl _) _
  have f1 : Full X1 w.heap.size 30 [.int .i64 st, .int .i64 a1, .int .i64 a2, .int .i64 a3, .slice q n cap, .int .i64 su, .int .i64 b1, .int .i64 b2, .int .i64 b3, .slice r m dap] := by rw [← hX1]; exact Full.new w _ _
  have HF : Hid (∀ W, Below X1.heap.size X1 W → Full W w.heap.size 30 [.int .i64 st, .int .i64 a1, .int .i64 a2, .int .i64 a3, .slice q n cap, .int .i64 su, .int .i64 b1, .int .i64 b2, .int .i64 b3, .slice r m dap] ∧ Below w.heap.size w W ∧ Tb W ∧ Row W w.heap.size q n (L.map sV) ∧ Row W w.heap.size r m (M.map sV)) := fun W h => by
    have hb := b1'.trans (h.mono b1'.size)
    exact ⟨f1.next h, hb, hT.next hb, hL.below hb (Nat.le_refl _), hM.below hb (Nat.le_refl _)⟩
  obtain ⟨c0, c1, c2, c3, c4, c5, c6, c7, c8, c9⟩ := f1.cell10
  have HLn : Hid (L.length = n ∧ M.length = m) := ⟨hn, hm⟩
  have HN1 : Hid (Below X1.heap.size X1 X1) := Below.refl _ _
  obtain ⟨bb, hbb⟩ : ∃ bb : Bool, decide (st = su ∧ n = m) = bb := ⟨_, rfl⟩
  have HBB : Hid (decide (st = su ∧ n = m) = bb) := hbb
  have hor : ((st == su) = true ∧ ((n : Int) == (m : Int)) = true ∧ bb = true) ∨ ((st == su) = true ∧ ((n : Int) == (m : Int)) = false ∧ ¬ n = m ∧ bb = false) ∨ ((st == su) = false ∧ bb = false) := by
    by_cases h1 : st = su
    · by_cases h2 : n = m
      · left; exact ⟨by rw [h1]; exact beq_self_eq_true _, by rw [h2]; exact beq_self_eq_true _, by rw [← hbb]; exact decide_eq_true ⟨h1, h2⟩⟩
      · right; left; exact ⟨by rw [h1]; exact beq_self_eq_true _, by rw [beq_eq_false_iff_ne]; omega, h2, by rw [← hbb]; exact decide_eq_false fun h => h2 h.2⟩
    · right; right; exact ⟨by rw [beq_eq_false_iff_ne]; exact h1, by rw [← hbb]; exact decide_eq_false fun h => h1 h.1⟩
  clear hst hsu hL hM hT hLn hMn hLm hMm b1' f1 hbb hn hm hle hme
  go_enter Tryd.func3, Tryd.ntmps3
  rcases hor with ⟨d1, d2, d3⟩ | ⟨d1, d2, d2', d3⟩ | ⟨d1, d3⟩
  all_goals
    go_upto_region 3 with fail
    go_loopw [3, 4] (fun v i wr => ∃ (k : Nat) (b : Bool), v = .bool b ∧ i = .int .i64 (k : Int) ∧ k ≤ n ∧ Hid (Below X1.heap.size X1 wr) ∧ Hid ((b = true → st = su ∧ n = m ∧ L.take k = M.take k) ∧ (b = false → ¬ (st = su ∧ L = M)))) (fun _ i _ => n - (intOf i).toNat)
    case atStart =>
      refine ⟨0, bb, by rw [d3], rfl, by omega, HN1.out, ?_, ?_⟩
      · intro h; rw [← HBB.out] at h; obtain ⟨h1, h2⟩ := of_decide_eq_true h; exact ⟨h1, h2, by simp⟩
      · rintro h ⟨h1, h2⟩; rw [← HBB.out] at h; exact of_decide_eq_false h ⟨h1, by rw [← HLn.out.1, ← HLn.out.2, h2]⟩
    case round =>
      clear HBB HN1 hX1 c0 c1 c2 c3 c4 c5 c6 c7 c8 c9 d1 d3
      obtain ⟨k, b, rfl, rfl, hk, HBx, HI⟩ := hrel
      cases b with
      | false =>
        try clear d2
        have HFin : Hid ((false = true ↔ (st = su ∧ L = M))) := ⟨(fun h => by cases h), fun h => absurd h (HI.out.2 rfl)⟩
        obtain ⟨YA, hYA⟩ : ∃ YA : ByteArray, YA = ⟨(rsS st L).toArray⟩ := ⟨_, rfl⟩
        obtain ⟨YB, hYB⟩ : ∃ YB : ByteArray, YB = ⟨(rsS su M).toArray⟩ := ⟨_, rfl⟩
        have heq : (YA.toList == YB.toList) = false := by
          rw [Lx.toL, Lx.toL, hYA, hYB, Bool.eq_iff_iff, beq_iff_eq]
          show rsS st L = rsS su M ↔ false = true
          constructor
          · intro h; exact HFin.out.2 (rs_inj h)
          · intro h; obtain ⟨h1, h2⟩ := HFin.out.1 h; rw [h1, h2]
        go_upto_region 6 with fail
        have hb1 := HBx.out
        obtain ⟨hfx, hbx, hTx, hLx, hMx⟩ := HF.out wr hb1
        obtain ⟨e0, e1, e2, e3, e4, e5, e6, e7, e8, e9⟩ := hfx.cell10
        have i0 := cell_regrown e0
        have i1 := cell_regrown e1
        have i2 := cell_regrown e2
        have i3 := cell_regrown e3
        have i4 := cell_regrown e4
        have i5 := cell_regrown e5
        have i6 := cell_regrown e6
        have i7 := cell_regrown e7
        have i8 := cell_regrown e8
        have i9 := cell_regrown e9
        have d11 : ∀ d os, Calls Tryd.prog 5 #[.agg #[.int .i64 st, .int .i64 a1, .int .i64 a2, .int .i64 a3, .slice q n cap]] (Sort.grow (redrawn wr d) os) fun e w'' => e = .returned (.string YA) ∧ ∃ p : Regrown, w'' = Sort.grow (redrawn wr p.d) p.os := fun d os => by
          have hb2 := hb1.trans ((below_regrown wr d os).mono hb1.size)
          rw [hYA]
          exact Calls.regrown_of (HR0.out _ ((HF.out _ hb2).2.2.2.1.up (HF.out _ hb2).2.1.size) (HF.out _ hb2).2.2.1)
        have d12 : ∀ d os, Calls Tryd.prog 5 #[.agg #[.int .i64 su, .int .i64 b1, .int .i64 b2, .int .i64 b3, .slice r m dap]] (Sort.grow (redrawn wr d) os) fun e w'' => e = .returned (.string YB) ∧ ∃ p : Regrown, w'' = Sort.grow (redrawn wr p.d) p.os := fun d os => by
          have hb2 := hb1.trans ((below_regrown wr d os).mono hb1.size)
          rw [hYB]
          exact Calls.regrown_of (HR1.out _ ((HF.out _ hb2).2.2.2.2.up (HF.out _ hb2).2.1.size) (HF.out _ hb2).2.2.1)
        have d13 : ∀ d os, Calls Tryd.prog 6 #[] (Sort.grow (redrawn wr d) os) fun e w'' => e = .returned (.bool true) ∧ ∃ p : Regrown, w'' = Sort.grow (redrawn wr p.d) p.os := fun d os => by
          have hb2 := hb1.trans ((below_regrown wr d os).mono hb1.size)
          exact Calls.regrown_of (lives_any _ (HF.out _ hb2).2.2.1)
        have HBw : Hid (Below w.heap.size w wr) := hbx
        clear hfx hbx hTx hLx hMx e0 e1 e2 e3 e4 e5 e6 e7 e8 e9 hYA hYB HFin hb1 HBx HR0 HR1 HF
        refine wp_region_quiet_below (by kernel_rfl) (by kernel_rfl) ?_
        repeat (first | go_big_quiet_step (first | with_reducible exact d11 _ _ | with_reducible exact d12 _ _ | with_reducible exact d13 _ _) | quiet_step (first | with_reducible exact d11 _ _ | with_reducible exact d12 _ _ | with_reducible exact d13 _ _))

        refine wpQuiet_nil ?_
        intro _ hw'
        obtain ⟨⟨dq, osq⟩, hw''⟩ := hw'
        subst hw''
        have hY := below_regrown wr dq osq
        first | (change Exit.then _ _ Exit.normal _ (Sort.grow (redrawn wr dq) osq)) | skip
        generalize Sort.grow (redrawn wr dq) osq = Y at hY ⊢
        clear d11 d12 d13
        go_wp2
        go_ret
        exact ⟨rfl, HBw.out.trans (hY.mono HBw.out.size)⟩
      | true =>
        obtain ⟨c0, c1, c2, c3, c4, c5, c6, c7, c8, c9⟩ := (HF.out wr HBx.out).1.cell10
        by_cases hkn : k = n
        · have qk : ¬ (k : Int) < (n : Int) := by omega
          have HFin : Hid ((true = true ↔ (st = su ∧ L = M))) := ⟨fun _ => by obtain ⟨h1, h2, h3⟩ := HI.out.1 rfl; rw [List.take_of_length_le (by rw [HLn.out.1, hkn]; exact Nat.le_refl _), List.take_of_length_le (by rw [HLn.out.2, hkn, h2]; exact Nat.le_refl _)] at h3; exact ⟨h1, h3⟩, fun _ => rfl⟩
          obtain ⟨YA, hYA⟩ : ∃ YA : ByteArray, YA = ⟨(rsS st L).toArray⟩ := ⟨_, rfl⟩
          obtain ⟨YB, hYB⟩ : ∃ YB : ByteArray, YB = ⟨(rsS su M).toArray⟩ := ⟨_, rfl⟩
          have heq : (YA.toList == YB.toList) = true := by
            rw [Lx.toL, Lx.toL, hYA, hYB, Bool.eq_iff_iff, beq_iff_eq]
            show rsS st L = rsS su M ↔ true = true
            constructor
            · intro h; exact HFin.out.2 (rs_inj h)
            · intro h; obtain ⟨h1, h2⟩ := HFin.out.1 h; rw [h1, h2]
          clear hkn
          go_upto_region 6 with fail
          clear c0 c1 c2 c3 c4 c5 c6 c7 c8 c9
          have hb1 := HBx.out
          obtain ⟨hfx, hbx, hTx, hLx, hMx⟩ := HF.out wr hb1
          obtain ⟨e0, e1, e2, e3, e4, e5, e6, e7, e8, e9⟩ := hfx.cell10
          have i0 := cell_regrown e0
          have i1 := cell_regrown e1
          have i2 := cell_regrown e2
          have i3 := cell_regrown e3
          have i4 := cell_regrown e4
          have i5 := cell_regrown e5
          have i6 := cell_regrown e6
          have i7 := cell_regrown e7
          have i8 := cell_regrown e8
          have i9 := cell_regrown e9
          have d11 : ∀ d os, Calls Tryd.prog 5 #[.agg #[.int .i64 st, .int .i64 a1, .int .i64 a2, .int .i64 a3, .slice q n cap]] (Sort.grow (redrawn wr d) os) fun e w'' => e = .returned (.string YA) ∧ ∃ p : Regrown, w'' = Sort.grow (redrawn wr p.d) p.os := fun d os => by
            have hb2 := hb1.trans ((below_regrown wr d os).mono hb1.size)
            rw [hYA]
            exact Calls.regrown_of (HR0.out _ ((HF.out _ hb2).2.2.2.1.up (HF.out _ hb2).2.1.size) (HF.out _ hb2).2.2.1)
          have d12 : ∀ d os, Calls Tryd.prog 5 #[.agg #[.int .i64 su, .int .i64 b1, .int .i64 b2, .int .i64 b3, .slice r m dap]] (Sort.grow (redrawn wr d) os) fun e w'' => e = .returned (.string YB) ∧ ∃ p : Regrown, w'' = Sort.grow (redrawn wr p.d) p.os := fun d os => by
            have hb2 := hb1.trans ((below_regrown wr d os).mono hb1.size)
            rw [hYB]
            exact Calls.regrown_of (HR1.out _ ((HF.out _ hb2).2.2.2.2.up (HF.out _ hb2).2.1.size) (HF.out _ hb2).2.2.1)
          have d13 : ∀ d os, Calls Tryd.prog 6 #[] (Sort.grow (redrawn wr d) os) fun e w'' => e = .returned (.bool true) ∧ ∃ p : Regrown, w'' = Sort.grow (redrawn wr p.d) p.os := fun d os => by
            have hb2 := hb1.trans ((below_regrown wr d os).mono hb1.size)
            exact Calls.regrown_of (lives_any _ (HF.out _ hb2).2.2.1)
          have HBw : Hid (Below w.heap.size w wr) := hbx
          clear hfx hbx hTx hLx hMx e0 e1 e2 e3 e4 e5 e6 e7 e8 e9 hYA hYB HFin hb1 HBx HR0 HR1 HF
          refine wp_region_quiet_below (by kernel_rfl) (by kernel_rfl) ?_
          repeat (first | go_big_quiet_step (first | with_reducible exact d11 _ _ | with_reducible exact d12 _ _ | with_reducible exact d13 _ _) | quiet_step (first | with_reducible exact d11 _ _ | with_reducible exact d12 _ _ | with_reducible exact d13 _ _))
          refine wpQuiet_nil ?_
          intro _ hw'
          obtain ⟨⟨dq, osq⟩, hw''⟩ := hw'
          subst hw''
          have hY := below_regrown wr dq osq
          first | (change Exit.then _ _ Exit.normal _ (Sort.grow (redrawn wr dq) osq)) | skip
          generalize Sort.grow (redrawn wr dq) osq = Y at hY ⊢
          clear d11 d12 d13
          go_wp2
          go_ret
          exact ⟨rfl, HBw.out.trans (hY.mono HBw.out.size)⟩
        · have hkl : k < n := by omega
          have qk : (k : Int) < (n : Int) := by omega
          have hk0 : (0 : Int) ≤ (k : Int) := by omega
          obtain ⟨h1, h2, h3⟩ := HI.out.1 rfl
          obtain ⟨x, hx⟩ : ∃ x, L[k]? = some x := ⟨L[k]'(by rw [HLn.out.1]; exact hkl), List.getElem?_eq_getElem _⟩
          obtain ⟨z, hz⟩ : ∃ z, M[k]? = some z := ⟨M[k]'(by rw [HLn.out.2]; omega), List.getElem?_eq_getElem _⟩
          obtain ⟨xb, hxb⟩ : ∃ y : ByteArray, y.data.toList = x := ⟨⟨x.toArray⟩, rfl⟩
          obtain ⟨zb, hzb⟩ : ∃ y : ByteArray, y.data.toList = z := ⟨⟨z.toArray⟩, rfl⟩
          obtain ⟨g, o, rfl, -, hrg⟩ := (HF.out wr HBx.out).2.2.2.1 (by omega)
          obtain ⟨g', o', rfl, -, hrg'⟩ := (HF.out wr HBx.out).2.2.2.2 (by omega)
          have cx : wr.cell? ⟨g, o + k, none⟩ = some (.string xb) := hrg k (.string xb) (by rw [List.getElem?_map, hx, ← hxb]; rfl)
          have cz : wr.cell? ⟨g', o' + k, none⟩ = some (.string zb) := hrg' k (.string zb) (by rw [List.getElem?_map, hz, ← hzb]; rfl)
          have qm : (k : Int) < (m : Int) := by omega
          have qm' : k < m := by omega
          obtain ⟨eb, heb⟩ : ∃ eb, (xb.toList == zb.toList) = eb := ⟨_, rfl⟩
          have hst := take_eq_step h3 hx hz
          have HN : Hid ((eb = true → st = su ∧ n = m ∧ L.take (k + 1) = M.take (k + 1)) ∧ (eb = false → ¬ (st = su ∧ L = M))) := by
            rw [Lx.toL, Lx.toL, hxb, hzb] at heb
            refine ⟨fun h => ⟨h1, h2, hst.2 ?_⟩, ?_⟩
            · rw [h] at heb; exact eq_of_beq heb
            · rintro h ⟨-, hLM⟩
              rw [h] at heb
              rw [hLM, hz] at hx
              have := Option.some.inj hx
              rw [this] at heb
              simp at heb
          have HBo : Hid (Below X1.heap.size X1 wr) := HBx
          have i4 := cell_regrown c4
          have i9 := cell_regrown c9
          have ix := cell_regrown cx
          have iz := cell_regrown cz
          clear h1 h2 h3 hx hz hxb hzb hrg hrg' hst HI HF HR0 HR1 c0 c1 c2 c3 c5 c6 c7 c8
          go_upto_region 5 with fail
          clear c4 c9 cx cz
          refine wp_region_quiet_below (by kernel_rfl) (by kernel_rfl) ?_
          repeat (first | go_big_quiet_step (first | fail) | quiet_step (first | fail))
          refine wpQuiet_nil ?_
          intro _ hw'
          obtain ⟨⟨dq, osq⟩, hw''⟩ := hw'
          subst hw''
          have hY := below_regrown wr dq osq
          first | (change Exit.then _ _ Exit.normal _ (Sort.grow (redrawn wr dq) osq)) | skip
          generalize Sort.grow (redrawn wr dq) osq = Y at hY ⊢
          go_wp2
          exact ⟨⟨k + 1, eb, rfl, by go_num, by omega, HBo.out.trans (hY.mono HBo.out.size), HN.out⟩, by simp [intOf]; omega⟩
end Go.Proofs.YtichbejmelkjeaaDoor
