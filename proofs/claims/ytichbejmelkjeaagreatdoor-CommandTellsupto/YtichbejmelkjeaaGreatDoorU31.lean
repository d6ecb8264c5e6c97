import Derived.Deep.CutBlock
import Derived.Deep.DeepCutAuto
import Derived.Test.YtichbejmelkjeaaGreatDoorU28
import Derived.Test.YtichbejmelkjeaaGreatDoorU29
namespace Go.Proofs.YtichbejmelkjeaaGreatDoor
open Go.RowKit

/-- The argument's cells. -/
abbrev toldC (k n vk vn : Int) (nm vs : ByteArray) (sk sa sp ph t st a1 a2 a3 : Int) (q : Option Addr) (m cap : Nat) : List Value := [.int .i64 k, .int .i64 n, .string nm, .int .i64 vk, .int .i64 vn, .string vs, .int .i64 sk, .int .i64 sa, .int .i64 sp, .int .i64 ph, .int .i64 t, .int .i64 st, .int .i64 a1, .int .i64 a2, .int .i64 a3, .slice q m cap]
theorem Full.cell16 {W : World} {B : Nat} {t : TypeId} {x0 x1 x2 x3 x4 x5 x6 x7 x8 x9 y0 y1 y2 y3 y4 y5 : Value} (h : Full W B t [x0, x1, x2, x3, x4, x5, x6, x7, x8, x9, y0, y1, y2, y3, y4, y5]) : (W.cell? ⟨B, 0, none⟩ = some x0 ∧ W.cell? ⟨B, 1, none⟩ = some x1 ∧ W.cell? ⟨B, 2, none⟩ = some x2 ∧ W.cell? ⟨B, 3, none⟩ = some x3 ∧ W.cell? ⟨B, 4, none⟩ = some x4 ∧ W.cell? ⟨B, 5, none⟩ = some x5) ∧ (W.cell? ⟨B, 6, none⟩ = some x6 ∧ W.cell? ⟨B, 7, none⟩ = some x7 ∧ W.cell? ⟨B, 8, none⟩ = some x8 ∧ W.cell? ⟨B, 9, none⟩ = some x9 ∧ W.cell? ⟨B, 10, none⟩ = some y0) ∧ W.cell? ⟨B, 11, none⟩ = some y1 ∧ W.cell? ⟨B, 12, none⟩ = some y2 ∧ W.cell? ⟨B, 13, none⟩ = some y3 ∧ W.cell? ⟨B, 14, none⟩ = some y4 ∧ W.cell? ⟨B, 15, none⟩ = some y5 :=
  ⟨⟨(h.cell 0 _ rfl).1, (h.cell 1 _ rfl).1, (h.cell 2 _ rfl).1, (h.cell 3 _ rfl).1, (h.cell 4 _ rfl).1, (h.cell 5 _ rfl).1⟩, ⟨(h.cell 6 _ rfl).1, (h.cell 7 _ rfl).1, (h.cell 8 _ rfl).1, (h.cell 9 _ rfl).1, (h.cell 10 _ rfl).1⟩, (h.cell 11 _ rfl).1, (h.cell 12 _ rfl).1, (h.cell 13 _ rfl).1, (h.cell 14 _ rfl).1, (h.cell 15 _ rfl).1⟩
set_option maxRecDepth 100000 in
set_option maxHeartbeats 8000000 in
theorem tells_any (k n vk vn : Int) (nm vs : ByteArray) (sk sa sp ph t st a1 a2 a3 : Int) (q : Option Addr) (cap : Nat) (L : List (List UInt8)) (w : World) (hok : EvOk n vk vn nm vs) (ha : -9223372036854775808 ≤ sa ∧ sa ≤ 9223372036854775807) (hp : -9223372036854775808 ≤ sp ∧ sp ≤ 9223372036854775807) (hst : -9223372036854775808 ≤ st ∧ st ≤ 9223372036854775807)
    (hR : Row w w.heap.size q L.length (L.map sV)) (hT : Tb w) (hW : TW w) (hle : L.length ≤ cap) (hs : (L.map (fun x => x.length + 1)).sum ≤ 1048576) :
    Calls Tryz.prog 3 #[.agg #[.int .i64 k, .int .i64 n, .string nm, .int .i64 vk, .int .i64 vn, .string vs, .int .i64 sk, .int .i64 sa, .int .i64 sp, .int .i64 ph, .int .i64 t, .int .i64 st, .int .i64 a1, .int .i64 a2, .int .i64 a3, .slice q L.length cap]] w fun e w' => e = .returned (.bool true) ∧ Below w.heap.size w w' := by
  have hml : ∀ x ∈ L, x.length + 1 ≤ 1048576 := fun x hx => Nat.le_trans (in_sum L x hx) hs
  obtain ⟨m, hm⟩ : ∃ m, L.length = m := ⟨_, rfl⟩
  have hmn : m ≤ 1048576 := by
    have : L.length ≤ (L.map (fun x => x.length + 1)).sum := by
      clear hR hle hm hml hs
      induction L with
      | nil => simp
      | cons a L ih => simp only [List.length_cons, List.map_cons, List.sum_cons]; omega
    omega
  obtain ⟨E1, hE1⟩ := event_both k n vk vn nm vs hok
  obtain ⟨E2, hE2⟩ := stop_both sk sa sp ph t ha hp
  obtain ⟨E3, hE3⟩ := resp_both st a1 a2 a3 m L hm hst (by omega)
  obtain ⟨E4, hE4⟩ := resp_both st a1 a2 a3 m (xs1 L) (by rw [xs1_len]; exact hm) hst (by have := xs1_sum L; omega)
  have HE1 : Hid (∀ W, TW W → _) := hE1
  have HE2 : Hid (∀ W, TW W → _) := hE2
  have HE3 : Hid (∀ (W : World) (q : Option Addr) (cap : Nat), Row W W.heap.size q m (L.map sV) → Tab10 W → m ≤ cap → _) := hE3
  have HE4 : Hid (∀ (W : World) (q : Option Addr) (cap : Nat), Row W W.heap.size q m ((xs1 L).map sV) → Tab10 W → m ≤ cap → _) := hE4
  have HML : Hid (∀ x ∈ L, x.length + 1 ≤ 1048576) := hml
  have HM : Hid (L.length = m) := hm
  rw [hm] at hR hle ⊢
  obtain ⟨X1, hX1⟩ : ∃ X1, w.alloc (.cells #[.int .i64 k, .int .i64 n, .string nm, .int .i64 vk, .int .i64 vn, .string vs, .int .i64 sk, .int .i64 sa, .int .i64 sp, .int .i64 ph, .int .i64 t, .int .i64 st, .int .i64 a1, .int .i64 a2, .int .i64 a3, .slice q m cap] 40) = X1 := ⟨_, rfl⟩
  have b1 : Below w.heap.size w X1 := by rw [← hX1]; exact (Below.refl _ w).alloc (Nat.le_refl _) _
  have f1 : Full X1 w.heap.size 40 (toldC k n vk vn nm vs sk sa sp ph t st a1 a2 a3 q m cap) := by rw [← hX1]; exact Full.new w _ _
  have hz1 : w.heap.size + 1 = X1.heap.size := by rw [← hX1]; simp
  have HF : Hid (∀ W, Below X1.heap.size X1 W → Full W w.heap.size 40 (toldC k n vk vn nm vs sk sa sp ph t st a1 a2 a3 q m cap) ∧ Below w.heap.size w W ∧ Tb W ∧ TW W ∧ Row W W.heap.size q m (L.map sV)) := fun W h => by
    have hb := b1.trans (h.mono b1.size)
    exact ⟨f1.next h, hb, hT.next hb, hW.next hb, (hR.below hb (Nat.le_refl _)).up hb.size⟩
  obtain ⟨G1, c1, w1, G2, c2, w2, r1, k1, l1, r2, k2, l2⟩ := dup_lines X1 q m cap L hm (HF.out X1 (Below.refl _ _)).2.2.2.2 (by omega)
  obtain ⟨-, -, -, -, -, -, e15⟩ := (HF.out (X1.alloc (.cells #[] 9)) ((Below.refl _ X1).alloc (Nat.le_refl _) _)).1.cell16
  have hlt : w.heap.size < w2.heap.size := by have := k2.size; omega
  obtain ⟨-, -, d11, d12, d13, d14, d15⟩ := (HF.out w2 k2).1.cell16
  have HL2 : Hid (Lw X1.heap.size w2 G2 c2 m L) := l2
  have HB2 : Hid (Below X1.heap.size X1 w2) := k2
  have HZ : Hid (w.heap.size + 1 = X1.heap.size) := hz1
  have hcap := l2.cap
  clear hE1 hE2 hE3 hE4 hok ha hp hst hR hT hW hs hml hm f1 b1 l1 l2 k1 k2
  go_enter Tryz.func3, Tryz.ntmps3
  go_upto_region 4 with (first
    | (at_builtin; refine wpList_run rfl _ _ _ _ _ _ _ r1 (by rfl) (by rfl) (by rfl) (by rfl) ?_)
    | (at_builtin; refine wpList_run rfl _ _ _ _ _ _ _ r2 (by rfl) (by rfl) (by rfl) (by rfl) ?_)
    | go_in)
  have hS4 : TlS X1 (w2.alloc (.cells #[.int .i64 st, .int .i64 a1, .int .i64 a2, .int .i64 a3, .slice (some ⟨G2, 0, none⟩) m c2] 38)) w2.heap.size G2 c2 m st a1 a2 a3 L := by
    have nb : Below w2.heap.size w2 (w2.alloc (.cells #[.int .i64 st, .int .i64 a1, .int .i64 a2, .int .i64 a3, .slice (some ⟨G2, 0, none⟩) m c2] 38)) := (Below.refl _ w2).alloc (Nat.le_refl _) _
    exact ⟨below2 HB2.out nb, Full.new w2 _ _, HL2.out.next nb, HB2.out.size⟩
  generalize w2.alloc (.cells #[.int .i64 st, .int .i64 a1, .int .i64 a2, .int .i64 a3, .slice (some ⟨G2, 0, none⟩) m c2] 38) = Y4 at hS4 ⊢
  have HR : Hid (w.heap.size ≠ w2.heap.size) := by show _ ≠ _; omega
  obtain ⟨R, HRe⟩ : ∃ R, Hid (w2.heap.size = R) := ⟨_, (rfl : w2.heap.size = _)⟩
  rw [HRe.out] at hS4 HR ⊢
  have hwR := HR.out
  have HS4 : Hid (TlS X1 Y4 R G2 c2 m st a1 a2 a3 L) := hS4
  clear r1 r2 d11 d12 d13 d14 d15 e15 hX1 hlt hS4
  obtain ⟨hfx, hbx, hTx, hWx, hRx⟩ := HF.out Y4 HS4.out.b
  obtain ⟨⟨e0, e1, e2, e3, e4, e5⟩, ⟨e6, e7, e8, e9, e10⟩, e11, e12, e13, e14, e15⟩ := hfx.cell16
  obtain ⟨g0, g1, g2, g3, g4⟩ := HS4.out.cells
  have i0 := cell_regrown e0
  have i1 := cell_regrown e1
  have i2 := cell_regrown e2
  have i3 := cell_regrown e3
  have i4 := cell_regrown e4
  have i5 := cell_regrown e5
  have i6 := cell_regrown e6
  have i7 := cell_regrown e7
  have i8 := cell_regrown e8
  have i9 := cell_regrown e9
  have i10 := cell_regrown e10
  have i11 := cell_regrown e11
  have i12 := cell_regrown e12
  have i13 := cell_regrown e13
  have i14 := cell_regrown e14
  have i15 := cell_regrown e15
  have j0 := cell_regrown g0
  have j1 := cell_regrown g1
  have j2 := cell_regrown g2
  have j3 := cell_regrown g3
  have j4 := cell_regrown g4
  have hb2 : ∀ d os, Below X1.heap.size X1 (Sort.grow (redrawn Y4 d) os) := fun d os => below2 HS4.out.b (below_regrown Y4 d os)
  have p1 : ∀ d os, Calls Tryz.prog 6 #[.agg #[.int .i64 k, .int .i64 n, .string nm, .int .i64 vk, .int .i64 vn, .string vs]] (Sort.grow (redrawn Y4 d) os) fun e w'' => e = .returned (.string E1) ∧ ∃ p : Regrown, w'' = Sort.grow (redrawn Y4 p.d) p.os := fun d os => Calls.regrown_of (HE1.out _ (HF.out _ (hb2 d os)).2.2.2.1).1
  have p2 : ∀ d os, Calls Tryz.prog 7 #[.agg #[.int .i64 k, .int .i64 n, .string nm, .int .i64 vk, .int .i64 vn, .string vs]] (Sort.grow (redrawn Y4 d) os) fun e w'' => e = .returned (.string E1) ∧ ∃ p : Regrown, w'' = Sort.grow (redrawn Y4 p.d) p.os := fun d os => Calls.regrown_of (HE1.out _ (HF.out _ (hb2 d os)).2.2.2.1).2
  have p3 : ∀ d os, Calls Tryz.prog 8 #[.agg #[.int .i64 sk, .int .i64 sa, .int .i64 sp], .agg #[.int .i64 ph, .int .i64 t]] (Sort.grow (redrawn Y4 d) os) fun e w'' => e = .returned (.string E2) ∧ ∃ p : Regrown, w'' = Sort.grow (redrawn Y4 p.d) p.os := fun d os => Calls.regrown_of (HE2.out _ (HF.out _ (hb2 d os)).2.2.2.1).1
  have p4 : ∀ d os, Calls Tryz.prog 9 #[.agg #[.int .i64 sk, .int .i64 sa, .int .i64 sp], .agg #[.int .i64 ph, .int .i64 t]] (Sort.grow (redrawn Y4 d) os) fun e w'' => e = .returned (.string E2) ∧ ∃ p : Regrown, w'' = Sort.grow (redrawn Y4 p.d) p.os := fun d os => Calls.regrown_of (HE2.out _ (HF.out _ (hb2 d os)).2.2.2.1).2
  have p5 : ∀ d os, Calls Tryz.prog 10 #[.agg #[.int .i64 st, .int .i64 a1, .int .i64 a2, .int .i64 a3, .slice (some ⟨G2, 0, none⟩) m c2]] (Sort.grow (redrawn Y4 d) os) fun e w'' => e = .returned (.string E3) ∧ ∃ p : Regrown, w'' = Sort.grow (redrawn Y4 p.d) p.os := fun d os => Calls.regrown_of (HE3.out _ _ _ ((HS4.out.next (below_regrown Y4 d os)).own.row) (HF.out _ (hb2 d os)).2.2.1.p10 (by omega)).1
  have p6 : ∀ d os, Calls Tryz.prog 11 #[.agg #[.int .i64 st, .int .i64 a1, .int .i64 a2, .int .i64 a3, .slice q m cap]] (Sort.grow (redrawn Y4 d) os) fun e w'' => e = .returned (.string E3) ∧ ∃ p : Regrown, w'' = Sort.grow (redrawn Y4 p.d) p.os := fun d os => Calls.regrown_of (HE3.out _ _ _ (HF.out _ (hb2 d os)).2.2.2.2 (HF.out _ (hb2 d os)).2.2.1.p10 hle).2
  have q1 : (E1.toList == E1.toList) = true := beq_self_eq_true _
  have q2 : (E2.toList == E2.toList) = true := beq_self_eq_true _
  have q3 : (E3.toList == E3.toList) = true := beq_self_eq_true _
  clear hfx hbx hTx hWx hRx hb2 e0 e1 e2 e3 e4 e5 e6 e7 e8 e9 e10 e11 e12 e13 e14 e15 g0 g1 g2 g3 g4
  refine wp_region_quiet_below (by kernel_rfl) (by kernel_rfl) ?_
  repeat (first | go_big_quiet_step (first | with_reducible exact p1 _ _ | with_reducible exact p2 _ _ | with_reducible exact p3 _ _ | with_reducible exact p4 _ _ | with_reducible exact p5 _ _ | with_reducible exact p6 _ _) | quiet_step (first | with_reducible exact p1 _ _ | with_reducible exact p2 _ _ | with_reducible exact p3 _ _ | with_reducible exact p4 _ _ | with_reducible exact p5 _ _ | with_reducible exact p6 _ _))
  refine wpQuiet_nil ?_
  intro _ hw'
  obtain ⟨⟨dq, osq⟩, hw''⟩ := hw'
  subst hw''
  have hY := below_regrown Y4 dq osq
  first | (change Exit.then _ _ Exit.normal _ (Sort.grow (redrawn Y4 dq) osq)) | skip
  generalize Sort.grow (redrawn Y4 dq) osq = Y at hY ⊢
  clear p1 p2 p3 p4 p5 p6 q1 q2 q3 i0 i1 i2 i3 i4 i5 i6 i7 i8 i9 i10 i11 i12 i13 i14 i15 j0 j1 j2 j3 j4
  have HS5 : Hid (TlS X1 Y R G2 c2 m st a1 a2 a3 L) := HS4.out.next hY
  obtain ⟨-, -, e11, e12, e13, e14, e15⟩ := (HF.out Y HS5.out.b).1.cell16
  clear HS4 hY
  go_wp2_with fail
  clear e11 e12 e13 e14 e15
  go_loopw [55] (fun v wr => ∃ (i : Nat), v = .int .i64 (i : Int) ∧ i ≤ m ∧ Hid (TlS X1 wr R G2 c2 m st a1 a2 a3 (mixS L i))) (fun v _ => m - (intOf v).toNat)
  case atStart => exact ⟨0, rfl, Nat.zero_le _, by rw [mix_zero]; exact HS5⟩
  case round =>
    obtain ⟨i, rfl, him, HSi⟩ := hrel
    clear HS5
    obtain ⟨hfx, hbx, hTx, hWx, hRx⟩ := HF.out wr HSi.out.b
    obtain ⟨-, -, e11, e12, e13, e14, e15⟩ := hfx.cell16
    obtain ⟨g0, g1, g2, g3, g4⟩ := HSi.out.cells
    by_cases hlt : i < m
    · have qi : (i : Int) < (m : Int) := by omega
      have qi1 : (i : Int) < (m : Int) + 1 := by omega
      have q0 : (0 : Int) ≤ (i : Int) := by omega
      have qm1 : i < m + 1 := by omega
      obtain ⟨x, hx⟩ : ∃ x, L[i]? = some x := ⟨L[i]'(by rw [HM.out]; exact hlt), List.getElem?_eq_getElem _⟩
      obtain ⟨xb, hxb⟩ : ∃ y : ByteArray, y.data.toList = x := ⟨⟨x.toArray⟩, rfl⟩
      obtain ⟨co, fo⟩ := HSi.out.own.cell i x (by rw [mix_get L i (by rw [HM.out]; exact him), hx])
      obtain ⟨g, o, rfl, -, hrg⟩ := hRx (by omega)
      have cx : wr.cell? ⟨g, o + i, none⟩ = some (.string xb) := hrg i (.string xb) (by rw [List.getElem?_map, hx, ← hxb]; rfl)
      rw [sV_at hxb] at co
      have HX : Hid (L[i]? = some x ∧ xb.data.toList = x) := ⟨hx, hxb⟩
      have hxl : xb.size + 1 ≤ 1048577 := by
        have h1 := HML.out x (List.mem_of_getElem? hx)
        rw [← hxb, ← Lib.size_eq] at h1
        omega
      have i4 := cell_regrown co
      have i9 := cell_regrown cx
      have ix := cell_regrown e15
      have qq : (xb.toList == xb.toList) = true := beq_self_eq_true _
      clear hfx hbx hTx hWx hRx hrg HF HE1 HE2 HE3 HE4 g0 g1 g2 g3 g4
      go_upto_region 9 with fail
      clear co cx
      refine wp_region_quiet_below (by kernel_rfl) (by kernel_rfl) ?_
      repeat (first | go_big_quiet_step (first | fail) | quiet_step (first | fail))
      refine wpQuiet_nil ?_
      intro _ hw'
      obtain ⟨⟨dq, osq⟩, hw''⟩ := hw'
      subst hw''
      have hY := below_regrown wr dq osq
      first | (change Exit.then _ _ Exit.normal _ (Sort.grow (redrawn wr dq) osq)) | skip
      generalize Sort.grow (redrawn wr dq) osq = Z at hY ⊢
      have hSz := HSi.out.next hY
      obtain ⟨co, fo⟩ := hSz.own.cell i x (by rw [mix_get L i (by rw [HM.out]; exact him), HX.out.1])
      have HP : Hid (TlS X1 (Z.setCell ⟨G2, i, none⟩ (.string (xb ++ ⟨#[120]⟩))) R G2 c2 m st a1 a2 a3 (mixS L (i + 1))) := by
        have h := hSz.put i hlt (x ++ [120])
        rw [mix_set L i (by rw [HM.out]; exact hlt) x HX.out.1] at h
        have e : sV (x ++ [120]) = .string (xb ++ ⟨#[120]⟩) := sV_at (by rw [cat_list, HX.out.2])
        rw [e] at h
        exact h
      rw [sV_at HX.out.2] at co
      have hz1 : xb.size + (⟨#[120]⟩ : ByteArray).size ≤ 9223372036854775807 := by show xb.size + 1 ≤ _; omega
      clear hSz hY HSi i4 i9 ix qq e11 e12 e13 e14 e15 HX hx hxb
      go_wp2
      exact ⟨⟨i + 1, by go_num, by omega, HP⟩, by simp [intOf]; omega⟩
    · obtain rfl : i = m := by omega
      have qi : ¬ (i : Int) < (i : Int) := by omega
      have HS6 : Hid (TlS X1 wr R G2 c2 i st a1 a2 a3 (xs1 L)) := by
        have h := HSi.out
        rw [← HM.out, mix_end, HM.out] at h
        exact h
      clear hlt him HSi hfx hbx hTx hWx hRx
      obtain ⟨Y6, N, hY6, hN, G3, c3, w3, r3, d4, d5, d6, HN⟩ := now_made HS6.out (Nat.le_trans HS6.out.b.size (Nat.le_refl _)) q cap (by omega)
      go_upto_region 15 with (first
        | (at_builtin; refine wpList_run rfl _ _ _ _ _ _ _ r3 (by rfl) (by rfl) (by rfl) (by rfl) ?_)
        | go_in)
      obtain ⟨Y7, hY7, hS7, f7, l7⟩ := HN.out
      rw [hY7]
      clear r3 d4 d5 d6 hY6 hY7 HN e11 e12 e13 e14 e15 g0 g1 g2 g3 g4
      have HS7 : Hid (TlS X1 Y7 R G2 c2 i st a1 a2 a3 (xs1 L)) := hS7
      obtain ⟨hfx, hbx, hTx, hWx, hRx⟩ := HF.out Y7 hS7.b
      have HBx : Hid (Below w.heap.size w Y7) := hbx
      obtain ⟨-, -, e11, e12, e13, e14, e15⟩ := hfx.cell16
      obtain ⟨g0, g1, g2, g3, g4⟩ := hS7.cells
      have n0 := cell_regrown (f7.cell 0 _ rfl).1
      have n1 := cell_regrown (f7.cell 1 _ rfl).1
      have n2 := cell_regrown (f7.cell 2 _ rfl).1
      have n3 := cell_regrown (f7.cell 3 _ rfl).1
      have n4 := cell_regrown (f7.cell 4 _ rfl).1
      have i15 := cell_regrown e15
      have j0 := cell_regrown g0
      have j1 := cell_regrown g1
      have j2 := cell_regrown g2
      have j3 := cell_regrown g3
      have j4 := cell_regrown g4
      have jm := cell_regrown hS7.own.mark
      have hb2 : ∀ d os, Below X1.heap.size X1 (Sort.grow (redrawn Y7 d) os) := fun d os => below2 HS7.out.b (below_regrown Y7 d os)
      have HC3 : Hid (i ≤ c3) := l7.cap
      have p5 : ∀ d os, Calls Tryz.prog 10 #[.agg #[.int .i64 st, .int .i64 a1, .int .i64 a2, .int .i64 a3, .slice (some ⟨G2, 0, none⟩) i c2]] (Sort.grow (redrawn Y7 d) os) fun e w'' => e = .returned (.string E4) ∧ ∃ p : Regrown, w'' = Sort.grow (redrawn Y7 p.d) p.os := fun d os => Calls.regrown_of (HE4.out _ _ _ ((HS7.out.next (below_regrown Y7 d os)).own.row) (HF.out _ (hb2 d os)).2.2.1.p10 (by omega)).1
      have p6 : ∀ d os, Calls Tryz.prog 11 #[.agg #[.int .i64 st, .int .i64 a1, .int .i64 a2, .int .i64 a3, .slice (some ⟨G3, 0, none⟩) i c3]] (Sort.grow (redrawn Y7 d) os) fun e w'' => e = .returned (.string E4) ∧ ∃ p : Regrown, w'' = Sort.grow (redrawn Y7 p.d) p.os := fun d os => Calls.regrown_of (HE4.out _ _ _ ((⟨own_next l7.own (below_regrown Y7 d os), l7.len⟩ : Lw1 X1.heap.size _ G3 c3 i (xs1 L)).row) (HF.out _ (hb2 d os)).2.2.1.p10 HC3.out).2
      have p7 : ∀ d os, Calls Tryz.prog 12 #[] (Sort.grow (redrawn Y7 d) os) fun e w'' => e = .returned (.bool true) ∧ ∃ p : Regrown, w'' = Sort.grow (redrawn Y7 p.d) p.os := fun d os => Calls.regrown_of (lives_any _ (HF.out _ (hb2 d os)).2.2.1)
      have q4 : (E4.toList == E4.toList) = true := beq_self_eq_true _
      have qi3 : (i : Int) < (i : Int) + 1 := by omega
      have qi4 : (0 : Int) ≤ (i : Int) := by omega
      have qi5 : i < i + 1 := by omega
      clear hfx hbx hTx hWx hRx hb2 e11 e12 e13 e14 e15 g0 g1 g2 g3 g4 f7 l7 hS7 HE1 HE2 HE3 HE4 HF
      refine wp_region_quiet_below (by kernel_rfl) (by kernel_rfl) ?_
      repeat (first | go_big_quiet_step (first | with_reducible exact p5 _ _ | with_reducible exact p6 _ _ | with_reducible exact p7 _ _) | quiet_step (first | with_reducible exact p5 _ _ | with_reducible exact p6 _ _ | with_reducible exact p7 _ _))
      refine wpQuiet_nil ?_
      intro _ hw'
      obtain ⟨⟨dq, osq⟩, hw''⟩ := hw'
      subst hw''
      have hY := below_regrown Y7 dq osq
      first | (change Exit.then _ _ Exit.normal _ (Sort.grow (redrawn Y7 dq) osq)) | skip
      generalize Sort.grow (redrawn Y7 dq) osq = Y8 at hY ⊢
      clear p5 p6 p7
      go_wp2
      go_ret
      exact ⟨rfl, HBx.out.trans (hY.mono HBx.out.size)⟩
end Go.Proofs.YtichbejmelkjeaaGreatDoor
