import Derived.Test.YtdcioemjmmhbhaaDoorQuad
namespace Go.Proofs.YtdcioemjmmhbhaaDoor
open Go.RowKit

theorem save_len (A : Hp) : 9 ≤ (saveS A).length := by unfold saveS; rw [List.length_cons, List.length_append, numB_len]; omega

theorem quad_of {w0 w9 w10 w11 w12 : World} {B lim p1 p2 p3 p4 : Nat} {A : Hp} {F Fc Fl Fs : Nat → Prop} (hA : HeapOf w0 p1 lim A F) (b9 : Below w0.heap.size w0 w9) (hc : HeapOf w10 p2 lim A Fc) (fc : ∀ b, Fc b → w9.heap.size ≤ b) (b10 : Below w9.heap.size w9 w10)
    (hl : HeapOf w11 p3 lim A Fl) (fl : ∀ b, Fl b → w10.heap.size ≤ b) (b11 : Below w10.heap.size w10 w11) (hs : HeapOf w12 p4 lim A Fs) (fs : ∀ b, Fs b → w11.heap.size ≤ b) (b12 : Below w11.heap.size w11 w12) (hF : ∀ b, F b → B ≤ b) (hB : B ≤ w0.heap.size) :
    Quad w12 B lim p1 p2 p3 p4 A A A A := by
  have z9 := b9.size
  have z10 := b10.size
  have z11 := b11.size
  have f1 := hA.flt
  have f2 := hc.flt
  have f3 := hl.flt
  refine ⟨F, Fc, Fl, Fs, ⟨(((hA.next b9).next b10).next b11).next b12, (hc.next b11).next b12, hl.next b12, hs⟩, ?_, ?_, ?_, ?_⟩
  · intro b hb
    have := f1 b hb
    exact ⟨hF b hb, fun e => by have := fc b e; omega, fun e => by have := fl b e; omega, fun e => by have := fs b e; omega⟩
  · intro b hb
    have := fc b hb
    have := f2 b hb
    exact ⟨by omega, fun e => by have := f1 b e; omega, fun e => by have := fl b e; omega, fun e => by have := fs b e; omega⟩
  · intro b hb
    have := fl b hb
    have := f3 b hb
    exact ⟨by omega, fun e => by have := f1 b e; omega, fun e => by have := f2 b e; omega, fun e => by have := fs b e; omega⟩
  · intro b hb
    have := fs b hb
    exact ⟨by omega, fun e => by have := f1 b e; omega, fun e => by have := f2 b e; omega, fun e => by have := f3 b e; omega⟩
abbrev SaveQ (w : World) (p : Nat) (T : ByteArray) : Prop := ∀ d os, Calls Tryd.prog 16 #[.pointer (some ⟨p, 0, none⟩)] (Sort.grow (redrawn w d) os) fun e w'' => e = .returned (.string T) ∧ ∃ z : Regrown, w'' = Sort.grow (redrawn w z.d) z.os
abbrev UsedQ (w : World) (p : Nat) (n : Nat) : Prop := ∀ d os, Calls Tryd.prog 19 #[.pointer (some ⟨p, 0, none⟩)] (Sort.grow (redrawn w d) os) fun e w'' => e = .returned (.int .i64 (n : Int)) ∧ ∃ z : Regrown, w'' = Sort.grow (redrawn w z.d) z.os
theorem saveQ {w : World} {p lim : Nat} {A : Hp} {F : Nat → Prop} (h : HeapOf w p lim A F) : SaveQ w p ⟨(saveS A).toArray⟩ := fun d os => Calls.regrown_of (save_any (h.next (below_regrown w d os)))
theorem usedQ {w : World} {p lim : Nat} {A : Hp} {F : Nat → Prop} (h : HeapOf w p lim A F) : UsedQ w p (usedS A) := fun d os => Calls.regrown_of ((used_any (h.next (below_regrown w d os))).mono fun e w' q => ⟨q.1, by rw [q.2]; exact Below.refl _ _⟩)
theorem quad_saves {w : World} {B lim p1 p2 p3 p4 : Nat} {A1 A2 A3 A4 : Hp} (h : Quad w B lim p1 p2 p3 p4 A1 A2 A3 A4) : SaveQ w p1 ⟨(saveS A1).toArray⟩ ∧ SaveQ w p2 ⟨(saveS A2).toArray⟩ ∧ SaveQ w p3 ⟨(saveS A3).toArray⟩ ∧ SaveQ w p4 ⟨(saveS A4).toArray⟩ := by
  obtain ⟨F1, F2, F3, F4, ⟨h1, h2, h3, h4⟩, -⟩ := h
  exact ⟨saveQ h1, saveQ h2, saveQ h3, saveQ h4⟩
theorem quad_useds {w : World} {B lim p1 p2 p3 p4 : Nat} {A1 A2 A3 A4 : Hp} (h : Quad w B lim p1 p2 p3 p4 A1 A2 A3 A4) : UsedQ w p1 (usedS A1) ∧ UsedQ w p2 (usedS A2) ∧ UsedQ w p3 (usedS A3) := by
  obtain ⟨F1, F2, F3, F4, ⟨h1, h2, h3, h4⟩, -⟩ := h
  exact ⟨usedQ h1, usedQ h2, usedQ h3⟩

theorem quad_saves2 {w : World} {B lim p1 p2 p3 p4 : Nat} {A1 A2 A3 A4 : Hp} (h : Quad w B lim p1 p2 p3 p4 A1 A2 A3 A4) : (Calls Tryd.prog 16 #[.pointer (some ⟨p1, 0, none⟩)] w fun e w' => e = .returned (.string ⟨(saveS A1).toArray⟩) ∧ Below w.heap.size w w') ∧ (Calls Tryd.prog 16 #[.pointer (some ⟨p2, 0, none⟩)] w fun e w' => e = .returned (.string ⟨(saveS A2).toArray⟩) ∧ Below w.heap.size w w') ∧ (Calls Tryd.prog 16 #[.pointer (some ⟨p3, 0, none⟩)] w fun e w' => e = .returned (.string ⟨(saveS A3).toArray⟩) ∧ Below w.heap.size w w') ∧ (Calls Tryd.prog 16 #[.pointer (some ⟨p4, 0, none⟩)] w fun e w' => e = .returned (.string ⟨(saveS A4).toArray⟩) ∧ Below w.heap.size w w') := by
  obtain ⟨F1, F2, F3, F4, ⟨h1, h2, h3, h4⟩, -⟩ := h
  exact ⟨save_any h1, save_any h2, save_any h3, save_any h4⟩
theorem quad_useds2 {w : World} {B lim p1 p2 p3 p4 : Nat} {A1 A2 A3 A4 : Hp} (h : Quad w B lim p1 p2 p3 p4 A1 A2 A3 A4) : (Calls Tryd.prog 19 #[.pointer (some ⟨p1, 0, none⟩)] w fun e w' => e = .returned (.int .i64 ((usedS A1 : Nat) : Int)) ∧ w' = w) ∧ (Calls Tryd.prog 19 #[.pointer (some ⟨p2, 0, none⟩)] w fun e w' => e = .returned (.int .i64 ((usedS A2 : Nat) : Int)) ∧ w' = w) ∧ (Calls Tryd.prog 19 #[.pointer (some ⟨p3, 0, none⟩)] w fun e w' => e = .returned (.int .i64 ((usedS A3 : Nat) : Int)) ∧ w' = w) := by
  obtain ⟨F1, F2, F3, F4, ⟨h1, h2, h3, h4⟩, -⟩ := h
  exact ⟨used_any h1, used_any h2, used_any h3⟩

set_option maxRecDepth 100000 in
set_option maxHeartbeats 8000000 in
theorem cellsTwin_any (w : World) (l0 l1 : Int) (q : Option Addr) (cap : Nat) (S : List Sp) (hS : StepsAt w q S) (hz : Zt w) :
    Calls Tryd.prog 4 #[.agg #[.int .i64 l0, .int .i64 l1, .slice q S.length cap]] w fun e w' => e = .returned (.bool true) ∧ Below w.heap.size w w' := by
  have B0 : Below w.heap.size w (w.alloc (.cells #[.int .i64 l0, .int .i64 l1, .slice q S.length cap] 25)) := (Below.refl _ w).alloc (Nat.le_refl _) _
  have hn := World.alloc_heap_new w (.cells #[.int .i64 l0, .int .i64 l1, .slice q S.length cap] 25)
  have z0 : (w.alloc (.cells #[.int .i64 l0, .int .i64 l1, .slice q S.length cap] 25)).heap.size = w.heap.size + 1 := by simp
  have hzp := hz.pos
  go_enter Tryd.func4, Tryd.ntmps4
  go_wp2_with fail
  generalize w.alloc (.cells #[.int .i64 l0, .int .i64 l1, .slice q S.length cap] 25) = X at B0 hn z0 ⊢
  have z1 : w.heap.size < X.heap.size := by omega
  clear z0
  have x0 : X.cell? ⟨w.heap.size, 0, none⟩ = some (.int .i64 l0) := by simp only [World.cell?, hn]; rfl
  have x2 : X.cell? ⟨w.heap.size, 2, none⟩ = some (.slice q S.length cap) := by simp only [World.cell?, hn]; rfl
  have HX : Hid (∀ W, Below X.heap.size X W → (W.cell? ⟨w.heap.size, 0, none⟩ = some (.int .i64 l0) ∧ W.cell? ⟨w.heap.size, 2, none⟩ = some (.slice q S.length cap)) ∧ StepsAt W q S ∧ Zt W) := fun W hW => by
    have hb := below2 B0 hW
    exact ⟨⟨(hW.cell (p := ⟨w.heap.size, 0, none⟩) z1).trans x0, (hW.cell (p := ⟨w.heap.size, 2, none⟩) z1).trans x2⟩, hS.next hb, hz.same (hb.block 0 hzp)⟩
  have hlen := hS.len
  clear hS hz hn
  go_wp2_with fail
  refine (new_any l0 X).mono ?_
  rintro e w1 ⟨rfl, h1, b1⟩
  have y2 := (HX.out w1 b1).1.2
  obtain ⟨hf, hhf, hdv⟩ : ∃ hf : Nat, hf ≤ S.length ∧ (S.length : Int) / 2 = (hf : Int) := ⟨S.length / 2, Nat.div_le_self _ _, by omega⟩
  have HX0 : 0 < X.heap.size := by omega
  obtain ⟨lim, hlm⟩ : ∃ lim, limS l0 = lim := ⟨_, rfl⟩
  rw [hlm] at h1
  have HLM : Hid (limS l0 = lim) := hlm
  have HI0 : Hid (∃ A F, HeapOf w1 X.heap.size lim A F ∧ (∀ b, F b → X.heap.size ≤ b) ∧ rngA A ∧ Below X.heap.size X w1) := ⟨[], _, h1, (fun b hb => by omega), (fun a ha => by cases ha), b1⟩
  clear x0 x2 h1 b1 hlm
  go_wp2_with fail
  clear y2
  clear hdv
  go_loopw [5] (fun v wr => ∃ i : Nat, i ≤ hf ∧ v = .int .i64 (i : Int) ∧ Hid (∃ A F, HeapOf wr X.heap.size lim A F ∧ (∀ b, F b → X.heap.size ≤ b) ∧ rngA A ∧ Below X.heap.size X wr)) (fun v _ => hf - (intOf v).toNat)
  case atStart => exact ⟨0, Nat.zero_le _, rfl, HI0⟩
  case round =>
    obtain ⟨i, hi, rfl, hq⟩ := hrel
    clear HI0
    obtain ⟨A, F, hA, hF, hR, hB⟩ := hq.out
    by_cases hlt : i < hf
    case neg =>
      obtain rfl : i = hf := by omega
      obtain ⟨⟨x0, -⟩, -, hz⟩ := HX.out wr hB
      have hok := hA.okH hR
      have hu := hA.kinds.1
      have hsv := save_any hA
      obtain ⟨T, hT⟩ : ∃ T, (⟨(saveS A).toArray⟩ : ByteArray) = T := ⟨_, rfl⟩
      have h9 : (9 : Int) ≤ (T.size : Int) := by rw [← hT]; have := save_len A; show (9 : Int) ≤ (((saveS A).toArray.size : Nat) : Int); rw [List.size_toArray]; omega
      have hld : ∀ W : World, Zt W → Calls Tryd.prog 18 #[.int .i64 l0, .string T] W fun e w' => e = .returned (.tuple #[.pointer (some ⟨W.heap.size, 0, none⟩), .int .i64 0]) ∧ Hid (∃ F', HeapOf w' W.heap.size lim A F' ∧ (∀ b, F' b → W.heap.size ≤ b) ∧ Below W.heap.size W w') := fun W hW => by
        rw [← hT, ← HLM.out]
        exact load_any W l0 A (by rw [HLM.out]; exact hu) hok hW
      have HT0 : Hid ((⟨(saveS A).toArray⟩ : ByteArray) = T) := hT
      rw [hT] at hsv
      clear hT hok hu hq
      have HB : Hid (Below X.heap.size X wr) := hB
      have zX := hB.size
      clear hB x0 hz
      go_wp2_with fail
      refine hsv.mono ?_
      rintro e w9 ⟨rfl, b9⟩
      have hA9 := hA.next b9
      clear hsv
      go_wp2_with fail
      refine (clone_heap hA9).mono ?_
      rintro e w10 ⟨rfl, h10⟩
      obtain ⟨Fc, hc10, fc10, b10⟩ := h10.out
      have B10 := HB.out.trans ((b9.trans (b10.mono b9.size)).mono zX)
      have x0 := (HX.out w10 B10).1.1
      have hl10 := hld w10 (HX.out w10 B10).2.2
      clear hld
      go_wp2_with fail
      refine hl10.mono ?_
      rintro e w11 ⟨rfl, h11⟩
      clear hl10 x0
      obtain ⟨Fl, hl11, fl11, b11⟩ := h11.out
      have hA11 := (hA9.next b10).next b11
      go_wp2_with fail
      refine (clone_heap hA11).mono ?_
      rintro e w12 ⟨rfl, h12⟩
      obtain ⟨Fs, hs12, fs12, b12⟩ := h12.out
      have HQ := quad_of hA b9 hc10 fc10 b10 hl11 fl11 b11 hs12 fs12 b12 hF zX
      have B12 : Below X.heap.size X w12 := B10.trans ((b11.trans (b12.mono b11.size)).mono B10.size)
      generalize w9.heap.size = pc at HQ ⊢
      generalize w10.heap.size = pl at HQ ⊢
      generalize w11.heap.size = ps at HQ ⊢
      have HQ12 : Hid (∀ Y, Below w12.heap.size w12 Y → Hid (Quad Y X.heap.size lim X.heap.size pc pl ps A A A A ∧ Below X.heap.size X Y)) := fun Y hY => ⟨HQ.next hY, B12.trans (hY.mono B12.size)⟩
      clear HQ hs12 fs12 b12 h12 hl11 fl11 b11 h11 hc10 fc10 b10 h10 hA hA9 hA11 b9 B10 B12 hF HB zX hR
      obtain ⟨q0, -⟩ := (HQ12.out w12 (Below.refl _ _)).out
      have dc := (quad_saves2 q0).2.1
      rw [HT0.out] at dc
      clear q0
      go_wp2_with fail
      refine dc.mono ?_
      rintro e w13 ⟨rfl, b13⟩
      obtain ⟨q0, -⟩ := (HQ12.out w13 b13).out
      have dl := (quad_saves2 q0).2.2.1
      rw [HT0.out] at dl
      clear q0 dc
      go_wp2_with fail
      refine dl.mono ?_
      rintro e Y ⟨rfl, b14⟩
      have hY := b13.trans (b14.mono b13.size)
      clear dl b13 b14
      have hQ := HQ12.out Y hY
      clear HQ12 hY
      go_wp2_with fail
      go_loopw [11] (fun v wr => ∃ (j : Nat) (A2 : Hp), i ≤ j ∧ j ≤ S.length ∧ v = .int .i64 (j : Int) ∧ Hid (Quad wr X.heap.size lim X.heap.size pc pl ps A2 A2 A2 A ∧ Below X.heap.size X wr)) (fun v _ => S.length - (intOf v).toNat)
      case atStart => exact ⟨_, A, Nat.le_refl _, hhf, rfl, hQ⟩
      case round =>
        obtain ⟨j, A2, hj1, hj2, rfl, hq⟩ := hrel
        clear hQ
        by_cases hjl : j < S.length
        case neg =>
          obtain rfl : j = S.length := by omega
          obtain ⟨q1, q2⟩ := hq.out
          have y2 := (HX.out _ q2).1.2
          obtain ⟨-, e2, -⟩ := quad_saves2 q1
          have HSV : Hid (∀ W, Below wr.heap.size wr W → Quad W X.heap.size lim X.heap.size pc pl ps A2 A2 A2 A) := fun W hW => q1.next hW
          have HQ2 : Hid (Below X.heap.size X wr) := q2
          obtain ⟨T2, hT2⟩ : ∃ T2, (⟨(saveS A2).toArray⟩ : ByteArray) = T2 := ⟨_, rfl⟩
          have HT2 : Hid ((⟨(saveS A2).toArray⟩ : ByteArray) = T2) := hT2
          rw [hT2] at e2
          clear hq hT2 q1 q2
          go_wp2_with fail
          refine e2.mono ?_
          rintro e W1 ⟨rfl, b1⟩
          have e1 := (quad_saves2 (HSV.out W1 b1)).1
          rw [HT2.out] at e1
          clear e2
          go_wp2_with fail
          refine e1.mono ?_
          rintro e W2 ⟨rfl, b2⟩
          have c2 := b1.trans (b2.mono b1.size)
          have e3 := (quad_saves2 (HSV.out W2 c2)).2.2.1
          rw [HT2.out] at e3
          clear e1 b1 b2
          go_wp2_with fail
          refine e3.mono ?_
          rintro e W3 ⟨rfl, b3⟩
          have c3 := c2.trans (b3.mono c2.size)
          have e1 := (quad_saves2 (HSV.out W3 c3)).1
          rw [HT2.out] at e1
          clear e3 c2 b3
          go_wp2_with fail
          refine e1.mono ?_
          rintro e W4 ⟨rfl, b4⟩
          have c4 := c3.trans (b4.mono c3.size)
          have e4 := (quad_saves2 (HSV.out W4 c4)).2.2.2
          rw [HT0.out] at e4
          clear e1 c3 b4
          go_wp2_with fail
          refine e4.mono ?_
          rintro e W5 ⟨rfl, b5⟩
          have c5 := c4.trans (b5.mono c4.size)
          clear e4 c4 b5
          go_wp2_with fail
          first | (change bodyPost Tryd.prog Tryd.f4 _ Exit.ret _ _) | (simp only [Exit.noGoto])
          go_ret
          exact ⟨rfl, below2 B0 (HQ2.out.trans (c5.mono HQ2.out.size))⟩
        obtain ⟨q1, q2⟩ := hq.out
        obtain ⟨-, hS, -⟩ := HX.out _ q2
        obtain ⟨g, o, hqe, hr⟩ := hS.get j hjl
        obtain ⟨t1, t2, t3⟩ := hS.txt S[j] (List.getElem_mem hjl)
        clear hr hS
        subst hqe
        obtain ⟨⟨dop, on, kd, n, ⟨rk, rn, rs⟩, xk, xn, xs⟩, hsp⟩ : ∃ sp, S[j] = sp := ⟨_, rfl⟩
        rw [hsp] at t1 t2 t3
        simp only at t1 t2 t3
        have HC : Hid (∀ W, Below X.heap.size X W → W.cell? ⟨w.heap.size, 2, none⟩ = some (.slice (some ⟨g, o, none⟩) S.length cap) ∧ Zt W ∧ (W.cell? ⟨g, o + j * 10, none⟩ = some (.int .i64 dop) ∧ W.cell? ⟨g, o + j * 10 + 1, none⟩ = some (.int .i64 on) ∧ W.cell? ⟨g, o + j * 10 + 2, none⟩ = some (.int .i64 kd) ∧ W.cell? ⟨g, o + j * 10 + 3, none⟩ = some (.int .i64 n) ∧ W.cell? ⟨g, o + j * 10 + 4, none⟩ = some (.int .i64 rk) ∧ W.cell? ⟨g, o + j * 10 + 5, none⟩ = some (.int .i64 rn) ∧ W.cell? ⟨g, o + j * 10 + 6, none⟩ = some (.string rs) ∧ W.cell? ⟨g, o + j * 10 + 7, none⟩ = some (.int .i64 xk) ∧ W.cell? ⟨g, o + j * 10 + 8, none⟩ = some (.int .i64 xn) ∧ W.cell? ⟨g, o + j * 10 + 9, none⟩ = some (.string xs))) := fun W hW => by
          obtain ⟨⟨-, y2⟩, hS, hz⟩ := HX.out W hW
          obtain ⟨g', o', e, hr⟩ := hS.get j hjl
          cases e
          rw [hsp] at hr
          exact ⟨y2, hz, hr 0 _ rfl, hr 1 _ rfl, hr 2 _ rfl, hr 3 _ rfl, hr 4 _ rfl, hr 5 _ rfl, hr 6 _ rfl, hr 7 _ rfl, hr 8 _ rfl, hr 9 _ rfl⟩
        clear hsp HX
        have j0 : (0 : Int) ≤ (j : Int) := Int.natCast_nonneg _
        have j1 : (j : Int) < (S.length : Int) := Int.ofNat_lt.2 hjl
        obtain ⟨y2, hz, s0, s1, s2, s3, s4, s5, s6, s7, s8, s9⟩ := HC.out _ q2
        have T1 := quad_take1 q1 hz HX0 q2.size dop on kd n rk rn rs xk xn xs t1 t2
        have zz := q2
        obtain ⟨R, hR⟩ : ∃ R, takeS A2 lim ⟨dop, on, kd, n, (rk, rn, rs), (xk, xn, xs)⟩ = R := ⟨_, rfl⟩
        rw [hR] at T1
        have HR : Hid (takeS A2 lim ⟨dop, on, kd, n, (rk, rn, rs), (xk, xn, xs)⟩ = R) := hR
        clear hR hq q1 hz
        go_wp2_with fail
        refine T1.mono ?_
        rintro e W1 ⟨rfl, k1, b1⟩
        clear T1 y2 s0 s1 s2 s3 s4 s5 s6 s7 s8 s9
        have q3 := q2.trans b1
        obtain ⟨y2, hz, s0, s1, s2, s3, s4, s5, s6, s7, s8, s9⟩ := HC.out _ q3
        have T2 := quad_take2 k1.out hz HX0 q3.size dop on kd n rk rn rs xk xn xs t1 t2
        rw [HR.out] at T2
        clear q2 b1 hz k1
        go_wp2_with fail
        refine T2.mono ?_
        rintro e W2 ⟨rfl, k2, b2⟩
        clear T2 y2 s0 s1 s2 s3 s4 s5 s6 s7 s8 s9
        have q4 := q3.trans b2
        obtain ⟨y2, hz, s0, s1, s2, s3, s4, s5, s6, s7, s8, s9⟩ := HC.out _ q4
        have T3 := quad_take3 k2.out hz HX0 q4.size dop on kd n rk rn rs xk xn xs t1 t2
        rw [HR.out] at T3
        clear q3 b2 hz k2
        go_wp2_with fail
        refine T3.mono ?_
        rintro e W3 ⟨rfl, k3, b3⟩
        clear T3 y2 s0 s1 s2 s3 s4 s5 s6 s7 s8 s9
        have q5 := q4.trans b3
        have HN : Hid (Quad W3 X.heap.size lim X.heap.size pc pl ps R.1 R.1 R.1 A ∧ Below X.heap.size X W3) := ⟨k3.out, q5⟩
        obtain ⟨u1, u2, u3⟩ := quad_useds2 k3.out
        clear q4 b3 HR k3 q5
        generalize R.2 = t
        go_wp2_with fail
        refine u1.mono ?_
        rintro e W4 ⟨rfl, rfl⟩
        go_wp2_with fail
        refine u2.mono ?_
        rintro e W4 ⟨rfl, rfl⟩
        go_wp2_with fail
        refine u1.mono ?_
        rintro e W4 ⟨rfl, rfl⟩
        go_wp2_with fail
        refine u3.mono ?_
        rintro e W4 ⟨rfl, rfl⟩
        clear u1 u2 u3
        go_wp2_with fail
        exact ⟨⟨j + 1, R.1, by omega, by omega, by first | rfl | (push_cast; rfl) | go_num, HN⟩, by simp [intOf]; omega⟩
    have hltS : i < S.length := by omega
    obtain ⟨⟨-, x2⟩, hS, hz⟩ := HX.out wr hB
    obtain ⟨g, o, rfl, hr⟩ := hS.get i hltS
    obtain ⟨t1, t2, t3⟩ := hS.txt S[i] (List.getElem_mem hltS)
    generalize S[i] = sp at hr t1 t2 t3
    obtain ⟨dop, on, kd, n, ⟨rk, rn, rs⟩, xk, xn, xs⟩ := sp
    simp only at t1 t2 t3
    have s0 : wr.cell? ⟨g, o + i * 10, none⟩ = some (.int .i64 dop) := hr 0 _ rfl
    have s1 : wr.cell? ⟨g, o + i * 10 + 1, none⟩ = some (.int .i64 on) := hr 1 _ rfl
    have s2 : wr.cell? ⟨g, o + i * 10 + 2, none⟩ = some (.int .i64 kd) := hr 2 _ rfl
    have s3 : wr.cell? ⟨g, o + i * 10 + 3, none⟩ = some (.int .i64 n) := hr 3 _ rfl
    have s4 : wr.cell? ⟨g, o + i * 10 + 4, none⟩ = some (.int .i64 rk) := hr 4 _ rfl
    have s5 : wr.cell? ⟨g, o + i * 10 + 5, none⟩ = some (.int .i64 rn) := hr 5 _ rfl
    have s6 : wr.cell? ⟨g, o + i * 10 + 6, none⟩ = some (.string rs) := hr 6 _ rfl
    have s7 : wr.cell? ⟨g, o + i * 10 + 7, none⟩ = some (.int .i64 xk) := hr 7 _ rfl
    have s8 : wr.cell? ⟨g, o + i * 10 + 8, none⟩ = some (.int .i64 xn) := hr 8 _ rfl
    have s9 : wr.cell? ⟨g, o + i * 10 + 9, none⟩ = some (.string xs) := hr 9 _ rfl
    have i0 : (0 : Int) ≤ (i : Int) := Int.natCast_nonneg _
    have i1 : (i : Int) < (hf : Int) := Int.ofNat_lt.2 hlt
    have i2 : (i : Int) < (S.length : Int) := Int.ofNat_lt.2 hltS
    have htk := takes_any hA hz (fun e => by have := hF 0 e; omega) dop on kd n rk rn rs xk xn xs t1 t2
    have hR2 := rng_take (lim := lim) (s := ⟨dop, on, kd, n, (rk, rn, rs), (xk, xn, xs)⟩) hR t3
    generalize takeS A lim ⟨dop, on, kd, n, (rk, rn, rs), (xk, xn, xs)⟩ = R at htk hR2
    have HNX : Hid (∀ W, Hid (∃ F', HeapOf W X.heap.size lim R.1 F' ∧ Kp F wr W ∧ ∀ b, F' b → F b ∨ wr.heap.size ≤ b) → ∃ A F, HeapOf W X.heap.size lim A F ∧ (∀ b, F b → X.heap.size ≤ b) ∧ rngA A ∧ Below X.heap.size X W) := fun W hW => by
      obtain ⟨F', q1, q2, q3⟩ := hW.out
      refine ⟨R.1, F', q1, fun b hb => ?_, hR2, hB.trans (q2.below hF hB.size)⟩
      rcases q3 b hb with r | r
      · exact hF b r
      · have := hB.size
        omega
    clear hr hS hz hA hq
    go_wp2_with (first | (go_at_call 15; refine htk.mono ?_; rintro e w5 ⟨rfl, hq5⟩) | go_in)
    exact ⟨⟨i + 1, by omega, by first | rfl | (push_cast; rfl) | go_num, HNX.out w5 hq5⟩, by simp [intOf]; omega⟩
end Go.Proofs.YtdcioemjmmhbhaaDoor
