import Derived.Test.YtdcaonfnhdjibaaDoorVKe
namespace Go.Proofs.YtdcaonfnhdjibaaDoor
open Go.RowKit

theorem does_sok {c : Cd} {e : En} {x : In} {s s' : List Int} (hs : SOk s) (he : EntOk e) (hx : insS x = true) (hc : ∀ e ∈ c.ens, EntOk e) (h : doesR c e x s = .ok s') : SOk s' := by
  rw [does_eq hs he hx hc] at h
  split at h
  · rename_i hn
    exact eff_sok hs he hx hc hn h
  · cases h
section
variable {w : World} {B D : Nat} {iq eq tq : Option Addr} {Es : List Em} {c : Cd} {g kc : Nat} {Lk : List Bool} {R : List Rk} {st : Vst}
set_option maxRecDepth 100000 in
set_option maxHeartbeats 8000000 in
theorem look_any (m : CodeM w B iq eq tq Es c) (hc : CodeOk c) (ia ea ta : Nat) (hBD : B ≤ D) (hDg : D ≤ g) (f : Nat) (hf : f < c.ens.length) (i : Nat) (hi : i < c.ins.length) (hR : RkM w g st.1 Lk R) (hn : R.length = c.ins.length) (hS : SOk (stkAt st.1 i)) (hA : ∀ j, (stkAt st.1 j).length ≤ 400) :
    Calls Tryd.prog 49 #[codeV iq eq tq ia ea ta c, .int .i64 (f : Int), .int .i64 (i : Int), .slice (some ⟨g, 0, none⟩) c.ins.length kc] w fun z w' => Hid (LkP D w w' g c.ins.length (Lk.set i true) z (lkS c (enAt c.ens f) (endS c f) i st)) := by
  have hgw : g < w.heap.size := hR.fl.lt
  have HA : Hid (∀ j, (stkAt st.1 j).length ≤ 400) := hA
  obtain ⟨g2, o2, dq, dc, rfl, hg2, hr2, -⟩ := code_ent m f hf
  have HG2 : Hid (g2 < D ∧ w.rangeAt g2 (o2 + f * 5) _) := ⟨Nat.lt_of_lt_of_le hg2 hBD, hr2⟩
  have HM : Hid (CodeM w B iq (some ⟨g2, o2, none⟩) tq Es c ∧ CodeOk c ∧ B ≤ D ∧ D ≤ g ∧ f < c.ens.length ∧ g < w.heap.size ∧ SOk (stkAt st.1 i)) := ⟨m, hc, hBD, hDg, hf, hgw, hS⟩
  obtain ⟨T, HT⟩ : ∃ T, Hid (lkS c (enAt c.ens f) (endS c f) i st = T) := ⟨_, (rfl : lkS c (enAt c.ens f) (endS c f) i st = _)⟩
  rw [HT.out]
  obtain ⟨X, hX⟩ : ∃ X, w.alloc (.cells #[.slice iq c.ins.length ia, .slice (some ⟨g2, o2, none⟩) c.ens.length ea, .slice tq c.txs.length ta, .int .i64 c.main] 26) = X := ⟨_, rfl⟩
  have B1 : Below w.heap.size w X := by rw [← hX]; exact (Below.refl _ w).alloc (Nat.le_refl _) _
  have F1 : Full X w.heap.size 26 [.slice iq c.ins.length ia, .slice (some ⟨g2, o2, none⟩) c.ens.length ea, .slice tq c.txs.length ta, .int .i64 c.main] := by rw [← hX]; exact Full.new w _ _
  have hRX := hR.next B1
  have hiR : i < R.length := by rw [hn]; exact hi
  have y1 := (hRX.at_ i hiR).2.1
  have y1f := hRX.fz i 1 hiR (by omega)
  have HX : Hid (Full X w.heap.size 26 [.slice iq c.ins.length ia, .slice (some ⟨g2, o2, none⟩) c.ens.length ea, .slice tq c.txs.length ta, .int .i64 c.main] ∧ Below w.heap.size w X ∧ RkM X g st.1 Lk R ∧ i < R.length ∧ R.length = c.ins.length) := ⟨F1, B1, hRX, hiR, hn⟩
  obtain ⟨p1, p2, p3⟩ := piece_ok hc hf
  obtain ⟨lo, Hlo⟩ : ∃ lo : Nat, Hid ((enAt c.ens f).start = (lo : Int)) := ⟨(enAt c.ens f).start.toNat, (by omega : (enAt c.ens f).start = _)⟩
  obtain ⟨hh, Hhi⟩ : ∃ hh : Nat, Hid (endS c f = (hh : Int)) := ⟨(endS c f).toNat, (by omega : endS c f = _)⟩
  have hil := hc.il
  have hel := hc.el
  have hhl : hh ≤ c.ins.length := by have := Hhi.out; omega
  have hil6 : c.ins.length ≤ 60000 := hil
  have i0 : (0 : Int) ≤ (i : Int) := by omega
  have i1 : (i : Int) < (c.ins.length : Int) := by omega
  have f0 : (0 : Int) ≤ (f : Int) := by omega
  have f1 : (f : Int) < (c.ens.length : Int) := by omega
  unfold codeV
  clear m hc hBD hDg hf hR hn hS hA hg2 hr2 F1 B1 hRX hiR p1 p2 p3 hil hel hgw
  go_enter Tryd.func49, Tryd.ntmps49
  go_upto_region 2 with fail
  obtain ⟨X1, hX1⟩ : ∃ X1, X1 = X.setCell ⟨g, i * 3 + 1, none⟩ (.bool true) := ⟨_, rfl⟩
  rw [← hX1]
  obtain ⟨R1, hR1, hn1⟩ := HX.out.2.2.1.looked i HX.out.2.2.2.1
  have HX1 : Hid (Full X1 w.heap.size 26 [.slice iq c.ins.length ia, .slice (some ⟨g2, o2, none⟩) c.ens.length ea, .slice tq c.txs.length ta, .int .i64 c.main] ∧ Below D w X1 ∧ RkM X1 g st.1 (Lk.set i true) R1 ∧ R1.length = c.ins.length) := by
    rw [hX1]
    exact ⟨HX.out.1.other1 (by show w.heap.size ≠ g; have := HM.out.2.2.2.2.2.1; omega), (HX.out.2.1.mono (by have := HM.out.2.2.2.2.2.1; have := HM.out.2.2.2.1; omega)).setCell (p := ⟨g, i * 3 + 1, none⟩) HM.out.2.2.2.1 _, hR1, hn1.trans HX.out.2.2.2.2⟩
  clear y1 y1f hX hX1 hR1 hn1 HX
  obtain ⟨gi, oi, hqi, hgi, hri⟩ := code_ins (HM.out.1.below HX1.out.2.1 HM.out.2.2.1) i hi
  obtain ⟨xi, Hxi⟩ : ∃ xi, Hid (insAt c i = xi) := ⟨_, (rfl : insAt c i = _)⟩
  rw [Hxi.out] at hri
  obtain ⟨k, A, Bb⟩ := xi
  have HGI : Hid (gi < B ∧ X1.rangeAt gi (oi + i * 3) (ic (k, A, Bb))) := ⟨hgi, hri⟩
  subst hqi
  obtain ⟨q, cap, hqv, hsq, -⟩ := HX1.out.2.2.1.st i (by rw [HX1.out.2.2.2]; exact hi)
  have hk2 := (HX1.out.2.2.1.at_ i (by rw [HX1.out.2.2.2]; exact hi)).2.2
  rw [hqv] at hk2
  obtain ⟨s, Hs⟩ : ∃ s, Hid (stkAt st.1 i = s) := ⟨_, (rfl : stkAt st.1 i = _)⟩
  rw [Hs.out] at hsq hk2
  obtain ⟨sl, Hsl⟩ : ∃ sl, Hid (s.length = sl) := ⟨_, (rfl : s.length = _)⟩
  rw [Hsl.out] at hk2
  have HSQ : Hid (StQ X1 q cap s ∧ SOk s) := ⟨hsq, by rw [← Hs.out]; exact HM.out.2.2.2.2.2.2⟩
  have HK2 : Hid (X1.cell? ⟨g, i * 3 + 2, none⟩ = some (.slice q sl cap)) := hk2
  clear hgi hri hqv hsq hk2
  have SV : Hid (∀ w' : World, Below X1.heap.size X1 w' → w'.cell? ⟨w.heap.size, 0, none⟩ = some (.slice (some ⟨gi, oi, none⟩) c.ins.length ia) ∧ w'.cell? ⟨w.heap.size, 1, none⟩ = some (.slice (some ⟨g2, o2, none⟩) c.ens.length ea) ∧ w'.cell? ⟨w.heap.size, 2, none⟩ = some (.slice tq c.txs.length ta) ∧ w'.cell? ⟨w.heap.size, 3, none⟩ = some (.int .i64 c.main) ∧ w'.cell? ⟨gi, oi + i * 3, none⟩ = some (.int .i64 k) ∧ w'.cell? ⟨gi, oi + i * 3 + 1, none⟩ = some (.int .i64 A) ∧ w'.cell? ⟨gi, oi + i * 3 + 2, none⟩ = some (.int .i64 Bb) ∧ w'.cell? ⟨g, i * 3 + 2, none⟩ = some (.slice q sl cap) ∧ Below X1.heap.size X1 w') := fun w' hb => by
    have f1 := HX1.out.1.next hb
    have hr := range_same HGI.out.2 (hb.block gi (by have := HGI.out.1; have := HM.out.2.2.1; have := HM.out.2.2.2.1; have := HX1.out.2.2.1.fl.lt; omega))
    exact ⟨(f1.cell 0 _ rfl).1, (f1.cell 1 _ rfl).1, (f1.cell 2 _ rfl).1, (f1.cell 3 _ rfl).1, hr 0 _ rfl, hr 1 _ rfl, hr 2 _ rfl, (hb.cell (p := ⟨g, i * 3 + 2, none⟩) HX1.out.2.2.1.fl.lt).trans HK2.out, hb⟩
  obtain ⟨x0, x1, x2, x3, q0, q1, q2, k2, -⟩ := SV.out X1 (Below.refl _ _)
  have cDo : Hid (Calls Tryd.prog 13 #[.agg #[.slice (some ⟨gi, oi, none⟩) c.ins.length ia, .slice (some ⟨g2, o2, none⟩) c.ens.length ea, .slice tq c.txs.length ta, .int .i64 c.main], .int .i64 (f : Int), .agg #[.int .i64 k, .int .i64 A, .int .i64 Bb], .slice q sl cap] X1.drew fun z w' => Hid (DoP X1.drew w' z (doesR c (enAt c.ens f) (k, A, Bb) s))) := by
    have hd : Below X1.heap.size X1 X1.drew := (Below.refl _ _).drew
    have hb5 : Below D w X1.drew := HX1.out.2.1.trans (hd.mono (by have := HX1.out.2.2.1.fl.lt; have := HM.out.2.2.2.1; omega))
    have h1 := does_any (HM.out.1.below hb5 HM.out.2.2.1) HM.out.2.1 ia ea ta (by have := HX1.out.2.2.1.fl.lt; have := HM.out.2.2.2.1; have := HM.out.2.2.1; have := hd.size; omega) f HM.out.2.2.2.2.1 (insAt c i) (HM.out.2.1.is _ (ins_mem hi)) (HSQ.out.1.next hd) (sok_i64 HSQ.out.2) (by have := HSQ.out.2.len; omega)
    rw [Hsl.out] at h1
    unfold codeV at h1
    rw [Hxi.out] at h1
    exact h1
  have HE : Hid (doesR c (enAt c.ens f) (k, A, Bb) s = if namedS c (enAt c.ens f) (k, A, Bb) then effS c (enAt c.ens f) (k, A, Bb) s else .error 143) := by
    rw [← Hxi.out]
    exact does_eq HSQ.out.2 (ent_ok.1 (HM.out.2.1.es _ (en_mem HM.out.2.2.2.2.1))) (HM.out.2.1.is _ (ins_mem hi)) (fun e he => ent_ok.1 (HM.out.2.1.es e he))
  have HL : Hid (T = match doesR c (enAt c.ens f) (k, A, Bb) s with | .error e => .error e | .ok s' => fwsS (enAt c.ens f).start (endS c f) s' (flS (k, A, Bb) i) st) := by
    show T = _
    rw [HE.out, ← HT.out, lkS, Hxi.out, Hs.out]
    split <;> rfl
  clear HE
  cases hD : doesR c (enAt c.ens f) (k, A, Bb) s with
  | error e =>
    rw [hD] at cDo HL
    have hT : T = .error e := HL.out
    have hnz : e ≠ 0 := nz_lk (HT.out.trans hT)
    have HT2 : Hid (T = .error e) := hT
    have n1 : (e == 0) = false := by rw [beq_eq_false_iff_ne]; exact hnz
    have n2 : (e != 0) = true := by rw [bne, n1]; rfl
    have cDd : Calls Tryd.prog 13 #[.agg #[.slice (some ⟨gi, oi, none⟩) c.ins.length ia, .slice (some ⟨g2, o2, none⟩) c.ens.length ea, .slice tq c.txs.length ta, .int .i64 c.main], .int .i64 (f : Int), .agg #[.int .i64 k, .int .i64 A, .int .i64 Bb], .slice q sl cap] X1.drew fun z w' => z = .returned (.tuple #[.slice none 0 0, .int .i64 e]) ∧ Hid (Below X1.heap.size X1 w') := cDo.out.mono fun z w' h => by
      obtain ⟨h1, h2⟩ := h.out
      have hd : Below X1.heap.size X1 X1.drew := (Below.refl _ _).drew
      exact ⟨h1, hd.trans (h2.mono hd.size)⟩
    clear hT hnz hD cDo HL
    go_wp2_with fail
    go_region_held3 (fun w' => w'.cell? ⟨w.heap.size, 0, none⟩ = some (.slice (some ⟨gi, oi, none⟩) c.ins.length ia) ∧ w'.cell? ⟨w.heap.size, 1, none⟩ = some (.slice (some ⟨g2, o2, none⟩) c.ens.length ea) ∧ w'.cell? ⟨w.heap.size, 2, none⟩ = some (.slice tq c.txs.length ta) ∧ w'.cell? ⟨w.heap.size, 3, none⟩ = some (.int .i64 c.main) ∧ w'.cell? ⟨gi, oi + i * 3, none⟩ = some (.int .i64 k) ∧ w'.cell? ⟨gi, oi + i * 3 + 1, none⟩ = some (.int .i64 A) ∧ w'.cell? ⟨gi, oi + i * 3 + 2, none⟩ = some (.int .i64 Bb) ∧ w'.cell? ⟨g, i * 3 + 2, none⟩ = some (.slice q sl cap) ∧ Below X1.heap.size X1 w') (exact SV.out _ (by first | with_reducible assumption | exact (Below.refl _ X1).drew))
      (first
      | (go_at_call 13; (with_reducible refine cDd.mono ?_); rintro ez W5 ⟨rfl, hb5⟩; have hcd5 : Below X1.heap.size X1 W5 := hb5.out)
      | fail)
    have HB : Hid (Below D w W5) := HX1.out.2.1.trans (hcd5.mono (by have := HX1.out.2.2.1.fl.lt; have := HM.out.2.2.2.1; omega))
    clear hb5 hcd5 cDd x0 x1 x2 x3 q0 q1 q2 k2 SV
    go_wp2
    go_ret
    show LkP _ _ _ _ _ _ _ T
    rw [HT2.out]
    exact ⟨rfl, HB.out⟩
  | ok s' =>
    rw [hD] at cDo HL
    have HL2 : Hid (T = fwsS (enAt c.ens f).start (endS c f) s' (flS (k, A, Bb) i) st) := HL.out
    have HS' : Hid (s'.length ≤ 400) := by
      have h1 := does_sok HSQ.out.2 (ent_ok.1 (HM.out.2.1.es _ (en_mem HM.out.2.2.2.2.1))) (by have := HM.out.2.1.is _ (ins_mem hi); rw [Hxi.out] at this; exact this) (fun e he => ent_ok.1 (HM.out.2.1.es e he)) hD
      exact h1.len
    have cDd : Calls Tryd.prog 13 #[.agg #[.slice (some ⟨gi, oi, none⟩) c.ins.length ia, .slice (some ⟨g2, o2, none⟩) c.ens.length ea, .slice tq c.txs.length ta, .int .i64 c.main], .int .i64 (f : Int), .agg #[.int .i64 k, .int .i64 A, .int .i64 Bb], .slice q sl cap] X1.drew fun z w' => ∃ ga ca, z = .returned (.tuple #[.slice (some ⟨ga, 0, none⟩) s'.length ca, .int .i64 0]) ∧ Hid (w'.ownsRow X1.heap.size 45 1 (.slice (some ⟨ga, 0, none⟩) s'.length ca) s'.length (sv s') ∧ Below X1.heap.size X1 w') := cDo.out.mono fun z w' h => by
      obtain ⟨ga, ca, e, o, b⟩ := h.out
      have hd : Below X1.heap.size X1 X1.drew := (Below.refl _ _).drew
      exact ⟨ga, ca, e, o, hd.trans (b.mono hd.size)⟩
    clear hD cDo HL
    go_wp2_with fail
    go_region_held3 (fun w' => w'.cell? ⟨w.heap.size, 0, none⟩ = some (.slice (some ⟨gi, oi, none⟩) c.ins.length ia) ∧ w'.cell? ⟨w.heap.size, 1, none⟩ = some (.slice (some ⟨g2, o2, none⟩) c.ens.length ea) ∧ w'.cell? ⟨w.heap.size, 2, none⟩ = some (.slice tq c.txs.length ta) ∧ w'.cell? ⟨w.heap.size, 3, none⟩ = some (.int .i64 c.main) ∧ w'.cell? ⟨gi, oi + i * 3, none⟩ = some (.int .i64 k) ∧ w'.cell? ⟨gi, oi + i * 3 + 1, none⟩ = some (.int .i64 A) ∧ w'.cell? ⟨gi, oi + i * 3 + 2, none⟩ = some (.int .i64 Bb) ∧ w'.cell? ⟨g, i * 3 + 2, none⟩ = some (.slice q sl cap) ∧ Below X1.heap.size X1 w') (exact SV.out _ (by first | with_reducible assumption | exact (Below.refl _ X1).drew))
      (first
      | (go_at_call 13; (with_reducible refine cDd.mono ?_); rintro ez W5 ⟨ga, ca, rfl, hb5⟩; have hcd5 : Below X1.heap.size X1 W5 := hb5.out.2)
      | fail)
    have H5 : Hid (W5.ownsRow X1.heap.size 45 1 (.slice (some ⟨ga, 0, none⟩) s'.length ca) s'.length (sv s') ∧ Below X1.heap.size X1 W5) := hb5.out
    clear cDd x0 x1 x2 x3 q0 q1 q2 k2
    obtain ⟨x0, x1, x2, x3, q0, q1, q2, k2, -⟩ := SV.out W5 hcd5
    clear hb5 hcd5 SV
    have cL := rfollowers_any W5 (k, A, Bb) i (by omega)
    simp only at cL
    go_wp2_with fail
    refine cL.mono ?_
    rintro z W6 h6
    obtain ⟨fv, rfl, hfm, b6⟩ := h6.out
    have HW6 : Hid (Below X1.heap.size X1 W6 ∧ Below D w W6 ∧ W6.ownsRow X1.heap.size 45 1 (.slice (some ⟨ga, 0, none⟩) s'.length ca) s'.length (sv s')) := ⟨below2 H5.out.2 b6, HX1.out.2.1.trans ((below2 H5.out.2 b6).mono (by have := HX1.out.2.2.1.fl.lt; have := HM.out.2.2.2.1; omega)), own_next H5.out.1 b6⟩
    clear cL h6 b6 x0 x1 x2 x3 q0 q1 q2 k2 H5
    obtain ⟨L, HLl⟩ : ∃ L, Hid (flS (k, A, Bb) i = L) := ⟨_, (rfl : flS (k, A, Bb) i = _)⟩
    rw [HLl.out] at hfm HL2
    rcases hfm with ⟨rfl, rfl⟩ | ⟨hne, gf, rfl, hff⟩
    · have HT2 : Hid (T = .ok st) := HL2.out
      have HP : Hid (RkM W6 g st.1 (Lk.set i true) R1 ∧ R1.length = c.ins.length ∧ Below D w W6) := ⟨HX1.out.2.2.1.next HW6.out.1, HX1.out.2.2.2, HW6.out.2.1⟩
      go_wp2_with fail
      go_loopw [12] (fun iv wr => iv = .int .i64 0 ∧ wr = W6) (fun _ _ => 0)
      case atStart => exact ⟨rfl, rfl⟩
      case round =>
        obtain ⟨rfl, rfl⟩ := hrel
        go_wp2
        go_ret
        show LkP _ _ _ _ _ _ _ T
        rw [HT2.out]
        exact ⟨rfl, HP.out.2.2, R1, HP.out.1, HP.out.2.1⟩
    · obtain ⟨ll, Hll⟩ : ∃ ll, Hid (L.length = ll) := ⟨_, (rfl : L.length = _)⟩
      have hl6 : ll ≤ 60000 := by rw [← Hll.out, ← HLl.out]; exact fl_len _ _
      obtain ⟨sl', Hsl'⟩ : ∃ sl', Hid (s'.length = sl') := ⟨_, (rfl : s'.length = _)⟩
      rw [Hll.out, Hsl'.out]
      have HI0 : Hid (LI w W6 D g w.heap.size gf ga ca c.ins.length [.slice (some ⟨gi, oi, none⟩) c.ins.length ia, .slice (some ⟨g2, o2, none⟩) c.ens.length ea, .slice tq c.txs.length ta, .int .i64 c.main] L s' (Lk.set i true) st ∧ T = fwsS (enAt c.ens f).start (endS c f) s' (L.drop 0) st ∧ ∀ j, (stkAt st.1 j).length ≤ 400) := by
        refine ⟨⟨HW6.out.2.1, HX1.out.1.next HW6.out.1, hff, ?_, ?_, ⟨R1, HX1.out.2.2.1.next HW6.out.1, HX1.out.2.2.2⟩, HM.out.2.2.2.1⟩, HL2.out, HA.out⟩
        · have o7 := HW6.out.2.2
          obtain ⟨q', cap', e, hle, hr⟩ := own_slice o7
          cases e
          refine ⟨hle, fun h => (by cases h), fun a h h0 => ?_⟩
          cases h
          obtain ⟨g', e', hr'⟩ := hr h0
          cases e'
          exact ⟨ga, 0, rfl, (own_blk o7 ga rfl).lt, hr'⟩
        · have h1 := (HW6.out.2.2.lt ga rfl).1
          have h2 := HX1.out.2.2.1.fl.lt
          omega
      clear HL2 HA HW6 HX1 hne hff HK2 HSQ
      go_wp2_with fail
      go_loopw [12] (fun iv wr => ∃ (n : Nat) (st1 : Vst), n ≤ ll ∧ iv = .int .i64 (n : Int) ∧ Hid (LI w wr D g w.heap.size gf ga ca c.ins.length [.slice (some ⟨gi, oi, none⟩) c.ins.length ia, .slice (some ⟨g2, o2, none⟩) c.ens.length ea, .slice tq c.txs.length ta, .int .i64 c.main] L s' (Lk.set i true) st1 ∧ T = fwsS (enAt c.ens f).start (endS c f) s' (L.drop n) st1 ∧ ∀ j, (stkAt st1.1 j).length ≤ 400)) (fun iv _ => ll - (intOf iv).toNat)
      case atStart => exact ⟨0, st, Nat.zero_le _, rfl, HI0⟩
      case round =>
        obtain ⟨n, st1, hn, rfl, HI⟩ := hrel
        clear HI0
        by_cases hlt : n < ll
        · have hLn : n < L.length := by rw [Hll.out]; exact hlt
          obtain ⟨at_, er, hLe⟩ : ∃ a e, L[n] = (a, e) := ⟨_, _, rfl⟩
          have HT1 : Hid (T = match fwS (enAt c.ens f).start (endS c f) s' st1 (at_, er) with | .error k => .error k | .ok st2 => fwsS (enAt c.ens f).start (endS c f) s' (L.drop (n + 1)) st2) := by
            have := HI.out.2.1
            rw [List.drop_eq_getElem_cons hLn, hLe, fwsS] at this
            exact this
          have v0 : wr.cell? ⟨gf, n * 2, none⟩ = some (.int .i64 at_) := by
            refine (HI.out.1.f.cell (n * 2) _ ?_).1
            have := flat_at fc 2 (fun _ => rfl) L n 0 hLn (by decide)
            rw [Nat.add_zero] at this
            rw [this, hLe]
            rfl
          have v1 : wr.cell? ⟨gf, n * 2 + 1, none⟩ = some (.int .i64 er) := by
            refine (HI.out.1.f.cell (n * 2 + 1) _ ?_).1
            rw [flat_at fc 2 (fun _ => rfl) L n 1 hLn (by decide), hLe]
            rfl
          have r1 : wr.cell? ⟨g2, o2 + f * 5 + 1, none⟩ = some (.int .i64 (lo : Int)) := by
            have := HG2.out.2 1 _ rfl
            rw [Hlo.out] at this
            exact (HI.out.1.b.cell (p := ⟨g2, o2 + f * 5 + 1, none⟩) HG2.out.1).trans this
          have x0 := (HI.out.1.x.cell 0 _ rfl).1
          have x1 := (HI.out.1.x.cell 1 _ rfl).1
          have x2 := (HI.out.1.x.cell 2 _ rfl).1
          have x3 := (HI.out.1.x.cell 3 _ rfl).1
          have b0 : (0 : Int) ≤ (n : Int) := by omega
          have b1 : (n : Int) < (ll : Int) := by omega
          clear hLe hLn
          by_cases h1 : at_ < (lo : Int)
          · have HT2 : Hid (T = .error er) := by
              show T = _
              rw [HT1.out, fwS, if_neg (by rw [Hlo.out]; show ¬ ((lo : Int) ≤ at_ ∧ _); omega)]
            go_wp2
            go_ret
            show LkP _ _ _ _ _ _ _ T
            rw [HT2.out]
            exact ⟨rfl, HI.out.1.b⟩
          · have cE := last_any (HM.out.1.below HI.out.1.b HM.out.2.2.1) HM.out.2.1 ia ea ta (by have := HI.out.1.b.size; have := HM.out.2.2.1; have := HM.out.2.2.2.1; have := HM.out.2.2.2.2.2.1; omega) f HM.out.2.2.2.2.1
            rw [Hhi.out] at cE
            unfold codeV at cE
            go_wp2_with fail
            refine cE.mono ?_
            rintro z W7 ⟨rfl, b7⟩
            have HI7 : Hid (LI w W7 D g w.heap.size gf ga ca c.ins.length [.slice (some ⟨gi, oi, none⟩) c.ins.length ia, .slice (some ⟨g2, o2, none⟩) c.ens.length ea, .slice tq c.txs.length ta, .int .i64 c.main] L s' (Lk.set i true) st1 ∧ ∀ j, (stkAt st1.1 j).length ≤ 400) := ⟨HI.out.1.next b7, HI.out.2.2⟩
            have v1' : W7.cell? ⟨gf, n * 2 + 1, none⟩ = some (.int .i64 er) := (b7.cell (p := ⟨gf, n * 2 + 1, none⟩) HI.out.1.f.lt).trans v1
            clear cE b7 v0 v1 r1 x0 x1 x2 x3 HI
            by_cases h2 : at_ < (hh : Int)
            · clear v1'
              have h3 : ¬ ((hh : Int) ≤ at_) := by omega
              obtain ⟨a, rfl⟩ : ∃ a : Nat, at_ = (a : Int) := ⟨at_.toNat, by omega⟩
              have haL : a < c.ins.length := by omega
              obtain ⟨R7, hR7, hn7⟩ := HI7.out.1.rk
              have haR : a < R7.length := by rw [hn7]; exact haL
              obtain ⟨y0, -, y2⟩ := hR7.at_ a haR
              obtain ⟨q', cap', hqv, hsq, -⟩ := hR7.st a haR
              rw [hqv] at y2
              have y0f := hR7.fz a 0 haR (by omega)
              have y2f := hR7.fz a 2 haR (by omega)
              rw [Nat.add_zero] at y0f
              have y2c := y2
              have cS := same_any (w := W7) (c1 := cap') (c2 := ca) (st_row hsq rfl) (st_row HI7.out.1.sq rfl) (by have := HI7.out.2 a; omega)
              obtain ⟨sa, Hsa⟩ : ∃ sa, Hid (stkAt st1.1 a = sa) := ⟨_, (rfl : stkAt st1.1 a = _)⟩
              obtain ⟨dd, Hdd⟩ : ∃ dd, Hid (decide (stkAt st1.1 a = s') = dd) := ⟨_, (rfl : decide (stkAt st1.1 a = s') = _)⟩
              rw [Hdd.out] at cS
              obtain ⟨kl, Hkl⟩ : ∃ kl, Hid ((stkAt st1.1 a).length = kl) := ⟨_, (rfl : (stkAt st1.1 a).length = _)⟩
              rw [Hkl.out] at y2 cS
              rw [Hsl'.out] at cS
              have HF : Hid (fwS (enAt c.ens f).start (endS c f) s' st1 ((a : Int), er) = match st1.1.getD a none with | none => .ok (st1.1.set a (some s'), pushH st1.2 (a : Int)) | some k => if k.length ≠ s'.length then .error 141 else if k ≠ s' then .error 142 else .ok st1) := by
                show fwS _ _ _ _ _ = _
                rw [fwS, if_pos (by rw [Hlo.out, Hhi.out]; exact ⟨by omega, h2⟩)]
                rfl
              have a0 : (0 : Int) ≤ (a : Int) := by omega
              have a1 : (a : Int) < (c.ins.length : Int) := by omega
              obtain ⟨ki, Hki⟩ : ∃ k, Hid (st1.1.getD a none = k) := ⟨_, (rfl : st1.1.getD a none = _)⟩
              rw [Hki.out] at y0
              clear hR7 hsq hqv y2c
              go_wp2_with fail
              refine cS.mono ?_
              rintro z W8 ⟨rfl, b8⟩
              have HI8 : Hid (LI w W8 D g w.heap.size gf ga ca c.ins.length [.slice (some ⟨gi, oi, none⟩) c.ins.length ia, .slice (some ⟨g2, o2, none⟩) c.ens.length ea, .slice tq c.txs.length ta, .int .i64 c.main] L s' (Lk.set i true) st1 ∧ ∀ j, (stkAt st1.1 j).length ≤ 400) := ⟨HI7.out.1.next b8, HI7.out.2⟩
              clear cS b8 y0 y2 y0f y2f HI7 hn7 haR
              obtain ⟨R8, hR8, hn8⟩ := HI8.out.1.rk
              have haR : a < R8.length := by rw [hn8]; exact haL
              obtain ⟨y0, -, y2⟩ := hR8.at_ a haR
              obtain ⟨q8, cap8, hqv, -, -⟩ := hR8.st a haR
              rw [hqv, Hkl.out] at y2
              have y0f := hR8.fz a 0 haR (by omega)
              have y2f := hR8.fz a 2 haR (by omega)
              rw [Nat.add_zero] at y0f
              rw [Hki.out] at y0
              clear hR8 hqv hn8 haR
              cases ki with
              | none =>
                have HT2 : Hid (T = fwsS (enAt c.ens f).start (endS c f) s' (L.drop (n + 1)) (st1.1.set a (some s'), pushH st1.2 (a : Int))) := by
                  show T = _
                  rw [HT1.out, HF.out, Hki.out]
                have HI9 : Hid (LI w ((W8.setCell ⟨g, a * 3, none⟩ (.bool true)).setCell ⟨g, a * 3 + 2, none⟩ (.slice (some ⟨ga, 0, none⟩) sl' ca)) D g w.heap.size gf ga ca c.ins.length [.slice (some ⟨gi, oi, none⟩) c.ins.length ia, .slice (some ⟨g2, o2, none⟩) c.ens.length ea, .slice tq c.txs.length ta, .int .i64 c.main] L s' (Lk.set i true) (st1.1.set a (some s'), pushH st1.2 (a : Int)) ∧ ∀ j, (stkAt (st1.1.set a (some s')) j).length ≤ 400) := by
                  have := HI8.out.1.put a haL (pushH st1.2 (a : Int))
                  rw [Hsl'.out] at this
                  refine ⟨this, fun j => ?_⟩
                  unfold stkAt
                  rw [set_getD]
                  split
                  · exact HS'.out
                  · exact HI8.out.2 j
                simp only [Option.isSome] at y0
                go_wp2
                exact ⟨⟨n + 1, _, by omega, by go_num, HI9.out.1, HT2.out, HI9.out.2⟩, by simp [intOf]; omega⟩
              | some kk =>
                have hkk : stkAt st1.1 a = kk := by unfold stkAt; rw [Hki.out]; rfl
                simp only [Option.isSome] at y0
                by_cases h5 : kl = sl'
                · subst h5
                  cases dd with
                  | true =>
                    have HT2 : Hid (T = fwsS (enAt c.ens f).start (endS c f) s' (L.drop (n + 1)) st1) := by
                      have e2 := of_decide_eq_true Hdd.out
                      rw [hkk] at e2
                      show T = _
                      rw [HT1.out, HF.out, Hki.out]
                      simp only [e2, ne_eq, not_true_eq_false, if_false]
                    clear hkk
                    go_wp2
                    exact ⟨⟨n + 1, st1, by omega, by go_num, HI8.out.1, HT2.out, HI8.out.2⟩, by simp [intOf]; omega⟩
                  | false =>
                    have HT2 : Hid (T = .error 142) := by
                      have e2 := of_decide_eq_false Hdd.out
                      rw [hkk] at e2
                      have e3 : kk.length = s'.length := by rw [← hkk, Hkl.out, Hsl'.out]
                      show T = _
                      rw [HT1.out, HF.out, Hki.out]
                      simp only [ne_eq, e3, not_true_eq_false, if_false, e2, not_false_eq_true, if_true]
                    clear hkk
                    go_wp2
                    go_ret
                    show LkP _ _ _ _ _ _ _ T
                    rw [HT2.out]
                    exact ⟨rfl, HI8.out.1.b⟩
                · have HT2 : Hid (T = .error 141) := by
                    have e3 : ¬ (kk.length = s'.length) := by rw [← hkk, Hkl.out, Hsl'.out]; exact h5
                    show T = _
                    rw [HT1.out, HF.out, Hki.out]
                    simp only [ne_eq, e3, not_false_eq_true, if_true]
                  have m1 : ((kl : Int) == (sl' : Int)) = false := by rw [beq_eq_false_iff_ne]; omega
                  have m2 : ((kl : Int) != (sl' : Int)) = true := by rw [bne, m1]; rfl
                  clear hkk
                  go_wp2
                  go_ret
                  show LkP _ _ _ _ _ _ _ T
                  rw [HT2.out]
                  exact ⟨rfl, HI8.out.1.b⟩
            · have h3 : (hh : Int) ≤ at_ := by omega
              have HT2 : Hid (T = .error er) := by
                show T = _
                rw [HT1.out, fwS, if_neg (by rw [Hhi.out]; show ¬ (_ ∧ at_ < (hh : Int)); omega)]
              go_wp2
              go_ret
              show LkP _ _ _ _ _ _ _ T
              rw [HT2.out]
              exact ⟨rfl, HI7.out.1.b⟩
        · obtain rfl : ll = n := by omega
          have n1 : ¬ ((ll : Int) < (ll : Int)) := by omega
          have HT2 : Hid (T = .ok st1) := by
            have := HI.out.2.1
            rw [List.drop_eq_nil_of_le (by rw [Hll.out]; omega)] at this
            exact this
          go_wp2
          go_ret
          show LkP _ _ _ _ _ _ _ T
          rw [HT2.out]
          obtain ⟨R', h1, h2⟩ := HI.out.1.rk
          exact ⟨rfl, HI.out.1.b, R', h1, h2⟩
end
end Go.Proofs.YtdcaonfnhdjibaaDoor
