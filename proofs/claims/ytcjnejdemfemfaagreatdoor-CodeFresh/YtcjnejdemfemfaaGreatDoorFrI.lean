import Derived.Test.YtcjnejdemfemfaaGreatDoorFR1
import Derived.BigQuiet
import Derived.Lib.QuietBelow
namespace Go.Proofs.YtcjnejdemfemfaaGreatDoor
open Go.RowKit

theorem hcI : ∀ x, (ic x).length = 3 := fun _ => rfl
theorem oneI : ∀ x, ∀ u ∈ ic x, u.oneCell' = true := ic_one
theorem callSI (a b : Value) (w : World) : (callFunc 63 #[a, b]).run Tryz.prog w = .ok (.enter 63 #[a, b]) w := by kernel_rfl
theorem infoLI : (Tryz.prog.info? 22).map (fun i => (i.zero, i.size, i.bytes)) = some (some (.slice none 0 0), 1, 24) := by kernel_rfl
theorem neqIF (a b c : Int) : ∀ w : World, (binOp BinOp.neq 48 (.agg #[.int .i64 a, .int .i64 b, .int .i64 c]) (.agg #[.int .i64 a, .int .i64 b, .int .i64 c])).run Tryz.prog w = .ok (.bool false) w := by
  intro w
  simp [go_sem]
theorem there3 {W : World} {g o : Nat} (h : W.there g o 3) : ∃ x0 x1 x2, W.cell? ⟨g, o, none⟩ = some x0 ∧ W.cell? ⟨g, o + 1, none⟩ = some x1 ∧ W.cell? ⟨g, o + 2, none⟩ = some x2 ∧ W.frozen? ⟨g, o, none⟩ = false ∧ W.frozen? ⟨g, o + 1, none⟩ = false ∧ W.frozen? ⟨g, o + 2, none⟩ = false := by
  have h0 := h 0 (by decide)
  have h1 := h 1 (by decide)
  have h2 := h 2 (by decide)
  rw [Nat.add_zero] at h0
  obtain ⟨x0, e0⟩ := Option.isSome_iff_exists.1 h0.1
  obtain ⟨x1, e1⟩ := Option.isSome_iff_exists.1 h1.1
  obtain ⟨x2, e2⟩ := Option.isSome_iff_exists.1 h2.1
  exact ⟨x0, x1, x2, e0, e1, e2, h0.2, h1.2, h2.2⟩

set_option maxRecDepth 100000 in
set_option maxHeartbeats 4000000 in
theorem apartI_any (w : World) (O cap b : Nat) (Ls : List (List In)) (vs : List Value) (h : Ans ic 3 48 22 w b Ls (.slice (some ⟨O, 0, none⟩) Ls.length cap) vs) (hm : Ls.length ≤ 300000000) (hn : ∀ l ∈ Ls, l.length ≤ 100000000) (hbw : b ≤ w.heap.size) :
    Calls Tryz.prog 35 #[.slice (some ⟨O, 0, none⟩) Ls.length cap] w fun e w' => e = .returned (.bool true) ∧ Kp (bkL vs) w w' := by
  have H0 : Hid (Mkd mkI Ls Ls 0 0 ∧ Ans ic 3 48 22 w b Ls (.slice (some ⟨O, 0, none⟩) Ls.length cap) vs ∧ Kp (bkL vs) w w) := ⟨Mkd.start Ls, h, Kp.refl _ _⟩
  clear h
  go_enter Tryz.func35, Tryz.ntmps35
  go_wp2_with fail
  go_loopw [3] (fun s3 wr => ∃ (i : Nat) (C : List (List _)), i ≤ Ls.length ∧ s3 = .int .i64 (i : Int) ∧ Hid (Mkd mkI Ls C i 0 ∧ Ans ic 3 48 22 wr b C (.slice (some ⟨O, 0, none⟩) Ls.length cap) vs ∧ Kp (bkL vs) w wr)) (fun s3 _ => Ls.length - (intOf s3).toNat)
  case atStart => exact ⟨0, Ls, Nat.zero_le _, rfl, H0⟩
  case round =>
    clear H0
    obtain ⟨i, C, hi, rfl, hS⟩ := hrel
    by_cases hlt : i < Ls.length
    · have hlt1 : (i : Int) < (Ls.length : Int) := by omega
      have i0 : (0 : Int) ≤ (i : Int) := by omega
      obtain ⟨qi, ci, hvi, -, hgi, -⟩ := hS.out.2.1.at hS.out.1 i hlt
      have hq := hn Ls[i] (List.getElem_mem hlt)
      obtain ⟨q, hqe⟩ : ∃ q, Ls[i].length = q := ⟨_, rfl⟩
      have HQ : Hid (Ls[i].length = q) := hqe
      have HV : Hid (vs[i]? = some (.slice qi Ls[i].length ci)) := hvi
      rw [hqe] at hq hgi
      clear hqe hvi
      go_wp2_with fail
      go_loopw [4] (fun s4 wr => ∃ (j : Nat) (C : List (List _)), j ≤ q ∧ s4 = .int .i64 (j : Int) ∧ Hid (Mkd mkI Ls C i j ∧ Ans ic 3 48 22 wr b C (.slice (some ⟨O, 0, none⟩) Ls.length cap) vs ∧ Kp (bkL vs) w wr)) (fun s4 _ => q - (intOf s4).toNat)
      case atStart => exact ⟨0, C, Nat.zero_le _, rfl, hS⟩
      case round =>
        clear hS
        obtain ⟨j, C2, hj, rfl, hT⟩ := hrel
        obtain ⟨hM, hA, hK⟩ := hT.out
        obtain ⟨q', c', h1, h2, -, h4⟩ := hA.at hM i hlt
        rw [HV.out] at h1
        cases h1
        rw [HQ.out] at h2 h4
        by_cases hjq : j < q
        · obtain ⟨g, rfl⟩ := hgi (by omega)
          have hjq1 : (j : Int) < (q : Int) := by omega
          have j0 : (0 : Int) ≤ (j : Int) := by omega
          have hiC : i < C2.length := by rw [hM.len]; exact hlt
          have hCl : C2[i].length = q := (hM.lenAt i hlt).trans HQ.out
          have hbk := own_blk h4 g rfl
          have HST : Hid (∀ W, Below wr.heap.size wr W → (W.cell? ⟨O, i, none⟩ = some (.slice (some ⟨g, 0, none⟩) q ci) ∧ W.there g (j * 3) 3) ∧ Hid (∃ C3, Mkd mkI Ls C3 i (j + 1) ∧ Ans ic 3 48 22 (W.setCells g (j * 3) (ic (mkI i j))) b C3 (.slice (some ⟨O, 0, none⟩) Ls.length cap) vs ∧ Kp (bkL vs) w (W.setCells g (j * 3) (ic (mkI i j))))) := fun W hW => by
            refine ⟨⟨(hW.cell (p := ⟨O, i, none⟩) (block_lt_of_cell h2)).trans h2, (hbk.next hW).there _ _ (by omega)⟩, _, hM.step hiC, ?_, ?_⟩
            · have := (hA.next hW).put hcI (by decide) i j g ci hiC (by omega) (by rw [hCl, ← HQ.out]; exact HV.out) (mkI i j)
              exact this
            · exact Kp.setCells (.inl ⟨i, _, HV.out, rfl⟩) _ _ (hK.next hW)
          have HSG : Hid (∀ W, Calls Tryz.prog 63 #[.int .i64 (i : Int), .int .i64 (j : Int)] W fun e w' => ∃ v, e = .returned v ∧ (v = .agg #[.int .i64 0, .int .i64 (j : Int), .int .i64 (i : Int)] ∧ Below W.heap.size W w')) := fun W => (signI_any W i j (by omega) (by omega)).mono fun e w' ⟨e1, e2⟩ => ⟨_, e1, rfl, e2⟩
          clear hM hA hK hT h4 hbk hCl hiC hgi
          go_wp2_with fail
          go_region_law (first
            | (refine step_call (by rfl) 63 [.tmp 31, .tmp 32] #[3, 3] [.int .i64 (i : Int), .int .i64 (j : Int)] (by rfl) (by rfl) (callSI _ _) _ (HSG.out _) ?_; rintro v w3 ⟨rfl, hb3⟩; obtain ⟨⟨d1, TH⟩, HNX⟩ := HST.out w3 (by first | exact hb3 | exact ((Below.refl _ wr).drew).trans hb3); obtain ⟨y0, y1, y2, a0, a1, a2, f0, f1, f2⟩ := there3 TH))
          all_goals
            obtain ⟨C3, HC3⟩ : ∃ C3, Hid (Mkd mkI Ls C3 i (j + 1) ∧ Ans ic 3 48 22 (w3.setCells g (j * 3) (ic (mkI i j))) b C3 (.slice (some ⟨O, 0, none⟩) Ls.length cap) vs ∧ Kp (bkL vs) w (w3.setCells g (j * 3) (ic (mkI i j)))) := HNX.out
            clear HNX HST HSG d1 TH
            generalize hY : ((w3.setCell ⟨g, j * 3, none⟩ (.int .i64 0)).setCell ⟨g, j * 3 + 1, none⟩ (.int .i64 (j : Int))).setCell ⟨g, j * 3 + 2, none⟩ (.int .i64 (i : Int)) = Y
            have HC4 : Hid (Mkd mkI Ls C3 i (j + 1) ∧ Ans ic 3 48 22 Y b C3 (.slice (some ⟨O, 0, none⟩) Ls.length cap) vs ∧ Kp (bkL vs) w Y) := by rw [← hY]; exact HC3
            clear HC3 hY a0 a1 a2 f0 f1 f2 h2 hb3
            go_wp2
            exact ⟨⟨j + 1, C3, by omega, by go_num, HC4⟩, by simp [intOf]; omega⟩
        · obtain rfl : j = q := by omega
          have HT2 : Hid (Mkd mkI Ls C2 (i + 1) 0 ∧ Ans ic 3 48 22 wr b C2 (.slice (some ⟨O, 0, none⟩) Ls.length cap) vs ∧ Kp (bkL vs) w wr) := ⟨hM.next (fun hi' => Nat.le_of_eq ((hM.lenAt i hlt).trans HQ.out)), hA, hK⟩
          clear hM hA hK hT h4
          go_wp2
          exact ⟨⟨i + 1, C2, by omega, by go_num, HT2⟩, by simp [intOf]; omega⟩
    obtain rfl : i = Ls.length := by omega
    have HL0 : Hid (Lg ic 3 48 mkI wr.heap.size wr b (Ls.map List.length) vs []) := Lg.start hS.out.2.1 hS.out.1
    have HK2 : Hid (Kp (bkL vs) w wr) := hS.out.2.2
    have HO : Hid (∀ W : World, Kp (bkL vs) wr W → ∀ m (hm : m < Ls.length), ∃ q cp, vs[m]? = some (.slice q Ls[m].length cp) ∧ W.cell? ⟨O, m, none⟩ = some (.slice q Ls[m].length cp)) := fun W hW m hm => by
      obtain ⟨q, cp, h1, h2, -, -⟩ := hS.out.2.1.at hS.out.1 m hm
      have hb := own_blk hS.out.2.1.out O rfl
      refine ⟨q, cp, h1, (World.cell?_of_block (w := wr) (w' := W) (a := ⟨O, m, none⟩) (hW.block O hb.lt ?_)).trans h2⟩
      rintro ⟨n, y, hy, hg⟩
      exact hb.ne (HL0.out.vb n y O hy hg).2 (by decide) rfl
    have hbz : b ≤ wr.heap.size := Nat.le_trans hbw hS.out.2.2.size
    clear hS hlt hi
    generalize wr = w2 at *
    go_wp2_with fail
    go_loopw [5, 6] (fun s5 s6 wr => ∃ (c : Nat) (us : List Value), c ≤ Ls.length ∧ us.length = c ∧ s6 = .int .i64 (c : Int) ∧ Hid (wr.ownsRow w2.heap.size 22 1 s5 c us) ∧ Hid (Lg ic 3 48 mkI w2.heap.size wr b (Ls.map List.length) vs us) ∧ Hid (Kp (bkL vs) w2 wr)) (fun _ s6 _ => Ls.length - (intOf s6).toNat)
    case atStart => exact ⟨0, [], Nat.zero_le _, rfl, rfl, World.ownsRow_nil _ _ _ _, HL0, Kp.refl _ _⟩
    case round =>
      clear HL0
      obtain ⟨c, us, hc, hus, rfl, hO5, hG, hB⟩ := hrel
      have HUS : Hid (us.length = c) := hus
      clear hus
      by_cases hci : c < Ls.length
      · have hci1 : (c : Int) < (Ls.length : Int) := by omega
        have c0 : (0 : Int) ≤ (c : Int) := by omega
        obtain ⟨qc, cc, hvc, ho⟩ := HO.out wr hB.out c hci
        have hq := hn Ls[c] (List.getElem_mem hci)
        have hns : (Ls.map List.length)[c]? = some Ls[c].length := by rw [List.getElem?_map, List.getElem?_eq_getElem hci]; rfl
        have HCc : Hid (∀ W, Kp (fun g => (Value.slice qc Ls[c].length cc).ownBlock = some g) wr W → W.cell? ⟨O, c, none⟩ = some (.slice qc Ls[c].length cc)) := fun W hW => by
          obtain ⟨q', c', h1, h2⟩ := HO.out W (hB.out.trans hW fun i _ e => ⟨c, _, hvc, e⟩) c hci
          rw [hvc] at h1
          cases h1
          exact h2
        obtain ⟨q, hqe⟩ : ∃ q, Ls[c].length = q := ⟨_, rfl⟩
        have HNS : Hid ((Ls.map List.length)[c]? = some q) := by rw [hqe] at hns; exact hns
        have HVC : Hid (vs[c]? = some (.slice qc q cc)) := by rw [hqe] at hvc; exact hvc
        rw [hqe] at ho hq HCc
        clear hqe hns hvc
        have hzc := hB.out.size
        go_wp2_with fail
        clear ho
        generalize wr = wc at *
        have HM0 : Hid (Mo ic 3 48 mkI wc b (.slice qc q cc) c q 0 (.slice qc q cc) wc) := Mo.start (hG.out.re c _ q (Nat.le_of_eq HUS.out) HVC.out HNS.out)
        go_loopw [7, 8] (fun s7 s8 wr => ∃ (t : Nat), t ≤ 70 ∧ s8 = .int .i64 (t : Int) ∧ Hid (Mo ic 3 48 mkI wc b (.slice qc q cc) c q t s7 wr)) (fun _ s8 _ => 70 - (intOf s8).toNat)
        case atStart => exact ⟨0, by omega, rfl, HM0⟩
        case round =>
          clear HM0
          obtain ⟨t, ht, rfl, hu⟩ := hrel
          have ho := HCc.out _ hu.out.kp
          by_cases h70 : t < 70
          · have h70' : (t : Int) < 70 := by omega
            have iqt : IntKind.i64.wrap ((q : Int) + (t : Int)) = (q : Int) + (t : Int) := by rw [IntKind.wrap_i64]; omega
            have hsg := signI_any wr c (q + t) (by omega) (by omega)
            rw [Int.natCast_add] at hsg
            have hz7 := hu.out.kp.size
            have HAP : Hid (∀ wS, Below wr.heap.size wr wS → ∃ v' w', (Builtin.append_ #[22, 22] 22 #[u7, .slice (some ⟨wS.heap.size, 0, none⟩) 1 1]).run Tryz.prog (wS.alloc (.cells #[.int .i64 0, .int .i64 ((q : Int) + (t : Int)), .int .i64 (c : Int)] 48)) = .ok v' w' ∧ Hid (Mo ic 3 48 mkI wc b (.slice qc q cc) c q (t + 1) v' w')) := fun wS hbS => by
              have nb : Below wS.heap.size wS (wS.alloc (.cells #[.int .i64 0, .int .i64 ((q : Int) + (t : Int)), .int .i64 (c : Int)] 48)) := (Below.refl _ wS).alloc (Nat.le_refl _) _
              have hr : (wS.alloc (.cells #[.int .i64 0, .int .i64 ((q : Int) + (t : Int)), .int .i64 (c : Int)] 48)).rangeAt wS.heap.size 0 (ic (mkI c (q + t))) := fun j u hj => by
                have e := World.alloc_heap_new wS (.cells #[.int .i64 0, .int .i64 ((q : Int) + (t : Int)), .int .i64 (c : Int)] 48)
                rw [Nat.zero_add]
                simp only [World.cell?, e]
                simpa [ic, mkI] using hj
              have hM := (hu.out.next hbS).next nb
              exact hM.app 22 22 (.agg #[.int .i64 0, .int .i64 0, .int .i64 0]) 24 Tryz.underlying22 infoIns rfl (by decide) (by decide) hcI oneI wS.heap.size hr (by omega) (Nat.le_trans hbz (Nat.le_trans hzc hM.kp.size))
            clear hu
            go_wp2_with (first
              | (go_at_call 63; refine hsg.mono ?_; rintro e wS ⟨rfl, hbS⟩; obtain ⟨v', w', hrun, how'⟩ := HAP.out wS hbS; clear HAP)
              | (at_builtin; refine wpList_apr rfl (.tmp 49) (.tmp 59) 22 rfl hrun ?_)
              | go_in)
            exact ⟨⟨t + 1, by omega, by go_num, how'⟩, by simp [intOf]; omega⟩
          · obtain rfl : t = 70 := by omega
            obtain ⟨o7, c7, rfl, -, -⟩ := own_slice hu.out.own
            have HAP : Hid (∃ v' w', (Builtin.append_ #[78, 78] 78 #[u5, .slice (some ⟨wr.heap.size, 0, none⟩) 1 1]).run Tryz.prog (wr.alloc (.cells #[.slice o7 (q + 70) c7] 22)) = .ok v' w' ∧ Hid (w'.ownsRow w2.heap.size 22 1 v' (c + 1) (us ++ [.slice o7 (q + 70) c7])) ∧ Hid (Lg ic 3 48 mkI w2.heap.size w' b (Ls.map List.length) vs (us ++ [.slice o7 (q + 70) c7])) ∧ Hid (Kp (bkL vs) w2 w')) := by
              have nb : Below wr.heap.size wr (wr.alloc (.cells #[.slice o7 (q + 70) c7] 22)) := (Below.refl _ wr).alloc (Nat.le_refl _) _
              have hL := (hG.out.more HUS.out HVC.out HNS.out hu.out).next nb
              have hK : Kp (bkL vs) w2 (wr.alloc (.cells #[.slice o7 (q + 70) c7] 22)) := (hB.out.trans hu.out.kp fun i _ e => ⟨c, _, HVC.out, e⟩).next nb
              have h5 : wr.ownsRow w2.heap.size 22 1 u5 c us := own_same hO5.out fun g hg => hu.out.kp.block g (own_blk hO5.out g hg).lt fun e => (own_blk hO5.out g hg).ne (hG.out.vb c _ g HVC.out e).2 (by decide) rfl
              have ho5 := own_next h5 nb
              obtain ⟨v', w', e1, e2, e3⟩ := app_any (P := Tryz.prog) 78 78 (.slice none 0 0) 24 Tryz.underlying78 infoLI rfl (by decide) (by decide) u5 c us ho5 wr.heap.size [.slice o7 (q + 70) c7] rfl (fun u hu => by obtain rfl := List.mem_singleton.1 hu; rfl) (fun j u hj => by
                have e := World.alloc_heap_new wr (.cells #[.slice o7 (q + 70) c7] 22)
                rw [Nat.zero_add]
                simp only [World.cell?, e]
                simpa using hj) (by omega) hK.size
              exact ⟨v', w', e1, e2, hL.keep (fun g n hb => e3.block g hb.lt fun e => own_ne ho5 hb (by decide) e.symm) (Nat.le_trans hK.size e3.size), hK.grown e3 fun k hk => .inr (ho5.lt k hk).1⟩
            obtain ⟨v', w', hrun, e2, e3, e4⟩ := HAP.out
            have HUS2 : Hid ((us ++ [Value.slice o7 (q + 70) c7]).length = c + 1) := by show (us ++ [Value.slice o7 (q + 70) c7]).length = c + 1; rw [List.length_append, HUS.out]; rfl
            clear HAP hu ho
            go_wp2_with (at_builtin; refine wpList_apr rfl (.tmp 61) (.tmp 63) 78 rfl hrun ?_)
            exact ⟨⟨c + 1, _, by omega, HUS2.out, by go_num, e2, e3, e4⟩, by simp [intOf]; omega⟩
      obtain rfl : c = Ls.length := by omega
      obtain ⟨o5, cap5, rfl, -, -⟩ := own_slice hO5.out
      have H3 : Hid (∀ d (hd : d < Ls.length), ∃ h5 gx cx qd cd, o5 = some ⟨h5, 0, none⟩ ∧ wr.cell? ⟨h5, d, none⟩ = some (.slice (some ⟨gx, 0, none⟩) (Ls[d].length + 70) cx) ∧ wr.rangeAt gx 0 ((mks mkI d (Ls[d].length + 70)).flatMap ic) ∧ wr.cell? ⟨O, d, none⟩ = some (.slice qd Ls[d].length cd) ∧ (0 < Ls[d].length → ∃ g, qd = some ⟨g, 0, none⟩ ∧ wr.rangeAt g 0 ((mks mkI d Ls[d].length).flatMap ic))) := fun d hd => by
        obtain ⟨q5, c5, e5, _, hr5⟩ := own_slice hO5.out
        cases e5
        obtain ⟨h5, rfl, hr⟩ := hr5 (by omega)
        have hdl : d < us.length := by rw [HUS.out]; exact hd
        have hx := List.getElem?_eq_getElem hdl
        have hnd : (Ls.map List.length)[d]? = some Ls[d].length := by rw [List.getElem?_map, List.getElem?_eq_getElem hd]; rfl
        have hox := hG.out.up d us[d] Ls[d].length hx hnd
        obtain ⟨qx, cx, ex, _, hrx⟩ := own_slice hox
        obtain ⟨gx, rfl, hrr⟩ := hrx (by omega)
        have hcell := hr d us[d] hx
        rw [Nat.zero_add, ex] at hcell
        obtain ⟨qd, cd, hv, ho⟩ := HO.out wr hB.out d hd
        obtain ⟨q', c', e', hl⟩ := hG.out.lo d _ _ hv hnd
        cases e'
        exact ⟨h5, gx, cx, qd, cd, rfl, hcell, hrr, ho, hl⟩
      have HK3 : Hid (Kp (bkL vs) w2 wr) := hB
      clear hO5 hG HUS hci hc hB HO
      generalize wr = w3 at *
      go_wp2_with fail
      go_loopw [9] (fun s9 wr => ∃ d : Nat, d ≤ Ls.length ∧ s9 = .int .i64 (d : Int) ∧ Hid (Below w3.heap.size w3 wr)) (fun s9 _ => Ls.length - (intOf s9).toNat)
      case atStart => exact ⟨0, Nat.zero_le _, rfl, Below.refl _ _⟩
      case round =>
        obtain ⟨d, hd, rfl, hB⟩ := hrel
        by_cases hdl : d < Ls.length
        · have hdl1 : (d : Int) < (Ls.length : Int) := by omega
          have d0 : (0 : Int) ≤ (d : Int) := by omega
          obtain ⟨h5, gx, cx, qd, cd, rfl, k5, kx, kO, kv⟩ := H3.out d hdl
          have hq := hn Ls[d] (List.getElem_mem hdl)
          generalize Ls[d].length = q at k5 kx kO kv hq
          have HX : Hid (∀ W, Below w3.heap.size w3 W → W.cell? ⟨h5, d, none⟩ = some (.slice (some ⟨gx, 0, none⟩) (q + 70) cx) ∧ W.cell? ⟨O, d, none⟩ = some (.slice qd q cd) ∧ (∀ j, j < q + 70 → W.cell? ⟨gx, j * 3, none⟩ = some (.int .i64 0) ∧ W.cell? ⟨gx, j * 3 + 1, none⟩ = some (.int .i64 (j : Int)) ∧ W.cell? ⟨gx, j * 3 + 2, none⟩ = some (.int .i64 (d : Int))) ∧ (0 < q → ∃ g, qd = some ⟨g, 0, none⟩ ∧ ∀ j, j < q → W.cell? ⟨g, j * 3, none⟩ = some (.int .i64 0) ∧ W.cell? ⟨g, j * 3 + 1, none⟩ = some (.int .i64 (j : Int)) ∧ W.cell? ⟨g, j * 3 + 2, none⟩ = some (.int .i64 (d : Int)))) := fun W hW => by
            refine ⟨(hW.cell (p := ⟨h5, d, none⟩) (block_lt_of_cell k5)).trans k5, (hW.cell (p := ⟨O, d, none⟩) (block_lt_of_cell kO)).trans kO, fun j hj => ?_, fun h0 => ?_⟩
            · have e := mks_get hcI kx j hj
              have a0 : w3.cell? ⟨gx, j * 3, none⟩ = some (.int .i64 0) := e 0 _ rfl
              have a1 : w3.cell? ⟨gx, j * 3 + 1, none⟩ = some (.int .i64 (j : Int)) := e 1 _ rfl
              have a2 : w3.cell? ⟨gx, j * 3 + 2, none⟩ = some (.int .i64 (d : Int)) := e 2 _ rfl
              exact ⟨(hW.cell (p := ⟨gx, j * 3, none⟩) (block_lt_of_cell a0)).trans a0, (hW.cell (p := ⟨gx, j * 3 + 1, none⟩) (block_lt_of_cell a1)).trans a1, (hW.cell (p := ⟨gx, j * 3 + 2, none⟩) (block_lt_of_cell a2)).trans a2⟩
            · obtain ⟨g, rfl, hr⟩ := kv h0
              refine ⟨g, rfl, fun j hj => ?_⟩
              have e := mks_get hcI hr j hj
              have a0 : w3.cell? ⟨g, j * 3, none⟩ = some (.int .i64 0) := e 0 _ rfl
              have a1 : w3.cell? ⟨g, j * 3 + 1, none⟩ = some (.int .i64 (j : Int)) := e 1 _ rfl
              have a2 : w3.cell? ⟨g, j * 3 + 2, none⟩ = some (.int .i64 (d : Int)) := e 2 _ rfl
              exact ⟨(hW.cell (p := ⟨g, j * 3, none⟩) (block_lt_of_cell a0)).trans a0, (hW.cell (p := ⟨g, j * 3 + 1, none⟩) (block_lt_of_cell a1)).trans a1, (hW.cell (p := ⟨g, j * 3 + 2, none⟩) (block_lt_of_cell a2)).trans a2⟩
          clear k5 kx kO kv
          obtain ⟨k5, -, -, -⟩ := HX.out _ hB.out
          go_wp2_with fail
          clear k5
          go_loopw [10] (fun s10 wr => ∃ j : Nat, j ≤ q + 70 ∧ s10 = .int .i64 (j : Int) ∧ Hid (Below w3.heap.size w3 wr)) (fun s10 _ => q + 70 - (intOf s10).toNat)
          case atStart => exact ⟨0, Nat.zero_le _, rfl, hB⟩
          case round =>
            clear hB
            obtain ⟨j, hj, rfl, hB⟩ := hrel
            obtain ⟨k5, kO, kx, kq⟩ := HX.out _ hB.out
            by_cases hjq : j < q + 70
            · have hjq1 : (j : Int) < ((q + 70 : Nat) : Int) := by omega
              have hjq2 : (j : Int) < (q : Int) + 70 := by omega
              have j0 : (0 : Int) ≤ (j : Int) := by omega
              obtain ⟨p0, p1, p2⟩ := kx j hjq
              have nv := neqIF 0 (j : Int) (d : Int)
              have c42 : ∀ e os, Calls Tryz.prog 63 #[.int .i64 (d : Int), .int .i64 (j : Int)] (Sort.grow (redrawn wr e) os) fun e w'' => e = .returned (.agg #[.int .i64 0, .int .i64 (j : Int), .int .i64 (d : Int)]) ∧ ∃ z : Regrown, w'' = Sort.grow (redrawn wr z.d) z.os := fun e os => Calls.regrown_of (signI_any _ d j (by omega) (by omega))
              by_cases hjn : j < q
              · obtain ⟨g, rfl, kg'⟩ := kq (by omega)
                have hjn1 : (j : Int) < (q : Int) := by omega
                have hjn2 : decide ((j : Int) < (q : Int)) = true := decide_eq_true hjn1
                have hjn3 : decide (j < q) = true := decide_eq_true hjn
                obtain ⟨r0, r1, r2⟩ := kg' j hjn
                clear kx kq kg'
                have y1 := cell_regrown k5
                have y2 := cell_regrown kO
                have y3 := cell_regrown p0
                have y4 := cell_regrown p1
                have y5 := cell_regrown p2
                have y6 := cell_regrown r0
                have y7 := cell_regrown r1
                have y8 := cell_regrown r2
                go_wp2_with fail
                clear k5 kO p0 p1 p2 r0 r1 r2
                refine wp_region_quiet_below (by kernel_rfl) (by kernel_rfl) ?_
                repeat (first | go_big_quiet_step (first | with_reducible exact c42 _ _) | quiet_step (first | with_reducible exact c42 _ _))
                refine wpQuiet_nil ?_
                intro _ hw'
                obtain ⟨⟨dq, osq⟩, hw''⟩ := hw'
                subst hw''
                have hY := below_regrown wr dq osq
                change Exit.then _ _ Exit.normal _ (Sort.grow (redrawn wr dq) osq)
                generalize Sort.grow (redrawn wr dq) osq = Y at hY ⊢
                clear c42
                have hB8 : Hid (Below w3.heap.size w3 Y) := hB.out.trans (hY.mono hB.out.size)
                clear hY y1 y2 y3 y4 y5 y6 y7 y8 nv
                go_wp2
                exact ⟨⟨j + 1, by omega, by go_num, hB8⟩, by simp [intOf]; omega⟩
              · have hjn1 : ¬ ((j : Int) < (q : Int)) := by omega
                have hjn2 : decide ((j : Int) < (q : Int)) = false := decide_eq_false hjn1
                have hjn3 : decide (j < q) = false := decide_eq_false hjn
                clear kx kq
                have y1 := cell_regrown k5
                have y2 := cell_regrown kO
                have y3 := cell_regrown p0
                have y4 := cell_regrown p1
                have y5 := cell_regrown p2
                go_wp2_with fail
                clear k5 kO p0 p1 p2
                refine wp_region_quiet_below (by kernel_rfl) (by kernel_rfl) ?_
                repeat (first | go_big_quiet_step (first | with_reducible exact c42 _ _) | quiet_step (first | with_reducible exact c42 _ _))
                refine wpQuiet_nil ?_
                intro _ hw'
                obtain ⟨⟨dq, osq⟩, hw''⟩ := hw'
                subst hw''
                have hY := below_regrown wr dq osq
                change Exit.then _ _ Exit.normal _ (Sort.grow (redrawn wr dq) osq)
                generalize Sort.grow (redrawn wr dq) osq = Y at hY ⊢
                clear c42
                have hB8 : Hid (Below w3.heap.size w3 Y) := hB.out.trans (hY.mono hB.out.size)
                clear hY y1 y2 y3 y4 y5 nv
                go_wp2
                exact ⟨⟨j + 1, by omega, by go_num, hB8⟩, by simp [intOf]; omega⟩
            · obtain rfl : j = q + 70 := by omega
              clear kx kq
              go_wp2
              exact ⟨⟨d + 1, by omega, by go_num, hB⟩, by simp [intOf]; omega⟩
        · obtain rfl : d = Ls.length := by omega
          have hji : ¬ ((Ls.length : Int) < (Ls.length : Int)) := by omega
          go_wp2
          first | (change bodyPost Tryz.prog Tryz.f35 _ Exit.ret _ _) | (simp only [Exit.noGoto])
          go_ret
          exact ⟨rfl, ((HK2.out.trans HK3.out fun _ _ q => q).next hB.out)⟩
end Go.Proofs.YtcjnejdemfemfaaGreatDoor

