import Derived.Test.YtcjnejdemfemfaaGreatDoorFR1
import Derived.BigQuiet
import Derived.Lib.QuietBelow
namespace Go.Proofs.YtcjnejdemfemfaaGreatDoor
open Go.RowKit

theorem hcS : ∀ x, (cS x).length = 1 := fun _ => rfl
theorem oneS : ∀ x, ∀ u ∈ cS x, u.oneCell' = true := fun x u hu => by
  simp only [cS, List.mem_singleton] at hu
  subst hu
  rfl
theorem callSS (a b : Value) (w : World) : (callFunc 62 #[a, b]).run Tryz.prog w = .ok (.enter 62 #[a, b]) w := by kernel_rfl
theorem infoLS : (Tryz.prog.info? 40).map (fun i => (i.zero, i.size, i.bytes)) = some (some (.slice none 0 0), 1, 24) := by kernel_rfl
theorem infoSrt : (Tryz.prog.info? 41).map (fun i => (i.zero, i.size, i.bytes)) = some (some (.int .i64 0), 1, 8) := by kernel_rfl

set_option maxRecDepth 100000 in
set_option maxHeartbeats 4000000 in
theorem apartS_any (w : World) (O cap b : Nat) (Ls : List (List Int)) (vs : List Value) (h : Ans cS 1 41 40 w b Ls (.slice (some ⟨O, 0, none⟩) Ls.length cap) vs) (hm : Ls.length ≤ 300000000) (hn : ∀ l ∈ Ls, l.length ≤ 100000000) (hbw : b ≤ w.heap.size) :
    Calls Tryz.prog 34 #[.slice (some ⟨O, 0, none⟩) Ls.length cap] w fun e w' => e = .returned (.bool true) ∧ Kp (bkL vs) w w' := by
  have H0 : Hid (Mkd mkS Ls Ls 0 0 ∧ Ans cS 1 41 40 w b Ls (.slice (some ⟨O, 0, none⟩) Ls.length cap) vs ∧ Kp (bkL vs) w w) := ⟨Mkd.start Ls, h, Kp.refl _ _⟩
  clear h
  go_enter Tryz.func34, Tryz.ntmps34
  go_wp2_with fail
  go_loopw [3] (fun s3 wr => ∃ (i : Nat) (C : List (List _)), i ≤ Ls.length ∧ s3 = .int .i64 (i : Int) ∧ Hid (Mkd mkS Ls C i 0 ∧ Ans cS 1 41 40 wr b C (.slice (some ⟨O, 0, none⟩) Ls.length cap) vs ∧ Kp (bkL vs) w wr)) (fun s3 _ => Ls.length - (intOf s3).toNat)
  case atStart => exact ⟨0, Ls, Nat.zero_le _, rfl, H0⟩
  case round =>
    clear H0
    obtain ⟨i, C, hi, rfl, hS⟩ := hrel
    by_cases hlt : i < Ls.length
    · have hlt1 : (i : Int) < (Ls.length : Int) := by omega
      have i0 : (0 : Int) ≤ (i : Int) := by omega
      obtain ⟨qi, ci, hvi, -, hgi, -⟩ := hS.out.2.1.at hS.out.1 i hlt
      have hq := hn Ls[i] (List.getElem_mem hlt)
      obtain ⟨q, hqe⟩ : ∃ q, Ls[i].length = q := ⟨_, rfl⟩
      have HQ : Hid (Ls[i].length = q) := hqe
      have HV : Hid (vs[i]? = some (.slice qi Ls[i].length ci)) := hvi
      rw [hqe] at hq hgi
      clear hqe hvi
      go_wp2_with fail
      go_loopw [4] (fun s4 wr => ∃ (j : Nat) (C : List (List _)), j ≤ q ∧ s4 = .int .i64 (j : Int) ∧ Hid (Mkd mkS Ls C i j ∧ Ans cS 1 41 40 wr b C (.slice (some ⟨O, 0, none⟩) Ls.length cap) vs ∧ Kp (bkL vs) w wr)) (fun s4 _ => q - (intOf s4).toNat)
      case atStart => exact ⟨0, C, Nat.zero_le _, rfl, hS⟩
      case round =>
        clear hS
        obtain ⟨j, C2, hj, rfl, hT⟩ := hrel
        obtain ⟨hM, hA, hK⟩ := hT.out
        obtain ⟨q', c', h1, h2, -, h4⟩ := hA.at hM i hlt
        rw [HV.out] at h1
        cases h1
        rw [HQ.out] at h2 h4
        by_cases hjq : j < q
        · obtain ⟨g, rfl⟩ := hgi (by omega)
          have hjq1 : (j : Int) < (q : Int) := by omega
          have j0 : (0 : Int) ≤ (j : Int) := by omega
          have hiC : i < C2.length := by rw [hM.len]; exact hlt
          have hCl : C2[i].length = q := (hM.lenAt i hlt).trans HQ.out
          have hbk := own_blk h4 g rfl
          have HST : Hid (∀ W, Below wr.heap.size wr W → (W.cell? ⟨O, i, none⟩ = some (.slice (some ⟨g, 0, none⟩) q ci) ∧ W.there g j 1) ∧ Hid (∃ C3, Mkd mkS Ls C3 i (j + 1) ∧ Ans cS 1 41 40 (W.setCell ⟨g, j, none⟩ (.int .i64 (mkS i j))) b C3 (.slice (some ⟨O, 0, none⟩) Ls.length cap) vs ∧ Kp (bkL vs) w (W.setCell ⟨g, j, none⟩ (.int .i64 (mkS i j))))) := fun W hW => by
            refine ⟨⟨(hW.cell (p := ⟨O, i, none⟩) (block_lt_of_cell h2)).trans h2, (hbk.next hW).there _ _ (by omega)⟩, _, hM.step hiC, ?_, ?_⟩
            · have := (hA.next hW).put hcS (by decide) i j g ci hiC (by omega) (by rw [hCl, ← HQ.out]; exact HV.out) (mkS i j)
              rw [Nat.mul_one] at this
              exact this
            · exact Kp.setCell (hK.next hW) (p := ⟨g, j, none⟩) (.inl ⟨i, _, HV.out, rfl⟩) _
          have HSG : Hid (∀ W, Calls Tryz.prog 62 #[.int .i64 (i : Int), .int .i64 (j : Int)] W fun e w' => ∃ v, e = .returned v ∧ (v = .int .i64 (mkS i j) ∧ Below W.heap.size W w')) := fun W => (signS_any W i j (by omega) (by omega)).mono fun e w' ⟨e1, e2⟩ => ⟨_, e1, rfl, e2⟩
          clear hM hA hK hT h4 hbk hCl hiC hgi
          go_wp2_with fail
          go_region_law (first
            | (refine step_call (by rfl) 62 [.tmp 31, .tmp 32] #[3, 3] [.int .i64 (i : Int), .int .i64 (j : Int)] (by rfl) (by rfl) (callSS _ _) _ (HSG.out _) ?_; rintro v w3 ⟨rfl, hb3⟩; obtain ⟨⟨d1, TH⟩, HNX⟩ := HST.out w3 (by first | exact hb3 | exact ((Below.refl _ wr).drew).trans hb3); obtain ⟨y0, a0, f0⟩ := there1 TH))
          all_goals
            obtain ⟨C3, HC3⟩ : ∃ C3, Hid (Mkd mkS Ls C3 i (j + 1) ∧ Ans cS 1 41 40 (w3.setCell ⟨g, j, none⟩ (.int .i64 (mkS i j))) b C3 (.slice (some ⟨O, 0, none⟩) Ls.length cap) vs ∧ Kp (bkL vs) w (w3.setCell ⟨g, j, none⟩ (.int .i64 (mkS i j)))) := HNX.out
            clear HNX HST HSG d1 TH
            generalize hY : w3.setCell ⟨g, j, none⟩ (.int .i64 (mkS i j)) = Y at *
            clear hY a0 f0 h2 hb3
            go_wp2
            exact ⟨⟨j + 1, C3, by omega, by go_num, HC3⟩, by simp [intOf]; omega⟩
        · obtain rfl : j = q := by omega
          have HT2 : Hid (Mkd mkS Ls C2 (i + 1) 0 ∧ Ans cS 1 41 40 wr b C2 (.slice (some ⟨O, 0, none⟩) Ls.length cap) vs ∧ Kp (bkL vs) w wr) := ⟨hM.next (fun hi' => Nat.le_of_eq ((hM.lenAt i hlt).trans HQ.out)), hA, hK⟩
          clear hM hA hK hT h4
          go_wp2
          exact ⟨⟨i + 1, C2, by omega, by go_num, HT2⟩, by simp [intOf]; omega⟩
    obtain rfl : i = Ls.length := by omega
    have HL0 : Hid (Lg cS 1 41 mkS wr.heap.size wr b (Ls.map List.length) vs []) := Lg.start hS.out.2.1 hS.out.1
    have HK2 : Hid (Kp (bkL vs) w wr) := hS.out.2.2
    have HO : Hid (∀ W : World, Kp (bkL vs) wr W → ∀ m (hm : m < Ls.length), ∃ q cp, vs[m]? = some (.slice q Ls[m].length cp) ∧ W.cell? ⟨O, m, none⟩ = some (.slice q Ls[m].length cp)) := fun W hW m hm => by
      obtain ⟨q, cp, h1, h2, -, -⟩ := hS.out.2.1.at hS.out.1 m hm
      have hb := own_blk hS.out.2.1.out O rfl
      refine ⟨q, cp, h1, (World.cell?_of_block (w := wr) (w' := W) (a := ⟨O, m, none⟩) (hW.block O hb.lt ?_)).trans h2⟩
      rintro ⟨n, y, hy, hg⟩
      exact hb.ne (HL0.out.vb n y O hy hg).2 (by decide) rfl
    have hbz : b ≤ wr.heap.size := Nat.le_trans hbw hS.out.2.2.size
    clear hS hlt hi
    generalize wr = w2 at *
    go_wp2_with fail
    go_loopw [5, 6] (fun s5 s6 wr => ∃ (c : Nat) (us : List Value), c ≤ Ls.length ∧ us.length = c ∧ s6 = .int .i64 (c : Int) ∧ Hid (wr.ownsRow w2.heap.size 40 1 s5 c us) ∧ Hid (Lg cS 1 41 mkS w2.heap.size wr b (Ls.map List.length) vs us) ∧ Hid (Kp (bkL vs) w2 wr)) (fun _ s6 _ => Ls.length - (intOf s6).toNat)
    case atStart => exact ⟨0, [], Nat.zero_le _, rfl, rfl, World.ownsRow_nil _ _ _ _, HL0, Kp.refl _ _⟩
    case round =>
      clear HL0
      obtain ⟨c, us, hc, hus, rfl, hO5, hG, hB⟩ := hrel
      have HUS : Hid (us.length = c) := hus
      clear hus
      by_cases hci : c < Ls.length
      · have hci1 : (c : Int) < (Ls.length : Int) := by omega
        have c0 : (0 : Int) ≤ (c : Int) := by omega
        obtain ⟨qc, cc, hvc, ho⟩ := HO.out wr hB.out c hci
        have hq := hn Ls[c] (List.getElem_mem hci)
        have hns : (Ls.map List.length)[c]? = some Ls[c].length := by rw [List.getElem?_map, List.getElem?_eq_getElem hci]; rfl
        have HCc : Hid (∀ W, Kp (fun g => (Value.slice qc Ls[c].length cc).ownBlock = some g) wr W → W.cell? ⟨O, c, none⟩ = some (.slice qc Ls[c].length cc)) := fun W hW => by
          obtain ⟨q', c', h1, h2⟩ := HO.out W (hB.out.trans hW fun i _ e => ⟨c, _, hvc, e⟩) c hci
          rw [hvc] at h1
          cases h1
          exact h2
        obtain ⟨q, hqe⟩ : ∃ q, Ls[c].length = q := ⟨_, rfl⟩
        have HNS : Hid ((Ls.map List.length)[c]? = some q) := by rw [hqe] at hns; exact hns
        have HVC : Hid (vs[c]? = some (.slice qc q cc)) := by rw [hqe] at hvc; exact hvc
        rw [hqe] at ho hq HCc
        clear hqe hns hvc
        have hzc := hB.out.size
        go_wp2_with fail
        clear ho
        generalize wr = wc at *
        have HM0 : Hid (Mo cS 1 41 mkS wc b (.slice qc q cc) c q 0 (.slice qc q cc) wc) := Mo.start (hG.out.re c _ q (Nat.le_of_eq HUS.out) HVC.out HNS.out)
        go_loopw [7, 8] (fun s7 s8 wr => ∃ (t : Nat), t ≤ 70 ∧ s8 = .int .i64 (t : Int) ∧ Hid (Mo cS 1 41 mkS wc b (.slice qc q cc) c q t s7 wr)) (fun _ s8 _ => 70 - (intOf s8).toNat)
        case atStart => exact ⟨0, by omega, rfl, HM0⟩
        case round =>
          clear HM0
          obtain ⟨t, ht, rfl, hu⟩ := hrel
          have ho := HCc.out _ hu.out.kp
          by_cases h70 : t < 70
          · have h70' : (t : Int) < 70 := by omega
            have iqt : IntKind.i64.wrap ((q : Int) + (t : Int)) = (q : Int) + (t : Int) := by rw [IntKind.wrap_i64]; omega
            have hsg := signS_any wr c (q + t) (by omega) (by omega)
            rw [Int.natCast_add] at hsg
            have hz7 := hu.out.kp.size
            have HAP : Hid (∀ wS, Below wr.heap.size wr wS → ∃ v' w', (Builtin.append_ #[40, 40] 40 #[u7, .slice (some ⟨wS.heap.size, 0, none⟩) 1 1]).run Tryz.prog (wS.alloc (.cells #[.int .i64 (mkS c (q + t))] 41)) = .ok v' w' ∧ Hid (Mo cS 1 41 mkS wc b (.slice qc q cc) c q (t + 1) v' w')) := fun wS hbS => by
              have nb : Below wS.heap.size wS (wS.alloc (.cells #[.int .i64 (mkS c (q + t))] 41)) := (Below.refl _ wS).alloc (Nat.le_refl _) _
              have hr : (wS.alloc (.cells #[.int .i64 (mkS c (q + t))] 41)).rangeAt wS.heap.size 0 (cS (mkS c (q + t))) := fun j u hj => by
                have e := World.alloc_heap_new wS (.cells #[.int .i64 (mkS c (q + t))] 41)
                rw [Nat.zero_add]
                simp only [World.cell?, e]
                simpa [cS] using hj
              have hM := (hu.out.next hbS).next nb
              exact hM.app 40 40 (.int .i64 0) 8 Tryz.underlying40 infoSrt rfl (by decide) (by decide) hcS oneS wS.heap.size hr (by omega) (Nat.le_trans hbz (Nat.le_trans hzc hM.kp.size))
            clear hu
            go_wp2_with (first
              | (go_at_call 62; refine hsg.mono ?_; rintro e wS ⟨rfl, hbS⟩; obtain ⟨v', w', hrun, how'⟩ := HAP.out wS hbS; clear HAP)
              | (at_builtin; refine wpList_apr rfl (.tmp 49) (.tmp 59) 40 rfl hrun ?_)
              | go_in)
            exact ⟨⟨t + 1, by omega, by go_num, how'⟩, by simp [intOf]; omega⟩
          · obtain rfl : t = 70 := by omega
            obtain ⟨o7, c7, rfl, -, -⟩ := own_slice hu.out.own
            have HAP : Hid (∃ v' w', (Builtin.append_ #[77, 77] 77 #[u5, .slice (some ⟨wr.heap.size, 0, none⟩) 1 1]).run Tryz.prog (wr.alloc (.cells #[.slice o7 (q + 70) c7] 40)) = .ok v' w' ∧ Hid (w'.ownsRow w2.heap.size 40 1 v' (c + 1) (us ++ [.slice o7 (q + 70) c7])) ∧ Hid (Lg cS 1 41 mkS w2.heap.size w' b (Ls.map List.length) vs (us ++ [.slice o7 (q + 70) c7])) ∧ Hid (Kp (bkL vs) w2 w')) := by
              have nb : Below wr.heap.size wr (wr.alloc (.cells #[.slice o7 (q + 70) c7] 40)) := (Below.refl _ wr).alloc (Nat.le_refl _) _
              have hL := (hG.out.more HUS.out HVC.out HNS.out hu.out).next nb
              have hK : Kp (bkL vs) w2 (wr.alloc (.cells #[.slice o7 (q + 70) c7] 40)) := (hB.out.trans hu.out.kp fun i _ e => ⟨c, _, HVC.out, e⟩).next nb
              have h5 : wr.ownsRow w2.heap.size 40 1 u5 c us := own_same hO5.out fun g hg => hu.out.kp.block g (own_blk hO5.out g hg).lt fun e => (own_blk hO5.out g hg).ne (hG.out.vb c _ g HVC.out e).2 (by decide) rfl
              have ho5 := own_next h5 nb
              obtain ⟨v', w', e1, e2, e3⟩ := app_any (P := Tryz.prog) 77 77 (.slice none 0 0) 24 Tryz.underlying77 infoLS rfl (by decide) (by decide) u5 c us ho5 wr.heap.size [.slice o7 (q + 70) c7] rfl (fun u hu => by obtain rfl := List.mem_singleton.1 hu; rfl) (fun j u hj => by
                have e := World.alloc_heap_new wr (.cells #[.slice o7 (q + 70) c7] 40)
                rw [Nat.zero_add]
                simp only [World.cell?, e]
                simpa using hj) (by omega) hK.size
              exact ⟨v', w', e1, e2, hL.keep (fun g n hb => e3.block g hb.lt fun e => own_ne ho5 hb (by decide) e.symm) (Nat.le_trans hK.size e3.size), hK.grown e3 fun k hk => .inr (ho5.lt k hk).1⟩
            obtain ⟨v', w', hrun, e2, e3, e4⟩ := HAP.out
            have HUS2 : Hid ((us ++ [Value.slice o7 (q + 70) c7]).length = c + 1) := by show (us ++ [Value.slice o7 (q + 70) c7]).length = c + 1; rw [List.length_append, HUS.out]; rfl
            clear HAP hu ho
            go_wp2_with (at_builtin; refine wpList_apr rfl (.tmp 61) (.tmp 63) 77 rfl hrun ?_)
            exact ⟨⟨c + 1, _, by omega, HUS2.out, by go_num, e2, e3, e4⟩, by simp [intOf]; omega⟩
      obtain rfl : c = Ls.length := by omega
      obtain ⟨o5, cap5, rfl, -, -⟩ := own_slice hO5.out
      have H3 : Hid (∀ d (hd : d < Ls.length), ∃ h5 gx cx qd cd, o5 = some ⟨h5, 0, none⟩ ∧ wr.cell? ⟨h5, d, none⟩ = some (.slice (some ⟨gx, 0, none⟩) (Ls[d].length + 70) cx) ∧ wr.rangeAt gx 0 ((mks mkS d (Ls[d].length + 70)).flatMap cS) ∧ wr.cell? ⟨O, d, none⟩ = some (.slice qd Ls[d].length cd) ∧ (0 < Ls[d].length → ∃ g, qd = some ⟨g, 0, none⟩ ∧ wr.rangeAt g 0 ((mks mkS d Ls[d].length).flatMap cS))) := fun d hd => by
        obtain ⟨q5, c5, e5, _, hr5⟩ := own_slice hO5.out
        cases e5
        obtain ⟨h5, rfl, hr⟩ := hr5 (by omega)
        have hdl : d < us.length := by rw [HUS.out]; exact hd
        have hx := List.getElem?_eq_getElem hdl
        have hnd : (Ls.map List.length)[d]? = some Ls[d].length := by rw [List.getElem?_map, List.getElem?_eq_getElem hd]; rfl
        have hox := hG.out.up d us[d] Ls[d].length hx hnd
        obtain ⟨qx, cx, ex, _, hrx⟩ := own_slice hox
        obtain ⟨gx, rfl, hrr⟩ := hrx (by omega)
        have hcell := hr d us[d] hx
        rw [Nat.zero_add, ex] at hcell
        obtain ⟨qd, cd, hv, ho⟩ := HO.out wr hB.out d hd
        obtain ⟨q', c', e', hl⟩ := hG.out.lo d _ _ hv hnd
        cases e'
        exact ⟨h5, gx, cx, qd, cd, rfl, hcell, hrr, ho, hl⟩
      have HK3 : Hid (Kp (bkL vs) w2 wr) := hB
      clear hO5 hG HUS hci hc hB HO
      generalize wr = w3 at *
      go_wp2_with fail
      go_loopw [9] (fun s9 wr => ∃ d : Nat, d ≤ Ls.length ∧ s9 = .int .i64 (d : Int) ∧ Hid (Below w3.heap.size w3 wr)) (fun s9 _ => Ls.length - (intOf s9).toNat)
      case atStart => exact ⟨0, Nat.zero_le _, rfl, Below.refl _ _⟩
      case round =>
        obtain ⟨d, hd, rfl, hB⟩ := hrel
        by_cases hdl : d < Ls.length
        · have hdl1 : (d : Int) < (Ls.length : Int) := by omega
          have d0 : (0 : Int) ≤ (d : Int) := by omega
          obtain ⟨h5, gx, cx, qd, cd, rfl, k5, kx, kO, kv⟩ := H3.out d hdl
          have hq := hn Ls[d] (List.getElem_mem hdl)
          generalize Ls[d].length = q at k5 kx kO kv hq
          have HX : Hid (∀ W, Below w3.heap.size w3 W → W.cell? ⟨h5, d, none⟩ = some (.slice (some ⟨gx, 0, none⟩) (q + 70) cx) ∧ W.cell? ⟨O, d, none⟩ = some (.slice qd q cd) ∧ (∀ j, j < q + 70 → W.cell? ⟨gx, j, none⟩ = some (.int .i64 (mkS d j))) ∧ (0 < q → ∃ g, qd = some ⟨g, 0, none⟩ ∧ ∀ j, j < q → W.cell? ⟨g, j, none⟩ = some (.int .i64 (mkS d j)))) := fun W hW => by
            refine ⟨(hW.cell (p := ⟨h5, d, none⟩) (block_lt_of_cell k5)).trans k5, (hW.cell (p := ⟨O, d, none⟩) (block_lt_of_cell kO)).trans kO, fun j hj => ?_, fun h0 => ?_⟩
            · have := mks_get hcS kx j hj 0 _ rfl
              rw [Nat.mul_one, Nat.add_zero] at this
              exact (hW.cell (p := ⟨gx, j, none⟩) (block_lt_of_cell this)).trans this
            · obtain ⟨g, rfl, hr⟩ := kv h0
              refine ⟨g, rfl, fun j hj => ?_⟩
              have := mks_get hcS hr j hj 0 _ rfl
              rw [Nat.mul_one, Nat.add_zero] at this
              exact (hW.cell (p := ⟨g, j, none⟩) (block_lt_of_cell this)).trans this
          clear k5 kx kO kv
          obtain ⟨k5, -, -, -⟩ := HX.out _ hB.out
          go_wp2_with fail
          clear k5
          go_loopw [10] (fun s10 wr => ∃ j : Nat, j ≤ q + 70 ∧ s10 = .int .i64 (j : Int) ∧ Hid (Below w3.heap.size w3 wr)) (fun s10 _ => q + 70 - (intOf s10).toNat)
          case atStart => exact ⟨0, Nat.zero_le _, rfl, hB⟩
          case round =>
            clear hB
            obtain ⟨j, hj, rfl, hB⟩ := hrel
            obtain ⟨k5, kO, kx, kq⟩ := HX.out _ hB.out
            by_cases hjq : j < q + 70
            · have hjq1 : (j : Int) < ((q + 70 : Nat) : Int) := by omega
              have hjq2 : (j : Int) < (q : Int) + 70 := by omega
              have j0 : (0 : Int) ≤ (j : Int) := by omega
              have p0 := kx j hjq
              have c42 : ∀ e os, Calls Tryz.prog 62 #[.int .i64 (d : Int), .int .i64 (j : Int)] (Sort.grow (redrawn wr e) os) fun e w'' => e = .returned (.int .i64 (mkS d j)) ∧ ∃ z : Regrown, w'' = Sort.grow (redrawn wr z.d) z.os := fun e os => Calls.regrown_of (signS_any _ d j (by omega) (by omega))
              by_cases hjn : j < q
              · obtain ⟨g, rfl, kg'⟩ := kq (by omega)
                have hjn1 : (j : Int) < (q : Int) := by omega
                have hjn2 : decide ((j : Int) < (q : Int)) = true := decide_eq_true hjn1
                have hjn3 : decide (j < q) = true := decide_eq_true hjn
                have r0 := kg' j hjn
                clear kx kq kg'
                generalize mkS d j = M at p0 r0 c42
                have y1 := cell_regrown k5
                have y2 := cell_regrown kO
                have y3 := cell_regrown p0
                have y6 := cell_regrown r0
                go_wp2_with fail
                clear k5 kO p0 r0
                refine wp_region_quiet_below (by kernel_rfl) (by kernel_rfl) ?_
                repeat (first | go_big_quiet_step (first | with_reducible exact c42 _ _) | quiet_step (first | with_reducible exact c42 _ _))
                refine wpQuiet_nil ?_
                intro _ hw'
                obtain ⟨⟨dq, osq⟩, hw''⟩ := hw'
                subst hw''
                have hY := below_regrown wr dq osq
                change Exit.then _ _ Exit.normal _ (Sort.grow (redrawn wr dq) osq)
                generalize Sort.grow (redrawn wr dq) osq = Y at hY ⊢
                clear c42
                have hB8 : Hid (Below w3.heap.size w3 Y) := hB.out.trans (hY.mono hB.out.size)
                clear hY y1 y2 y3 y6
                go_wp2
                exact ⟨⟨j + 1, by omega, by go_num, hB8⟩, by simp [intOf]; omega⟩
              · have hjn1 : ¬ ((j : Int) < (q : Int)) := by omega
                have hjn2 : decide ((j : Int) < (q : Int)) = false := decide_eq_false hjn1
                have hjn3 : decide (j < q) = false := decide_eq_false hjn
                clear kx kq
                generalize mkS d j = M at p0 c42
                have y1 := cell_regrown k5
                have y2 := cell_regrown kO
                have y3 := cell_regrown p0
                go_wp2_with fail
                clear k5 kO p0
                refine wp_region_quiet_below (by kernel_rfl) (by kernel_rfl) ?_
                repeat (first | go_big_quiet_step (first | with_reducible exact c42 _ _) | quiet_step (first | with_reducible exact c42 _ _))
                refine wpQuiet_nil ?_
                intro _ hw'
                obtain ⟨⟨dq, osq⟩, hw''⟩ := hw'
                subst hw''
                have hY := below_regrown wr dq osq
                change Exit.then _ _ Exit.normal _ (Sort.grow (redrawn wr dq) osq)
                generalize Sort.grow (redrawn wr dq) osq = Y at hY ⊢
                clear c42
                have hB8 : Hid (Below w3.heap.size w3 Y) := hB.out.trans (hY.mono hB.out.size)
                clear hY y1 y2 y3
                go_wp2
                exact ⟨⟨j + 1, by omega, by go_num, hB8⟩, by simp [intOf]; omega⟩
            · obtain rfl : j = q + 70 := by omega
              clear kx kq
              go_wp2
              exact ⟨⟨d + 1, by omega, by go_num, hB⟩, by simp [intOf]; omega⟩
        · obtain rfl : d = Ls.length := by omega
          have hji : ¬ ((Ls.length : Int) < (Ls.length : Int)) := by omega
          go_wp2
          first | (change bodyPost Tryz.prog Tryz.f34 _ Exit.ret _ _) | (simp only [Exit.noGoto])
          go_ret
          exact ⟨rfl, ((HK2.out.trans HK3.out fun _ _ q => q).next hB.out)⟩
end Go.Proofs.YtcjnejdemfemfaaGreatDoor

namespace Go.Proofs.YtcjnejdemfemfaaGreatDoor
open Go.RowKit

theorem hcT : ∀ x, (cT x).length = 1 := fun _ => rfl
theorem oneT : ∀ x, ∀ u ∈ cT x, u.oneCell' = true := fun x u hu => by
  simp only [cT, List.mem_singleton] at hu
  subst hu
  rfl
theorem callST (a b : Value) (w : World) : (callFunc 64 #[a, b]).run Tryz.prog w = .ok (.enter 64 #[a, b]) w := by kernel_rfl
theorem infoLT : (Tryz.prog.info? 24).map (fun i => (i.zero, i.size, i.bytes)) = some (some (.slice none 0 0), 1, 24) := by kernel_rfl

set_option maxRecDepth 100000 in
set_option maxHeartbeats 4000000 in
theorem apartT_any (w : World) (O cap b : Nat) (Ls : List (List ByteArray)) (vs : List Value) (h : Ans cT 1 9 24 w b Ls (.slice (some ⟨O, 0, none⟩) Ls.length cap) vs) (hm : Ls.length ≤ 300000000) (hn : ∀ l ∈ Ls, l.length ≤ 100000000) (hbw : b ≤ w.heap.size) :
    Calls Tryz.prog 36 #[.slice (some ⟨O, 0, none⟩) Ls.length cap] w fun e w' => e = .returned (.bool true) ∧ Kp (bkL vs) w w' := by
  have H0 : Hid (Mkd mkT Ls Ls 0 0 ∧ Ans cT 1 9 24 w b Ls (.slice (some ⟨O, 0, none⟩) Ls.length cap) vs ∧ Kp (bkL vs) w w) := ⟨Mkd.start Ls, h, Kp.refl _ _⟩
  clear h
  go_enter Tryz.func36, Tryz.ntmps36
  go_wp2_with fail
  go_loopw [3] (fun s3 wr => ∃ (i : Nat) (C : List (List _)), i ≤ Ls.length ∧ s3 = .int .i64 (i : Int) ∧ Hid (Mkd mkT Ls C i 0 ∧ Ans cT 1 9 24 wr b C (.slice (some ⟨O, 0, none⟩) Ls.length cap) vs ∧ Kp (bkL vs) w wr)) (fun s3 _ => Ls.length - (intOf s3).toNat)
  case atStart => exact ⟨0, Ls, Nat.zero_le _, rfl, H0⟩
  case round =>
    clear H0
    obtain ⟨i, C, hi, rfl, hS⟩ := hrel
    by_cases hlt : i < Ls.length
    · have hlt1 : (i : Int) < (Ls.length : Int) := by omega
      have i0 : (0 : Int) ≤ (i : Int) := by omega
      obtain ⟨qi, ci, hvi, -, hgi, -⟩ := hS.out.2.1.at hS.out.1 i hlt
      have hq := hn Ls[i] (List.getElem_mem hlt)
      obtain ⟨q, hqe⟩ : ∃ q, Ls[i].length = q := ⟨_, rfl⟩
      have HQ : Hid (Ls[i].length = q) := hqe
      have HV : Hid (vs[i]? = some (.slice qi Ls[i].length ci)) := hvi
      rw [hqe] at hq hgi
      clear hqe hvi
      go_wp2_with fail
      go_loopw [4] (fun s4 wr => ∃ (j : Nat) (C : List (List _)), j ≤ q ∧ s4 = .int .i64 (j : Int) ∧ Hid (Mkd mkT Ls C i j ∧ Ans cT 1 9 24 wr b C (.slice (some ⟨O, 0, none⟩) Ls.length cap) vs ∧ Kp (bkL vs) w wr)) (fun s4 _ => q - (intOf s4).toNat)
      case atStart => exact ⟨0, C, Nat.zero_le _, rfl, hS⟩
      case round =>
        clear hS
        obtain ⟨j, C2, hj, rfl, hT⟩ := hrel
        obtain ⟨hM, hA, hK⟩ := hT.out
        obtain ⟨q', c', h1, h2, -, h4⟩ := hA.at hM i hlt
        rw [HV.out] at h1
        cases h1
        rw [HQ.out] at h2 h4
        by_cases hjq : j < q
        · obtain ⟨g, rfl⟩ := hgi (by omega)
          have hjq1 : (j : Int) < (q : Int) := by omega
          have j0 : (0 : Int) ≤ (j : Int) := by omega
          have hiC : i < C2.length := by rw [hM.len]; exact hlt
          have hCl : C2[i].length = q := (hM.lenAt i hlt).trans HQ.out
          have hbk := own_blk h4 g rfl
          have HST : Hid (∀ W, Below wr.heap.size wr W → (W.cell? ⟨O, i, none⟩ = some (.slice (some ⟨g, 0, none⟩) q ci) ∧ W.there g j 1) ∧ Hid (∃ C3, Mkd mkT Ls C3 i (j + 1) ∧ Ans cT 1 9 24 (W.setCell ⟨g, j, none⟩ (.string (mkT i j))) b C3 (.slice (some ⟨O, 0, none⟩) Ls.length cap) vs ∧ Kp (bkL vs) w (W.setCell ⟨g, j, none⟩ (.string (mkT i j))))) := fun W hW => by
            refine ⟨⟨(hW.cell (p := ⟨O, i, none⟩) (block_lt_of_cell h2)).trans h2, (hbk.next hW).there _ _ (by omega)⟩, _, hM.step hiC, ?_, ?_⟩
            · have := (hA.next hW).put hcT (by decide) i j g ci hiC (by omega) (by rw [hCl, ← HQ.out]; exact HV.out) (mkT i j)
              rw [Nat.mul_one] at this
              exact this
            · exact Kp.setCell (hK.next hW) (p := ⟨g, j, none⟩) (.inl ⟨i, _, HV.out, rfl⟩) _
          have HSG : Hid (∀ W, Calls Tryz.prog 64 #[.int .i64 (i : Int), .int .i64 (j : Int)] W fun e w' => ∃ v, e = .returned v ∧ (v = .string (mkT i j) ∧ Below W.heap.size W w')) := fun W => (signT_any W i j (by omega) (by omega)).mono fun e w' ⟨e1, e2⟩ => ⟨_, e1, rfl, e2⟩
          clear hM hA hK hT h4 hbk hCl hiC hgi
          go_wp2_with fail
          go_region_law (first
            | (refine step_call (by rfl) 64 [.tmp 31, .tmp 32] #[3, 3] [.int .i64 (i : Int), .int .i64 (j : Int)] (by rfl) (by rfl) (callST _ _) _ (HSG.out _) ?_; rintro v w3 ⟨rfl, hb3⟩; obtain ⟨⟨d1, TH⟩, HNX⟩ := HST.out w3 (by first | exact hb3 | exact ((Below.refl _ wr).drew).trans hb3); obtain ⟨y0, a0, f0⟩ := there1 TH))
          all_goals
            obtain ⟨C3, HC3⟩ : ∃ C3, Hid (Mkd mkT Ls C3 i (j + 1) ∧ Ans cT 1 9 24 (w3.setCell ⟨g, j, none⟩ (.string (mkT i j))) b C3 (.slice (some ⟨O, 0, none⟩) Ls.length cap) vs ∧ Kp (bkL vs) w (w3.setCell ⟨g, j, none⟩ (.string (mkT i j)))) := HNX.out
            clear HNX HST HSG d1 TH
            generalize hY : w3.setCell ⟨g, j, none⟩ (.string (mkT i j)) = Y at *
            clear hY a0 f0 h2 hb3
            go_wp2
            exact ⟨⟨j + 1, C3, by omega, by go_num, HC3⟩, by simp [intOf]; omega⟩
        · obtain rfl : j = q := by omega
          have HT2 : Hid (Mkd mkT Ls C2 (i + 1) 0 ∧ Ans cT 1 9 24 wr b C2 (.slice (some ⟨O, 0, none⟩) Ls.length cap) vs ∧ Kp (bkL vs) w wr) := ⟨hM.next (fun hi' => Nat.le_of_eq ((hM.lenAt i hlt).trans HQ.out)), hA, hK⟩
          clear hM hA hK hT h4
          go_wp2
          exact ⟨⟨i + 1, C2, by omega, by go_num, HT2⟩, by simp [intOf]; omega⟩
    obtain rfl : i = Ls.length := by omega
    have HL0 : Hid (Lg cT 1 9 mkT wr.heap.size wr b (Ls.map List.length) vs []) := Lg.start hS.out.2.1 hS.out.1
    have HK2 : Hid (Kp (bkL vs) w wr) := hS.out.2.2
    have HO : Hid (∀ W : World, Kp (bkL vs) wr W → ∀ m (hm : m < Ls.length), ∃ q cp, vs[m]? = some (.slice q Ls[m].length cp) ∧ W.cell? ⟨O, m, none⟩ = some (.slice q Ls[m].length cp)) := fun W hW m hm => by
      obtain ⟨q, cp, h1, h2, -, -⟩ := hS.out.2.1.at hS.out.1 m hm
      have hb := own_blk hS.out.2.1.out O rfl
      refine ⟨q, cp, h1, (World.cell?_of_block (w := wr) (w' := W) (a := ⟨O, m, none⟩) (hW.block O hb.lt ?_)).trans h2⟩
      rintro ⟨n, y, hy, hg⟩
      exact hb.ne (HL0.out.vb n y O hy hg).2 (by decide) rfl
    have hbz : b ≤ wr.heap.size := Nat.le_trans hbw hS.out.2.2.size
    clear hS hlt hi
    generalize wr = w2 at *
    go_wp2_with fail
    go_loopw [5, 6] (fun s5 s6 wr => ∃ (c : Nat) (us : List Value), c ≤ Ls.length ∧ us.length = c ∧ s6 = .int .i64 (c : Int) ∧ Hid (wr.ownsRow w2.heap.size 24 1 s5 c us) ∧ Hid (Lg cT 1 9 mkT w2.heap.size wr b (Ls.map List.length) vs us) ∧ Hid (Kp (bkL vs) w2 wr)) (fun _ s6 _ => Ls.length - (intOf s6).toNat)
    case atStart => exact ⟨0, [], Nat.zero_le _, rfl, rfl, World.ownsRow_nil _ _ _ _, HL0, Kp.refl _ _⟩
    case round =>
      clear HL0
      obtain ⟨c, us, hc, hus, rfl, hO5, hG, hB⟩ := hrel
      have HUS : Hid (us.length = c) := hus
      clear hus
      by_cases hci : c < Ls.length
      · have hci1 : (c : Int) < (Ls.length : Int) := by omega
        have c0 : (0 : Int) ≤ (c : Int) := by omega
        obtain ⟨qc, cc, hvc, ho⟩ := HO.out wr hB.out c hci
        have hq := hn Ls[c] (List.getElem_mem hci)
        have hns : (Ls.map List.length)[c]? = some Ls[c].length := by rw [List.getElem?_map, List.getElem?_eq_getElem hci]; rfl
        have HCc : Hid (∀ W, Kp (fun g => (Value.slice qc Ls[c].length cc).ownBlock = some g) wr W → W.cell? ⟨O, c, none⟩ = some (.slice qc Ls[c].length cc)) := fun W hW => by
          obtain ⟨q', c', h1, h2⟩ := HO.out W (hB.out.trans hW fun i _ e => ⟨c, _, hvc, e⟩) c hci
          rw [hvc] at h1
          cases h1
          exact h2
        obtain ⟨q, hqe⟩ : ∃ q, Ls[c].length = q := ⟨_, rfl⟩
        have HNS : Hid ((Ls.map List.length)[c]? = some q) := by rw [hqe] at hns; exact hns
        have HVC : Hid (vs[c]? = some (.slice qc q cc)) := by rw [hqe] at hvc; exact hvc
        rw [hqe] at ho hq HCc
        clear hqe hns hvc
        have hzc := hB.out.size
        go_wp2_with fail
        clear ho
        generalize wr = wc at *
        have HM0 : Hid (Mo cT 1 9 mkT wc b (.slice qc q cc) c q 0 (.slice qc q cc) wc) := Mo.start (hG.out.re c _ q (Nat.le_of_eq HUS.out) HVC.out HNS.out)
        go_loopw [7, 8] (fun s7 s8 wr => ∃ (t : Nat), t ≤ 70 ∧ s8 = .int .i64 (t : Int) ∧ Hid (Mo cT 1 9 mkT wc b (.slice qc q cc) c q t s7 wr)) (fun _ s8 _ => 70 - (intOf s8).toNat)
        case atStart => exact ⟨0, by omega, rfl, HM0⟩
        case round =>
          clear HM0
          obtain ⟨t, ht, rfl, hu⟩ := hrel
          have ho := HCc.out _ hu.out.kp
          by_cases h70 : t < 70
          · have h70' : (t : Int) < 70 := by omega
            have iqt : IntKind.i64.wrap ((q : Int) + (t : Int)) = (q : Int) + (t : Int) := by rw [IntKind.wrap_i64]; omega
            have hsg := signT_any wr c (q + t) (by omega) (by omega)
            rw [Int.natCast_add] at hsg
            have hz7 := hu.out.kp.size
            have HAP : Hid (∀ wS, Below wr.heap.size wr wS → ∃ v' w', (Builtin.append_ #[24, 24] 24 #[u7, .slice (some ⟨wS.heap.size, 0, none⟩) 1 1]).run Tryz.prog (wS.alloc (.cells #[.string (mkT c (q + t))] 9)) = .ok v' w' ∧ Hid (Mo cT 1 9 mkT wc b (.slice qc q cc) c q (t + 1) v' w')) := fun wS hbS => by
              have nb : Below wS.heap.size wS (wS.alloc (.cells #[.string (mkT c (q + t))] 9)) := (Below.refl _ wS).alloc (Nat.le_refl _) _
              have hr : (wS.alloc (.cells #[.string (mkT c (q + t))] 9)).rangeAt wS.heap.size 0 (cT (mkT c (q + t))) := fun j u hj => by
                have e := World.alloc_heap_new wS (.cells #[.string (mkT c (q + t))] 9)
                rw [Nat.zero_add]
                simp only [World.cell?, e]
                simpa [cT] using hj
              have hM := (hu.out.next hbS).next nb
              exact hM.app 24 24 (.string e0) 16 Tryz.underlying24 info9 rfl (by decide) (by decide) hcT oneT wS.heap.size hr (by omega) (Nat.le_trans hbz (Nat.le_trans hzc hM.kp.size))
            clear hu
            go_wp2_with (first
              | (go_at_call 64; refine hsg.mono ?_; rintro e wS ⟨rfl, hbS⟩; obtain ⟨v', w', hrun, how'⟩ := HAP.out wS hbS; clear HAP)
              | (at_builtin; refine wpList_apr rfl (.tmp 49) (.tmp 59) 24 rfl hrun ?_)
              | go_in)
            exact ⟨⟨t + 1, by omega, by go_num, how'⟩, by simp [intOf]; omega⟩
          · obtain rfl : t = 70 := by omega
            obtain ⟨o7, c7, rfl, -, -⟩ := own_slice hu.out.own
            have HAP : Hid (∃ v' w', (Builtin.append_ #[79, 79] 79 #[u5, .slice (some ⟨wr.heap.size, 0, none⟩) 1 1]).run Tryz.prog (wr.alloc (.cells #[.slice o7 (q + 70) c7] 24)) = .ok v' w' ∧ Hid (w'.ownsRow w2.heap.size 24 1 v' (c + 1) (us ++ [.slice o7 (q + 70) c7])) ∧ Hid (Lg cT 1 9 mkT w2.heap.size w' b (Ls.map List.length) vs (us ++ [.slice o7 (q + 70) c7])) ∧ Hid (Kp (bkL vs) w2 w')) := by
              have nb : Below wr.heap.size wr (wr.alloc (.cells #[.slice o7 (q + 70) c7] 24)) := (Below.refl _ wr).alloc (Nat.le_refl _) _
              have hL := (hG.out.more HUS.out HVC.out HNS.out hu.out).next nb
              have hK : Kp (bkL vs) w2 (wr.alloc (.cells #[.slice o7 (q + 70) c7] 24)) := (hB.out.trans hu.out.kp fun i _ e => ⟨c, _, HVC.out, e⟩).next nb
              have h5 : wr.ownsRow w2.heap.size 24 1 u5 c us := own_same hO5.out fun g hg => hu.out.kp.block g (own_blk hO5.out g hg).lt fun e => (own_blk hO5.out g hg).ne (hG.out.vb c _ g HVC.out e).2 (by decide) rfl
              have ho5 := own_next h5 nb
              obtain ⟨v', w', e1, e2, e3⟩ := app_any (P := Tryz.prog) 79 79 (.slice none 0 0) 24 Tryz.underlying79 infoLT rfl (by decide) (by decide) u5 c us ho5 wr.heap.size [.slice o7 (q + 70) c7] rfl (fun u hu => by obtain rfl := List.mem_singleton.1 hu; rfl) (fun j u hj => by
                have e := World.alloc_heap_new wr (.cells #[.slice o7 (q + 70) c7] 24)
                rw [Nat.zero_add]
                simp only [World.cell?, e]
                simpa using hj) (by omega) hK.size
              exact ⟨v', w', e1, e2, hL.keep (fun g n hb => e3.block g hb.lt fun e => own_ne ho5 hb (by decide) e.symm) (Nat.le_trans hK.size e3.size), hK.grown e3 fun k hk => .inr (ho5.lt k hk).1⟩
            obtain ⟨v', w', hrun, e2, e3, e4⟩ := HAP.out
            have HUS2 : Hid ((us ++ [Value.slice o7 (q + 70) c7]).length = c + 1) := by show (us ++ [Value.slice o7 (q + 70) c7]).length = c + 1; rw [List.length_append, HUS.out]; rfl
            clear HAP hu ho
            go_wp2_with (at_builtin; refine wpList_apr rfl (.tmp 61) (.tmp 63) 79 rfl hrun ?_)
            exact ⟨⟨c + 1, _, by omega, HUS2.out, by go_num, e2, e3, e4⟩, by simp [intOf]; omega⟩
      obtain rfl : c = Ls.length := by omega
      obtain ⟨o5, cap5, rfl, -, -⟩ := own_slice hO5.out
      have H3 : Hid (∀ d (hd : d < Ls.length), ∃ h5 gx cx qd cd, o5 = some ⟨h5, 0, none⟩ ∧ wr.cell? ⟨h5, d, none⟩ = some (.slice (some ⟨gx, 0, none⟩) (Ls[d].length + 70) cx) ∧ wr.rangeAt gx 0 ((mks mkT d (Ls[d].length + 70)).flatMap cT) ∧ wr.cell? ⟨O, d, none⟩ = some (.slice qd Ls[d].length cd) ∧ (0 < Ls[d].length → ∃ g, qd = some ⟨g, 0, none⟩ ∧ wr.rangeAt g 0 ((mks mkT d Ls[d].length).flatMap cT))) := fun d hd => by
        obtain ⟨q5, c5, e5, _, hr5⟩ := own_slice hO5.out
        cases e5
        obtain ⟨h5, rfl, hr⟩ := hr5 (by omega)
        have hdl : d < us.length := by rw [HUS.out]; exact hd
        have hx := List.getElem?_eq_getElem hdl
        have hnd : (Ls.map List.length)[d]? = some Ls[d].length := by rw [List.getElem?_map, List.getElem?_eq_getElem hd]; rfl
        have hox := hG.out.up d us[d] Ls[d].length hx hnd
        obtain ⟨qx, cx, ex, _, hrx⟩ := own_slice hox
        obtain ⟨gx, rfl, hrr⟩ := hrx (by omega)
        have hcell := hr d us[d] hx
        rw [Nat.zero_add, ex] at hcell
        obtain ⟨qd, cd, hv, ho⟩ := HO.out wr hB.out d hd
        obtain ⟨q', c', e', hl⟩ := hG.out.lo d _ _ hv hnd
        cases e'
        exact ⟨h5, gx, cx, qd, cd, rfl, hcell, hrr, ho, hl⟩
      have HK3 : Hid (Kp (bkL vs) w2 wr) := hB
      clear hO5 hG HUS hci hc hB HO
      generalize wr = w3 at *
      go_wp2_with fail
      go_loopw [9] (fun s9 wr => ∃ d : Nat, d ≤ Ls.length ∧ s9 = .int .i64 (d : Int) ∧ Hid (Below w3.heap.size w3 wr)) (fun s9 _ => Ls.length - (intOf s9).toNat)
      case atStart => exact ⟨0, Nat.zero_le _, rfl, Below.refl _ _⟩
      case round =>
        obtain ⟨d, hd, rfl, hB⟩ := hrel
        by_cases hdl : d < Ls.length
        · have hdl1 : (d : Int) < (Ls.length : Int) := by omega
          have d0 : (0 : Int) ≤ (d : Int) := by omega
          obtain ⟨h5, gx, cx, qd, cd, rfl, k5, kx, kO, kv⟩ := H3.out d hdl
          have hq := hn Ls[d] (List.getElem_mem hdl)
          generalize Ls[d].length = q at k5 kx kO kv hq
          have HX : Hid (∀ W, Below w3.heap.size w3 W → W.cell? ⟨h5, d, none⟩ = some (.slice (some ⟨gx, 0, none⟩) (q + 70) cx) ∧ W.cell? ⟨O, d, none⟩ = some (.slice qd q cd) ∧ (∀ j, j < q + 70 → W.cell? ⟨gx, j, none⟩ = some (.string (mkT d j))) ∧ (0 < q → ∃ g, qd = some ⟨g, 0, none⟩ ∧ ∀ j, j < q → W.cell? ⟨g, j, none⟩ = some (.string (mkT d j)))) := fun W hW => by
            refine ⟨(hW.cell (p := ⟨h5, d, none⟩) (block_lt_of_cell k5)).trans k5, (hW.cell (p := ⟨O, d, none⟩) (block_lt_of_cell kO)).trans kO, fun j hj => ?_, fun h0 => ?_⟩
            · have := mks_get hcT kx j hj 0 _ rfl
              rw [Nat.mul_one, Nat.add_zero] at this
              exact (hW.cell (p := ⟨gx, j, none⟩) (block_lt_of_cell this)).trans this
            · obtain ⟨g, rfl, hr⟩ := kv h0
              refine ⟨g, rfl, fun j hj => ?_⟩
              have := mks_get hcT hr j hj 0 _ rfl
              rw [Nat.mul_one, Nat.add_zero] at this
              exact (hW.cell (p := ⟨g, j, none⟩) (block_lt_of_cell this)).trans this
          clear k5 kx kO kv
          obtain ⟨k5, -, -, -⟩ := HX.out _ hB.out
          go_wp2_with fail
          clear k5
          go_loopw [10] (fun s10 wr => ∃ j : Nat, j ≤ q + 70 ∧ s10 = .int .i64 (j : Int) ∧ Hid (Below w3.heap.size w3 wr)) (fun s10 _ => q + 70 - (intOf s10).toNat)
          case atStart => exact ⟨0, Nat.zero_le _, rfl, hB⟩
          case round =>
            clear hB
            obtain ⟨j, hj, rfl, hB⟩ := hrel
            obtain ⟨k5, kO, kx, kq⟩ := HX.out _ hB.out
            by_cases hjq : j < q + 70
            · have hjq1 : (j : Int) < ((q + 70 : Nat) : Int) := by omega
              have hjq2 : (j : Int) < (q : Int) + 70 := by omega
              have j0 : (0 : Int) ≤ (j : Int) := by omega
              have p0 := kx j hjq
              have c42 : ∀ e os, Calls Tryz.prog 64 #[.int .i64 (d : Int), .int .i64 (j : Int)] (Sort.grow (redrawn wr e) os) fun e w'' => e = .returned (.string (mkT d j)) ∧ ∃ z : Regrown, w'' = Sort.grow (redrawn wr z.d) z.os := fun e os => Calls.regrown_of (signT_any _ d j (by omega) (by omega))
              by_cases hjn : j < q
              · obtain ⟨g, rfl, kg'⟩ := kq (by omega)
                have hjn1 : (j : Int) < (q : Int) := by omega
                have hjn2 : decide ((j : Int) < (q : Int)) = true := decide_eq_true hjn1
                have hjn3 : decide (j < q) = true := decide_eq_true hjn
                have r0 := kg' j hjn
                clear kx kq kg'
                generalize mkT d j = M at p0 r0 c42
                have y1 := cell_regrown k5
                have y2 := cell_regrown kO
                have y3 := cell_regrown p0
                have y6 := cell_regrown r0
                go_wp2_with fail
                clear k5 kO p0 r0
                refine wp_region_quiet_below (by kernel_rfl) (by kernel_rfl) ?_
                repeat (first | go_big_quiet_step (first | with_reducible exact c42 _ _) | quiet_step (first | with_reducible exact c42 _ _))
                refine wpQuiet_nil ?_
                intro _ hw'
                obtain ⟨⟨dq, osq⟩, hw''⟩ := hw'
                subst hw''
                have hY := below_regrown wr dq osq
                change Exit.then _ _ Exit.normal _ (Sort.grow (redrawn wr dq) osq)
                generalize Sort.grow (redrawn wr dq) osq = Y at hY ⊢
                clear c42
                have hB8 : Hid (Below w3.heap.size w3 Y) := hB.out.trans (hY.mono hB.out.size)
                clear hY y1 y2 y3 y6
                go_wp2
                exact ⟨⟨j + 1, by omega, by go_num, hB8⟩, by simp [intOf]; omega⟩
              · have hjn1 : ¬ ((j : Int) < (q : Int)) := by omega
                have hjn2 : decide ((j : Int) < (q : Int)) = false := decide_eq_false hjn1
                have hjn3 : decide (j < q) = false := decide_eq_false hjn
                clear kx kq
                generalize mkT d j = M at p0 c42
                have y1 := cell_regrown k5
                have y2 := cell_regrown kO
                have y3 := cell_regrown p0
                go_wp2_with fail
                clear k5 kO p0
                refine wp_region_quiet_below (by kernel_rfl) (by kernel_rfl) ?_
                repeat (first | go_big_quiet_step (first | with_reducible exact c42 _ _) | quiet_step (first | with_reducible exact c42 _ _))
                refine wpQuiet_nil ?_
                intro _ hw'
                obtain ⟨⟨dq, osq⟩, hw''⟩ := hw'
                subst hw''
                have hY := below_regrown wr dq osq
                change Exit.then _ _ Exit.normal _ (Sort.grow (redrawn wr dq) osq)
                generalize Sort.grow (redrawn wr dq) osq = Y at hY ⊢
                clear c42
                have hB8 : Hid (Below w3.heap.size w3 Y) := hB.out.trans (hY.mono hB.out.size)
                clear hY y1 y2 y3
                go_wp2
                exact ⟨⟨j + 1, by omega, by go_num, hB8⟩, by simp [intOf]; omega⟩
            · obtain rfl : j = q + 70 := by omega
              clear kx kq
              go_wp2
              exact ⟨⟨d + 1, by omega, by go_num, hB⟩, by simp [intOf]; omega⟩
        · obtain rfl : d = Ls.length := by omega
          have hji : ¬ ((Ls.length : Int) < (Ls.length : Int)) := by omega
          go_wp2
          first | (change bodyPost Tryz.prog Tryz.f36 _ Exit.ret _ _) | (simp only [Exit.noGoto])
          go_ret
          exact ⟨rfl, ((HK2.out.trans HK3.out fun _ _ q => q).next hB.out)⟩
end Go.Proofs.YtcjnejdemfemfaaGreatDoor

