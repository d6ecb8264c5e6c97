import Derived.Test.YtdcioemjmmhbhaaDoorJg
import Derived.Test.YtdcioemjmmhbhaaDoorMakes
import Derived.BigQuiet
import Derived.Lib.QuietBelow
namespace Go.Proofs.YtdcioemjmmhbhaaDoor
open Go.RowKit

theorem range_next {w w' : World} {g o : Nat} {xs : List Value} (h : w.rangeAt g o xs) (hb : Below w.heap.size w w') : w'.rangeAt g o xs := fun j v hv => (hb.cell (p := ⟨g, o + j, none⟩) (block_lt_of_cell (h j v hv))).trans (h j v hv)
theorem callS (a b : Value) (w : World) : (callFunc 42 #[a, b]).run Tryd.prog w = .ok (.enter 42 #[a, b]) w := by kernel_rfl

theorem there3 {W : World} {g o : Nat} (h : W.there g o 3) : ∃ x0 x1 x2, W.cell? ⟨g, o, none⟩ = some x0 ∧ W.cell? ⟨g, o + 1, none⟩ = some x1 ∧ W.cell? ⟨g, o + 2, none⟩ = some x2 ∧ W.frozen? ⟨g, o, none⟩ = false ∧ W.frozen? ⟨g, o + 1, none⟩ = false ∧ W.frozen? ⟨g, o + 2, none⟩ = false := by
  have h0 := h 0 (by decide)
  have h1 := h 1 (by decide)
  have h2 := h 2 (by decide)
  rw [Nat.add_zero] at h0
  obtain ⟨x0, e0⟩ := Option.isSome_iff_exists.1 h0.1
  obtain ⟨x1, e1⟩ := Option.isSome_iff_exists.1 h1.1
  obtain ⟨x2, e2⟩ := Option.isSome_iff_exists.1 h2.1
  exact ⟨x0, x1, x2, e0, e1, e2, h0.2, h1.2, h2.2⟩

set_option maxRecDepth 100000 in
set_option maxHeartbeats 4000000 in
theorem apart_any (w : World) (O cap b : Nat) (Ls : List (List V)) (vs : List Value) (h : Ans w b Ls (.slice (some ⟨O, 0, none⟩) Ls.length cap) vs) (hm : Ls.length ≤ 300000) (hn : ∀ l ∈ Ls, l.length ≤ 100000) (hbw : b ≤ w.heap.size) :
    Calls Tryd.prog 23 #[.slice (some ⟨O, 0, none⟩) Ls.length cap] w fun e w' => e = .returned (.bool true) ∧ Kp (bkL vs) w w' := by
  have H0 : Hid (Mkd Ls Ls 0 0 ∧ Ans w b Ls (.slice (some ⟨O, 0, none⟩) Ls.length cap) vs ∧ Kp (bkL vs) w w) := ⟨Mkd.start Ls, h, Kp.refl _ _⟩
  clear h
  go_enter Tryd.func23, Tryd.ntmps23
  go_wp2_with fail
  go_loopw [3] (fun s3 wr => ∃ (i : Nat) (C : List (List V)), i ≤ Ls.length ∧ s3 = .int .i64 (i : Int) ∧ Hid (Mkd Ls C i 0 ∧ Ans wr b C (.slice (some ⟨O, 0, none⟩) Ls.length cap) vs ∧ Kp (bkL vs) w wr)) (fun s3 _ => Ls.length - (intOf s3).toNat)
  case atStart => exact ⟨0, Ls, Nat.zero_le _, rfl, H0⟩
  case round =>
    clear H0
    obtain ⟨i, C, hi, rfl, hS⟩ := hrel
    by_cases hlt : i < Ls.length
    · have hlt1 : (i : Int) < (Ls.length : Int) := by omega
      have i0 : (0 : Int) ≤ (i : Int) := by omega
      obtain ⟨qi, hvi, -, hgi, -⟩ := hS.out.2.1.at hS.out.1 i hlt
      have hq := hn Ls[i] (List.getElem_mem hlt)
      obtain ⟨q, hqe⟩ : ∃ q, Ls[i].length = q := ⟨_, rfl⟩
      have HQ : Hid (Ls[i].length = q) := hqe
      have HV : Hid (vs[i]? = some (.slice qi Ls[i].length Ls[i].length)) := hvi
      rw [hqe] at hq hgi
      clear hqe hvi
      go_wp2_with fail
      go_loopw [4] (fun s4 wr => ∃ (j : Nat) (C : List (List V)), j ≤ q ∧ s4 = .int .i64 (j : Int) ∧ Hid (Mkd Ls C i j ∧ Ans wr b C (.slice (some ⟨O, 0, none⟩) Ls.length cap) vs ∧ Kp (bkL vs) w wr)) (fun s4 _ => q - (intOf s4).toNat)
      case atStart => exact ⟨0, C, Nat.zero_le _, rfl, hS⟩
      case round =>
        clear hS
        obtain ⟨j, C2, hj, rfl, hT⟩ := hrel
        obtain ⟨hM, hA, hK⟩ := hT.out
        obtain ⟨q', h1, h2, -, h4⟩ := hA.at hM i hlt
        rw [HV.out] at h1
        cases h1
        rw [HQ.out] at h2 h4
        by_cases hjq : j < q
        · obtain ⟨g, rfl⟩ := hgi (by omega)
          have hjq1 : (j : Int) < (q : Int) := by omega
          have j0 : (0 : Int) ≤ (j : Int) := by omega
          have hiC : i < C2.length := by rw [hM.len]; exact hlt
          have hCl : C2[i].length = q := (hM.lenAt i hlt).trans HQ.out
          have hbk := own_blk h4 g rfl
          have HST : Hid (∀ W, Below wr.heap.size wr W → (W.cell? ⟨O, i, none⟩ = some (.slice (some ⟨g, 0, none⟩) q q) ∧ W.there g (j * 3) 3) ∧ Hid (∃ C3, Mkd Ls C3 i (j + 1) ∧ Ans (W.setCells g (j * 3) (vc (sgV i j))) b C3 (.slice (some ⟨O, 0, none⟩) Ls.length cap) vs ∧ Kp (bkL vs) w (W.setCells g (j * 3) (vc (sgV i j))))) := fun W hW => by
            refine ⟨⟨(hW.cell (p := ⟨O, i, none⟩) (block_lt_of_cell h2)).trans h2, (hbk.next hW).there _ _ (by omega)⟩, _, hM.step hiC, (hA.next hW).put i j g hiC (by omega) (by rw [hCl, ← HQ.out]; exact HV.out) (sgV i j), ?_⟩
            exact Kp.setCells (.inl ⟨i, _, HV.out, rfl⟩) _ _ (hK.next hW)
          have HSG : Hid (∀ W, Calls Tryd.prog 42 #[.int .i64 (i : Int), .int .i64 (j : Int)] W fun e w' => ∃ v, e = .returned v ∧ (v = .agg #[.int .i64 9, .int .i64 (j : Int), .string (sgT i)] ∧ Below W.heap.size W w')) := fun W => (sign_any W i j (by omega)).mono fun e w' ⟨e1, e2⟩ => ⟨_, e1, rfl, e2⟩
          clear hM hA hK hT h4 hbk hCl hiC hgi
          go_wp2_with fail
          go_region_law (first
            | (refine step_call (by rfl) 42 [.tmp 31, .tmp 32] #[3, 3] [.int .i64 (i : Int), .int .i64 (j : Int)] (by rfl) (by rfl) (callS _ _) _ (HSG.out _) ?_; rintro v w3 ⟨rfl, hb3⟩; obtain ⟨⟨d1, TH⟩, HNX⟩ := HST.out w3 (by first | exact hb3 | exact ((Below.refl _ wr).drew).trans hb3); obtain ⟨y0, y1, y2, a0, a1, a2, f0, f1, f2⟩ := there3 TH))
          all_goals
            obtain ⟨C3, HC3⟩ : ∃ C3, Hid (Mkd Ls C3 i (j + 1) ∧ Ans (w3.setCells g (j * 3) (vc (sgV i j))) b C3 (.slice (some ⟨O, 0, none⟩) Ls.length cap) vs ∧ Kp (bkL vs) w (w3.setCells g (j * 3) (vc (sgV i j)))) := HNX.out
            clear HNX HST HSG d1 TH
            generalize hY : ((w3.setCell ⟨g, j * 3, none⟩ (.int .i64 9)).setCell ⟨g, j * 3 + 1, none⟩ (.int .i64 (j : Int))).setCell ⟨g, j * 3 + 2, none⟩ (.string (sgT i)) = Y
            have HC4 : Hid (Mkd Ls C3 i (j + 1) ∧ Ans Y b C3 (.slice (some ⟨O, 0, none⟩) Ls.length cap) vs ∧ Kp (bkL vs) w Y) := by rw [← hY]; exact HC3
            clear HC3 hY a0 a1 a2 f0 f1 f2 h2 hb3
            go_wp2
            exact ⟨⟨j + 1, C3, by omega, by go_num, HC4⟩, by simp [intOf]; omega⟩
        · obtain rfl : j = q := by omega
          have HT2 : Hid (Mkd Ls C2 (i + 1) 0 ∧ Ans wr b C2 (.slice (some ⟨O, 0, none⟩) Ls.length cap) vs ∧ Kp (bkL vs) w wr) := ⟨hM.next (fun hi' => Nat.le_of_eq ((hM.lenAt i hlt).trans HQ.out)), hA, hK⟩
          clear hM hA hK hT h4
          go_wp2
          exact ⟨⟨i + 1, C2, by omega, by go_num, HT2⟩, by simp [intOf]; omega⟩
    obtain rfl : i = Ls.length := by omega
    have HC : Hid (∀ k (hk : k < Ls.length) W, Below wr.heap.size wr W → ∃ q, vs[k]? = some (.slice q Ls[k].length Ls[k].length) ∧ W.cell? ⟨O, k, none⟩ = some (.slice q Ls[k].length Ls[k].length) ∧ (0 < Ls[k].length → ∃ g, q = some ⟨g, 0, none⟩) ∧ W.ownsRow b 37 3 (.slice q Ls[k].length Ls[k].length) Ls[k].length (vcs (mks k Ls[k].length))) := fun k hk W hW => by
      obtain ⟨q, h1, h2, h3, h4⟩ := (hS.out.2.1.next hW).at hS.out.1 k hk
      refine ⟨q, h1, h2, h3, ?_⟩
      have e := hS.out.1.all k (by rw [hS.out.1.len]; exact hk)
      rw [e, hS.out.1.lenAt k hk] at h4
      exact h4
    have HK2 : Hid (Kp (bkL vs) w wr) := hS.out.2.2
    have hbz : b ≤ wr.heap.size := Nat.le_trans hbw hS.out.2.2.size
    have hOz : O < wr.heap.size := (own_blk hS.out.2.1.out O rfl).lt
    clear hS hlt hi
    generalize wr = w2 at *
    go_wp2_with fail
    go_loopw [5, 6] (fun s5 s6 wr => ∃ (c : Nat) (us : List Value), c ≤ Ls.length ∧ us.length = c ∧ s6 = .int .i64 (c : Int) ∧ Hid (wr.ownsRow w2.heap.size 59 1 s5 c us) ∧ Hid (Lng wr w2.heap.size (Ls.map List.length) us) ∧ Hid (Below w2.heap.size w2 wr)) (fun _ s6 _ => Ls.length - (intOf s6).toNat)
    case atStart => exact ⟨0, [], Nat.zero_le _, rfl, rfl, World.ownsRow_nil _ _ _ _, fun k u n h => by simp at h, Below.refl _ _⟩
    case round =>
      obtain ⟨c, us, hc, hus, rfl, hO5, hG, hB⟩ := hrel
      have HUS : Hid (us.length = c) := hus
      clear hus
      by_cases hci : c < Ls.length
      · have hci1 : (c : Int) < (Ls.length : Int) := by omega
        have c0 : (0 : Int) ≤ (c : Int) := by omega
        obtain ⟨qc, -, ho, -, -⟩ := HC.out c hci wr hB.out
        have hq := hn Ls[c] (List.getElem_mem hci)
        have hns : (Ls.map List.length)[c]? = some Ls[c].length := by rw [List.getElem?_map, List.getElem?_eq_getElem hci]; rfl
        have HCc : Hid (∀ W, Below wr.heap.size wr W → W.cell? ⟨O, c, none⟩ = some (.slice qc Ls[c].length Ls[c].length) ∧ W.ownsRow b 37 3 (.slice qc Ls[c].length Ls[c].length) Ls[c].length (vcs (mks c Ls[c].length))) := fun W hW => by
          obtain ⟨q', -, h2, -, h4⟩ := HC.out c hci W (below2 hB.out hW)
          have h5 := (hW.cell (p := ⟨O, c, none⟩) (block_lt_of_cell ho)).trans ho
          rw [h2] at h5
          cases h5
          exact ⟨h2, h4⟩
        obtain ⟨q, hqe⟩ : ∃ q, Ls[c].length = q := ⟨_, rfl⟩
        have HNS : Hid ((Ls.map List.length)[c]? = some q) := by rw [hqe] at hns; exact hns
        rw [hqe] at ho hq HCc
        clear hqe hns
        have hzc := hB.out.size
        go_wp2_with fail
        clear ho
        generalize wr = wc at *
        go_loopw [7, 8] (fun s7 s8 wr => ∃ (t : Nat), t ≤ 70 ∧ s8 = .int .i64 (t : Int) ∧ Hid ((t = 0 ∧ s7 = .slice qc q q) ∨ (0 < t ∧ wr.ownsRow wc.heap.size 37 3 s7 (q + t) (vcs (mks c (q + t))))) ∧ Hid (Below wc.heap.size wc wr)) (fun _ s8 _ => 70 - (intOf s8).toNat)
        case atStart => exact ⟨0, by omega, rfl, .inl ⟨rfl, rfl⟩, Below.refl _ _⟩
        case round =>
          obtain ⟨t, ht, rfl, hu, hB7⟩ := hrel
          obtain ⟨ho, hown⟩ := HCc.out _ hB7.out
          by_cases h70 : t < 70
          · have h70' : (t : Int) < 70 := by omega
            have iqt : IntKind.i64.wrap ((q : Int) + (t : Int)) = (q : Int) + (t : Int) := by rw [IntKind.wrap_i64]; omega
            have hsg := sign_any wr c (q + t) (by omega)
            rw [Int.natCast_add] at hsg
            have hz7 := hB7.out.size
            have HAP : Hid (∀ wS, Below wr.heap.size wr wS → ∃ v' w', (Builtin.append_ #[59, 59] 59 #[u7, .slice (some ⟨wS.heap.size, 0, none⟩) 1 1]).run Tryd.prog (wS.alloc (.cells #[.int .i64 9, .int .i64 ((q : Int) + (t : Int)), .string (sgT c)] 37)) = .ok v' w' ∧ Hid (w'.ownsRow wc.heap.size 37 3 v' (q + (t + 1)) (vcs (mks c (q + (t + 1))))) ∧ Hid (Below wc.heap.size wc w')) := fun wS hbS => by
              have nb : Below wS.heap.size wS (wS.alloc (.cells #[.int .i64 9, .int .i64 ((q : Int) + (t : Int)), .string (sgT c)] 37)) := (Below.refl _ wS).alloc (Nat.le_refl _) _
              have hr : (wS.alloc (.cells #[.int .i64 9, .int .i64 ((q : Int) + (t : Int)), .string (sgT c)] 37)).rangeAt wS.heap.size 0 (vc (sgV c (q + t))) := fun j u hj => by
                have e := World.alloc_heap_new wS (.cells #[.int .i64 9, .int .i64 ((q : Int) + (t : Int)), .string (sgT c)] 37)
                rw [Nat.zero_add]
                simp only [World.cell?, e]
                have : vc (sgV c (q + t)) = [.int .i64 9, .int .i64 ((q : Int) + (t : Int)), .string (sgT c)] := by simp [vc, sgV]
                rw [this] at hj
                simpa using hj
              have hbA := below2 hbS nb
              have hbC : Below wc.heap.size wc (wS.alloc (.cells #[.int .i64 9, .int .i64 ((q : Int) + (t : Int)), .string (sgT c)] 37)) := below2 hB7.out hbA
              have em : vcs (mks c (q + t)) ++ vc (sgV c (q + t)) = vcs (mks c (q + (t + 1))) := by rw [show q + (t + 1) = q + t + 1 by omega, mks_succ, vcs_app]; simp [vcs]
              rcases hu.out with ⟨rfl, rfl⟩ | ⟨h0, h1⟩
              · obtain ⟨v', w', e1, e2, e3⟩ := app_new (P := Tryd.prog) 59 59 (.agg #[.int .i64 0, .int .i64 0, .string e0]) 32 Tryd.underlying59 info37 rfl (by decide) (by decide) qc q (vcs (mks c q)) (own_next hown hbA) wS.heap.size (vc (sgV c (q + 0))) rfl (vc_one _) hr (by omega) (Nat.le_trans hbz (Nat.le_trans hzc hbC.size))
                have em' : vcs (mks c q) ++ vc (sgV c (q + 0)) = vcs (mks c (q + (0 + 1))) := em
                rw [em'] at e2
                exact ⟨v', w', e1, own_down e2 hbC.size, hbC.trans (e3.mono hbC.size)⟩
              · obtain ⟨v', w', e1, e2, e3⟩ := app_any (P := Tryd.prog) 59 59 (.agg #[.int .i64 0, .int .i64 0, .string e0]) 32 Tryd.underlying59 info37 rfl (by decide) (by decide) u7 (q + t) (vcs (mks c (q + t))) (own_next h1 hbA) wS.heap.size (vc (sgV c (q + t))) rfl (vc_one _) hr (by omega) hbC.size
                rw [em] at e2
                exact ⟨v', w', e1, e2, hbC.grown e3 hbC.size (fun k hk => (h1.lt k hk).1)⟩
            clear hown hu
            go_wp2_with (first
              | (go_at_call 42; refine hsg.mono ?_; rintro e wS ⟨rfl, hbS⟩; obtain ⟨v', w', hrun, how', hbw'⟩ := HAP.out wS hbS; clear HAP)
              | (at_builtin; refine wpList_apr rfl (.tmp 49) (.tmp 59) 59 rfl hrun ?_)
              | go_in)
            exact ⟨⟨t + 1, by omega, by go_num, .inr ⟨by omega, how'.out⟩, hbw'⟩, by simp [intOf]; omega⟩
          · obtain rfl : t = 70 := by omega
            have hu7 : wr.ownsRow wc.heap.size 37 3 u7 (q + 70) (vcs (mks c (q + 70))) := by
              rcases hu.out with ⟨h0, _⟩ | ⟨_, h1⟩
              · omega
              · exact h1
            obtain ⟨o7, c7, rfl, -, -⟩ := own_slice hu7
            have HAP : Hid (∃ v' w', (Builtin.append_ #[32, 32] 32 #[u5, .slice (some ⟨wr.heap.size, 0, none⟩) 1 1]).run Tryd.prog (wr.alloc (.cells #[.slice o7 (q + 70) c7] 59)) = .ok v' w' ∧ Hid (w'.ownsRow w2.heap.size 59 1 v' (c + 1) (us ++ [.slice o7 (q + 70) c7])) ∧ Hid (Lng w' w2.heap.size (Ls.map List.length) (us ++ [.slice o7 (q + 70) c7])) ∧ Hid (Below w2.heap.size w2 w')) := by
              have nb : Below wr.heap.size wr (wr.alloc (.cells #[.slice o7 (q + 70) c7] 59)) := (Below.refl _ wr).alloc (Nat.le_refl _) _
              have hbA := below2 hB7.out nb
              have hbC := below2 hB.out hbA
              have ho5 := own_next hO5.out hbA
              obtain ⟨v', w', e1, e2, e3⟩ := app_any (P := Tryd.prog) 32 32 (.slice none 0 0) 24 Tryd.underlying32 info59 rfl (by decide) (by decide) u5 c us ho5 wr.heap.size [.slice o7 (q + 70) c7] rfl (one_slice _ _ _) (fun j u hj => by
                have e := World.alloc_heap_new wr (.cells #[.slice o7 (q + 70) c7] 59)
                rw [Nat.zero_add]
                simp only [World.cell?, e]
                simpa using hj) (by omega) hbC.size
              exact ⟨v', w', e1, e2, (hG.out.next hbA).push HUS.out HNS.out (own_down (own_next hu7 nb) hzc) ho5 e3, hbC.grown e3 hbC.size (fun k hk => (ho5.lt k hk).1)⟩
            obtain ⟨v', w', hrun, e2, e3, e4⟩ := HAP.out
            have HUS2 : Hid ((us ++ [Value.slice o7 (q + 70) c7]).length = c + 1) := by show (us ++ [Value.slice o7 (q + 70) c7]).length = c + 1; rw [List.length_append, HUS.out]; rfl
            clear HAP hu hu7 hown ho
            go_wp2_with (at_builtin; refine wpList_apr rfl (.tmp 61) (.tmp 63) 32 rfl hrun ?_)
            exact ⟨⟨c + 1, _, by omega, HUS2.out, by go_num, e2, e3, e4⟩, by simp [intOf]; omega⟩
      obtain rfl : c = Ls.length := by omega
      obtain ⟨o5, cap5, rfl, -, -⟩ := own_slice hO5.out
      have H3 : Hid (∀ d (hd : d < Ls.length), ∃ h5 gx cx, o5 = some ⟨h5, 0, none⟩ ∧ wr.cell? ⟨h5, d, none⟩ = some (.slice (some ⟨gx, 0, none⟩) (Ls[d].length + 70) cx) ∧ wr.rangeAt gx 0 (vcs (mks d (Ls[d].length + 70)))) := fun d hd => by
        obtain ⟨q5, c5, e5, _, hr5⟩ := own_slice hO5.out
        cases e5
        obtain ⟨h5, rfl, hr⟩ := hr5 (by omega)
        have hdl : d < us.length := by rw [HUS.out]; exact hd
        have hx := List.getElem?_eq_getElem hdl
        have hox := hG.out d us[d] Ls[d].length hx (by rw [List.getElem?_map, List.getElem?_eq_getElem hd]; rfl)
        obtain ⟨qx, cx, ex, _, hrx⟩ := own_slice hox
        obtain ⟨gx, rfl, hrr⟩ := hrx (by omega)
        have hcell := hr d us[d] hx
        rw [Nat.zero_add, ex] at hcell
        exact ⟨h5, gx, cx, rfl, hcell, hrr⟩
      clear hO5 hG HUS hci hc
      have HB3 : Hid (Below w2.heap.size w2 wr) := hB
      clear hB
      generalize wr = w3 at *
      go_wp2_with fail
      go_loopw [9] (fun s9 wr => ∃ d : Nat, d ≤ Ls.length ∧ s9 = .int .i64 (d : Int) ∧ Hid (Below w3.heap.size w3 wr)) (fun s9 _ => Ls.length - (intOf s9).toNat)
      case atStart => exact ⟨0, Nat.zero_le _, rfl, Below.refl _ _⟩
      case round =>
        obtain ⟨d, hd, rfl, hB⟩ := hrel
        by_cases hdl : d < Ls.length
        · have hdl1 : (d : Int) < (Ls.length : Int) := by omega
          have d0 : (0 : Int) ≤ (d : Int) := by omega
          obtain ⟨h5, gx, cx, rfl, k5, kx⟩ := H3.out d hdl
          obtain ⟨qd, -, kO, kg, kv⟩ := HC.out d hdl w3 HB3.out
          have hq := hn Ls[d] (List.getElem_mem hdl)
          generalize Ls[d].length = q at k5 kx kO kg kv hq
          have HX : Hid (∀ W, Below w3.heap.size w3 W → W.cell? ⟨h5, d, none⟩ = some (.slice (some ⟨gx, 0, none⟩) (q + 70) cx) ∧ W.cell? ⟨O, d, none⟩ = some (.slice qd q q) ∧ W.rangeAt gx 0 (vcs (mks d (q + 70))) ∧ (0 < q → ∃ g, qd = some ⟨g, 0, none⟩ ∧ W.rangeAt g 0 (vcs (mks d q)))) := fun W hW => by
            refine ⟨(hW.cell (p := ⟨h5, d, none⟩) (block_lt_of_cell k5)).trans k5, (hW.cell (p := ⟨O, d, none⟩) (block_lt_of_cell kO)).trans kO, range_next kx hW, fun h0 => ?_⟩
            obtain ⟨q', c', e, _, hr⟩ := own_slice kv
            cases e
            obtain ⟨g, rfl, hrr⟩ := hr h0
            exact ⟨g, rfl, range_next hrr hW⟩
          clear k5 kx kO kv
          go_wp2_with fail
          go_loopw [10] (fun s10 wr => ∃ j : Nat, j ≤ q + 70 ∧ s10 = .int .i64 (j : Int) ∧ Hid (Below w3.heap.size w3 wr)) (fun s10 _ => q + 70 - (intOf s10).toNat)
          case atStart => exact ⟨0, Nat.zero_le _, rfl, hB⟩
          case round =>
            clear hB
            obtain ⟨j, hj, rfl, hB⟩ := hrel
            obtain ⟨k5, kO, kx, kq⟩ := HX.out _ hB.out
            by_cases hjq : j < q + 70
            · have hjq1 : (j : Int) < ((q + 70 : Nat) : Int) := by omega
              have hjq2 : (j : Int) < (q : Int) + 70 := by omega
              have j0 : (0 : Int) ≤ (j : Int) := by omega
              have ex := vcs_get kx j (by rw [mks_len]; exact hjq)
              rw [mks_at, Nat.zero_add] at ex
              have p0 : wr.cell? ⟨gx, j * 3, none⟩ = some (.int .i64 9) := ex 0 _ rfl
              have p1 : wr.cell? ⟨gx, j * 3 + 1, none⟩ = some (.int .i64 (j : Int)) := ex 1 _ rfl
              have p2 : wr.cell? ⟨gx, j * 3 + 2, none⟩ = some (.string (sgT d)) := ex 2 _ rfl
              have c42 : ∀ e os, Calls Tryd.prog 42 #[.int .i64 (d : Int), .int .i64 (j : Int)] (Sort.grow (redrawn wr e) os) fun e w'' => e = .returned (.agg #[.int .i64 9, .int .i64 (j : Int), .string (sgT d)]) ∧ ∃ z : Regrown, w'' = Sort.grow (redrawn wr z.d) z.os := fun e os => Calls.regrown_of (sign_any _ d j (by omega))
              have nv := neqV 9 (j : Int) (sgT d) 9 (j : Int) (sgT d)
              rw [show (!(((9 : Int) == 9 && (j : Int) == (j : Int)) && (sgT d).toList == (sgT d).toList)) = false by simp] at nv
              have y1 := cell_regrown k5
              have y2 := cell_regrown kO
              have y3 := cell_regrown p0
              have y4 := cell_regrown p1
              have y5 := cell_regrown p2
              by_cases hjn : j < q
              · obtain ⟨g, rfl, kg'⟩ := kq (by omega)
                have hjn1 : (j : Int) < (q : Int) := by omega
                have hjn2 : decide ((j : Int) < (q : Int)) = true := decide_eq_true hjn1
                have hjn3 : decide (j < q) = true := decide_eq_true hjn
                have eg := vcs_get kg' j (by rw [mks_len]; exact hjn)
                rw [mks_at, Nat.zero_add] at eg
                have r0 : wr.cell? ⟨g, j * 3, none⟩ = some (.int .i64 9) := eg 0 _ rfl
                have r1 : wr.cell? ⟨g, j * 3 + 1, none⟩ = some (.int .i64 (j : Int)) := eg 1 _ rfl
                have r2 : wr.cell? ⟨g, j * 3 + 2, none⟩ = some (.string (sgT d)) := eg 2 _ rfl
                have y6 := cell_regrown r0
                have y7 := cell_regrown r1
                have y8 := cell_regrown r2
                clear kx kq ex eg kg'
                go_wp2_with fail
                clear k5 kO p0 p1 p2 r0 r1 r2
                refine wp_region_quiet_below (by kernel_rfl) (by kernel_rfl) ?_
                repeat (first | go_big_quiet_step (first | with_reducible exact c42 _ _) | quiet_step (first | with_reducible exact c42 _ _))
                refine wpQuiet_nil ?_
                intro _ hw'
                obtain ⟨⟨dq, osq⟩, hw''⟩ := hw'
                subst hw''
                have hY := below_regrown wr dq osq
                change Exit.then _ _ Exit.normal _ (Sort.grow (redrawn wr dq) osq)
                generalize Sort.grow (redrawn wr dq) osq = Y at hY ⊢
                clear c42
                have hB8 : Hid (Below w3.heap.size w3 Y) := hB.out.trans (hY.mono hB.out.size)
                clear hY y1 y2 y3 y4 y5 y6 y7 y8 nv
                go_wp2
                exact ⟨⟨j + 1, by omega, by go_num, hB8⟩, by simp [intOf]; omega⟩
              · have hjn1 : ¬ ((j : Int) < (q : Int)) := by omega
                have hjn2 : decide ((j : Int) < (q : Int)) = false := decide_eq_false hjn1
                have hjn3 : decide (j < q) = false := decide_eq_false hjn
                clear kx kq ex
                go_wp2_with fail
                clear k5 kO p0 p1 p2
                refine wp_region_quiet_below (by kernel_rfl) (by kernel_rfl) ?_
                repeat (first | go_big_quiet_step (first | with_reducible exact c42 _ _) | quiet_step (first | with_reducible exact c42 _ _))
                refine wpQuiet_nil ?_
                intro _ hw'
                obtain ⟨⟨dq, osq⟩, hw''⟩ := hw'
                subst hw''
                have hY := below_regrown wr dq osq
                change Exit.then _ _ Exit.normal _ (Sort.grow (redrawn wr dq) osq)
                generalize Sort.grow (redrawn wr dq) osq = Y at hY ⊢
                clear c42
                have hB8 : Hid (Below w3.heap.size w3 Y) := hB.out.trans (hY.mono hB.out.size)
                clear hY y1 y2 y3 y4 y5 nv
                go_wp2
                exact ⟨⟨j + 1, by omega, by go_num, hB8⟩, by simp [intOf]; omega⟩
            · obtain rfl : j = q + 70 := by omega
              clear kx kq
              go_wp2
              exact ⟨⟨d + 1, by omega, by go_num, hB⟩, by simp [intOf]; omega⟩
        · obtain rfl : d = Ls.length := by omega
          have hji : ¬ ((Ls.length : Int) < (Ls.length : Int)) := by omega
          go_wp2
          first | (change bodyPost Tryd.prog Tryd.f23 _ Exit.ret _ _) | (simp only [Exit.noGoto])
          go_ret
          exact ⟨rfl, (HK2.out.next HB3.out).next hB.out⟩
end Go.Proofs.YtdcioemjmmhbhaaDoor
