import Derived.BigQuiet
import Derived.Test.YtlocaalipjjnpaaDoorM22
import Derived.Test.YtlocaalipjjnpaaDoorM09
namespace Go.Proofs.YtlocaalipjjnpaaDoor.ApI
open Go.RowKit

theorem info25 : (Tryd.prog.info? 25).map (fun i => (i.zero, i.size, i.bytes)) = some (some (.slice none 0 0), 1, 24) := by kernel_rfl

theorem own_form26 {W : World} {base n : Nat} {u : Value} {xs : List Value} (h : W.ownsRow base 25 1 u n xs) : ∃ ov cap, u = .slice ov n cap ∧ (0 < n → ∃ g, ov = some ⟨g, 0, none⟩) := by
  rcases h.2 with ⟨rfl, rfl⟩ | ⟨g, cap, _, rfl, _⟩
  · exact ⟨none, 0, rfl, fun h => absurd h (Nat.lt_irrefl _)⟩
  · exact ⟨_, cap, rfl, fun _ => ⟨g, rfl⟩⟩

set_option maxRecDepth 100000 in
set_option maxHeartbeats 4000000 in
theorem apart_walk (w : World) (base O m : Nat) (v : Nat → Value) (n : Nat → Nat) (f0 : Nat → List Value) (hm : m ≤ 200) (hL : Lists w base O m v n f0) (hlen : ∀ k, k < m → (f0 k).length = n k) (hz : ∀ k, k < m → n k = 0 → v k = .slice none 0 0)
    (hd : ∀ a b, a < m → b < m → a ≠ b → (v a).ownBlock = none ∨ (v a).ownBlock ≠ (v b).ownBlock) (hn : ∀ k, k < m → n k ≤ 1353245080300) (hbase : base ≤ w.heap.size) :
    Calls Tryd.prog 20 #[.slice (some ⟨O, 0, none⟩) m m] w fun e w' => e = .returned (.bool true) ∧ Below base w w' := by
  have HL : Hid (Lists w base O m v n f0) := hL
  have HLen : Hid (∀ k, k < m → (f0 k).length = n k) := hlen
  have HZ : Hid (∀ k, k < m → n k = 0 → v k = .slice none 0 0) := hz
  have HD : Hid (∀ a b, a < m → b < m → a ≠ b → (v a).ownBlock = none ∨ (v a).ownBlock ≠ (v b).ownBlock) := hd
  have HN : Hid (∀ k, k < m → n k ≤ 1353245080300) := hn
  have HO0 := hL.1.lt
  clear hL hlen hz hd hn
  obtain ⟨i9, hi9, hz9, hs9, hb9⟩ := info_parts info3
  obtain ⟨i26, hi26, hz26, hs26, hb26⟩ := info_parts info25
  go_enter Tryd.func20, Tryd.ntmps20
  go_wp2
  go_loopw [12] (fun s3 wr => ∃ i : Nat, i ≤ m ∧ s3 = .int .i64 (i : Int) ∧ Hid (Lists wr base O m v n (Fm n f0 i 0)) ∧ Below base w wr) (fun s3 _ => m - (intOf s3).toNat)
  case atStart =>
    refine ⟨0, Nat.zero_le _, rfl, ?_, Below.refl _ _⟩
    refine ⟨HL.out.1, fun k hk => ?_⟩
    have e : Fm n f0 0 0 k = f0 k := by
      unfold Fm
      rw [if_neg (Nat.not_lt_zero _)]
      by_cases h0 : k = 0
      · subst h0; simp [sgs]
      · rw [if_neg h0]
    rw [e]
    exact HL.out.2 k hk
  case round =>
    obtain ⟨i, hi, rfl, hS, hB⟩ := hrel
    by_cases hlt : i < m
    · have hni := HN.out i hlt
      have hlt1 : (i : Int) < (m : Int) := by omega
      have ho := hS.out.1.cell i hlt
      obtain ⟨ov, cap, hvi, hg0⟩ := own_form (hS.out.2 i hlt)
      have HV : Hid (v i = .slice ov (n i) cap) := hvi
      rw [hvi] at ho
      clear hvi
      obtain ⟨q, hq⟩ : ∃ q, n i = q := ⟨_, rfl⟩
      have HQ : Hid (n i = q) := hq
      rw [hq] at hni hg0 HV ho
      clear hq
      go_wp2_with fail
      clear ho
      go_loopw [20] (fun s4 wr => ∃ j : Nat, j ≤ q ∧ s4 = .int .i64 (j : Int) ∧ Hid (Lists wr base O m v n (Fm n f0 i j)) ∧ Below base w wr) (fun s4 _ => q - (intOf s4).toNat)
      case atStart => exact ⟨0, Nat.zero_le _, rfl, hS, hB⟩
      case round =>
        clear hS hB
        obtain ⟨j, hj, rfl, hT, hC⟩ := hrel
        have ho := hT.out.1.cell i hlt
        rw [HV.out] at ho
        by_cases hjq : j < q
        · obtain ⟨g, rfl⟩ := hg0 (by omega)
          clear hg0
          have hoi := hT.out.2 i hlt
          rw [HV.out, HQ.out] at hoi
          obtain ⟨⟨x, hx⟩, hf⟩ := own_at hoi j hjq
          have hO := hT.out.1.lt
          have hgl := (hoi.lt g rfl).2
          have hgb := (hoi.lt g rfl).1
          have hCs : base ≤ wr.heap.size := Nat.le_trans hbase hC.size
          have hjq1 : (j : Int) < (q : Int) := by omega
          clear hoi
          have hwr : IntKind.i64.wrap (-1 - (i : Int)) = -1 - (i : Int) := by rw [IntKind.wrap_i64]; omega
          have hT1 : Hid (Lists (wr.setCell ⟨g, j, none⟩ (.int .i64 (-1 - (i : Int)))) base O m v n (Fm n f0 i (j + 1))) := hT.out.store hlt (by rw [HQ.out]; exact hjq) (HLen.out i hlt) (by rw [HQ.out]; exact HV.out) HD.out
          have hbg : base ≤ g := hgb
          have hC1 : Below base w (wr.setCell ⟨g, j, none⟩ (.int .i64 (-1 - (i : Int)))) := hC.setCell (p := ⟨g, j, none⟩) hbg _
          clear hT
          go_wp2
          go_roundw
          case rel => exact ⟨j + 1, by omega, by go_num, hT1, hC1⟩
          case measure => simp [intOf]; omega
        · have hj2 : j = q := by omega
          subst hj2
          have hT2 : Lists wr base O m v n (Fm n f0 (i + 1) 0) := ⟨hT.out.1, fun k hk => by
            have h := hT.out.2 k hk
            have e := Fm_next (f0 := f0) (HLen.out i hlt) k
            rw [HQ.out] at e
            rw [e] at h
            exact h⟩
          have HT2 : Hid (Lists wr base O m v n (Fm n f0 (i + 1) 0)) := hT2
          clear hT2
          go_wp2
          go_roundw
          case rel => exact ⟨i + 1, by omega, by go_num, HT2, hC⟩
          case measure => simp [intOf]; omega
    · have hi2 : i = m := by omega
      subst hi2
      have hL2 : Lists wr base O i v n (fun k => sgs k (n k)) := ⟨hS.out.1, fun k hk => by
        have h := hS.out.2 k hk
        have e : Fm n f0 i 0 k = sgs k (n k) := if_pos hk
        rw [e] at h
        exact h⟩
      have HL2 : Hid (Lists wr base O i v n (fun k => sgs k (n k))) := hL2
      clear hL2 hS HL HD HLen
      go_wp2_with fail
      go_loopw [5, 35] (fun s5 s6 wr => ∃ (c : Nat) (us : List Value), c ≤ i ∧ us.length = c ∧ s6 = .int .i64 (c : Int) ∧ Hid (wr.ownsRow w.heap.size 25 1 s5 c us) ∧ Hid (Lists wr base O i v n (fun k => sgs k (n k))) ∧ Hid (Longs wr base n us) ∧ Below base w wr) (fun _ s6 _ => i - (intOf s6).toNat)
      case atStart => exact ⟨0, [], Nat.zero_le _, rfl, rfl, World.ownsRow_nil _ _ _ _, HL2, fun k u h => by simp at h, hB⟩
      case round =>
        clear hB HL2 hlt
        obtain ⟨c, us, hc, hus, rfl, h26, hL, hG, hB⟩ := hrel
        have HUS : Hid (us.length = c) := hus
        clear hus
        by_cases hci : c < i
        · have hnc := HN.out c hci
          have hci1 : (c : Int) < (i : Int) := by omega
          have ho := hL.out.1.cell c hci
          have how := hL.out.2 c hci
          have HOW : Hid (wr.ownsRow base 3 1 (v c) (n c) (sgs c (n c))) := how
          obtain ⟨ov, cap, hvc, _⟩ := own_form how
          have HV : Hid (v c = .slice ov (n c) cap) := hvc
          rw [hvc] at ho
          obtain ⟨q, hq⟩ : ∃ q, n c = q := ⟨_, rfl⟩
          have HQ : Hid (n c = q) := hq
          have HZ2 : Hid (q = 0 → v c = .slice none 0 0) := fun h => HZ.out c hci (hq.trans h)
          rw [hq] at hnc ho HV HOW
          clear hvc how hq
          go_wp2_with fail
          go_loopw [7, 42] (fun s7 s8 wr => ∃ (t : Nat) (u : Value), t ≤ 70 ∧ s7 = u ∧ s8 = .int .i64 (t : Int) ∧ Hid (wr.ownsRow base 3 1 u (q + t) (sgs c (q + t))) ∧ Hid (q + t = 0 → u = .slice none 0 0) ∧ Hid (wr.ownsRow w.heap.size 25 1 u5 c us) ∧ Hid (Lists wr base O i v n (fun k => sgs k (n k))) ∧ Hid (Longs wr base n us) ∧ Below base w wr) (fun _ s8 _ => 70 - (intOf s8).toNat)
          case atStart => exact ⟨0, _, by omega, rfl, rfl, by rw [← HV.out]; exact HOW, fun h => by rw [← HV.out]; exact HZ2.out h, h26, hL, hG, hB⟩
          case round =>
            clear h26 hL hG hB HOW
            obtain ⟨t, u, ht, rfl, rfl, hu, hu0, h26, hL, hG, hB⟩ := hrel
            have ho := hL.out.1.cell c hci
            rw [HV.out] at ho
            by_cases h70 : t < 70
            · have hO := hL.out.1.lt
              have hBs := hB.size
              have hwr : IntKind.i64.wrap (-1 - (c : Int)) = -1 - (c : Int) := by rw [IntKind.wrap_i64]; omega
              have hal : Below wr.heap.size wr (wr.alloc (.cells #[.int .i64 (-1 - (c : Int))] 3)) := (Below.refl _ wr).alloc (Nat.le_refl _) _
              obtain ⟨u', w2, hrun, hown2, hgr2, hcs⟩ := app_one (P := Tryd.prog) (w := wr.alloc (.cells #[.int .i64 (-1 - (c : Int))] 3)) (base := base) 25 25 i9 (.int .i64 0) 8 Tryd.underlying25 hi9 hz9 hs9 hb9 rfl u7 (q + t) (sgs c (q + t)) (hu.out.alloc _) ⟨wr.heap.size, 0, none⟩ 1 (.int .i64 (-1 - (c : Int))) (new_cell _ _ _).1 rfl (by unfold maxLen; omega) (by omega) (by simp; omega)
              rw [← sgs_succ] at hown2
              have hst := more_step (by omega) hci (hL.out.stays hal) HZ.out (hG.out.stays hal) HUS.out (own_stays h26.out hal) (hu.out.alloc _) (by rw [HQ.out]; omega) hu0.out hown2 hgr2 hcs
              have HS1 : Hid (Lists w2 base O i v n (fun k => sgs k (n k))) := hst.1
              have HS2 : Hid (Longs w2 base n us) := hst.2.1
              have HS3 : Hid (w2.ownsRow w.heap.size 25 1 u5 c us) := hst.2.2
              have HS4 : Hid (w2.ownsRow base 3 1 u' (q + t + 1) (sgs c (q + t + 1))) := hown2
              have hB2 : Below base w w2 := (hB.alloc (by omega) (.cells #[.int .i64 (-1 - (c : Int))] 3)).grown hgr2 (by simp; omega) (fun k e => (hu.out.lt k e).1)
              have HR : Hid ((Builtin.append_ #[25, 25] 25 #[u7, .slice (some ⟨wr.heap.size, 0, none⟩) 1 1]).run Tryd.prog (wr.alloc (.cells #[.int .i64 (-1 - (c : Int))] 3)) = .ok u' w2) := hrun
              clear hst hcs hgr2 hown2 hal hrun
              go_wp2_with (at_builtin; refine wpList_app rfl (.tmp 44) (.tmp 47) 25 rfl HR.out ?_)
              go_roundw
              case rel => exact ⟨t + 1, u', by omega, rfl, by go_num, HS4, fun h => by omega, HS3, HS1, HS2, hB2⟩
              case measure => simp [intOf]; omega
            · have ht2 : t = 70 := by omega
              subst ht2
              obtain ⟨ov7, cap7, hu7, hg7⟩ := own_form hu.out
              subst hu7
              have hBs := hB.size
              have hal : Below wr.heap.size wr (wr.alloc (.cells #[.slice ov7 (q + 70) cap7] 25)) := (Below.refl _ wr).alloc (Nat.le_refl _) _
              obtain ⟨u', w2, hrun, hown2, hgr2, hcs⟩ := app_one (P := Tryd.prog) (w := wr.alloc (.cells #[.slice ov7 (q + 70) cap7] 25)) (base := w.heap.size) 48 48 i26 (.slice none 0 0) 24 Tryd.underlying48 hi26 hz26 hs26 hb26 rfl u5 c us (h26.out.alloc _) ⟨wr.heap.size, 0, none⟩ 1 (.slice ov7 (q + 70) cap7) (new_cell wr _ 25).1 rfl (by unfold maxLen; omega) (by omega) (by simp; omega)
              have hst := long_step (hL.out.stays hal) (hG.out.stays hal) (h26.out.alloc _) HO0 (hu.out.alloc _) hgr2
              have hus := HUS.out
              have HS1 : Hid (Lists w2 base O i v n (fun k => sgs k (n k))) := hst.1
              have HS2 : Hid (Longs w2 base n (us ++ [.slice ov7 (q + 70) cap7])) := hst.2.1.push (by rw [hus, HQ.out]; exact hst.2.2)
              have HS3 : Hid (w2.ownsRow w.heap.size 25 1 u' (c + 1) (us ++ [.slice ov7 (q + 70) cap7])) := hown2
              have hB2 : Below base w w2 := (hB.alloc (by omega) (.cells #[.slice ov7 (q + 70) cap7] 25)).grown hgr2 (by simp; omega) (fun k e => Nat.le_trans hbase (h26.out.lt k e).1)
              have HUS2 : Hid ((us ++ [Value.slice ov7 (q + 70) cap7]).length = c + 1) := by show (us ++ [Value.slice ov7 (q + 70) cap7]).length = c + 1; rw [List.length_append, hus]; rfl
              have HR : Hid ((Builtin.append_ #[48, 48] 48 #[u5, .slice (some ⟨wr.heap.size, 0, none⟩) 1 1]).run Tryd.prog (wr.alloc (.cells #[.slice ov7 (q + 70) cap7] 25)) = .ok u' w2) := hrun
              clear hst hcs hgr2 hown2 hal hrun hus hg7 ho
              go_wp2_with (at_builtin; refine wpList_app rfl (.tmp 50) (.tmp 52) 48 rfl HR.out ?_)
              go_roundw
              case rel => exact ⟨c + 1, us ++ [.slice ov7 (q + 70) cap7], by omega, HUS2.out, by go_num, HS3, HS1, HS2, hB2⟩
              case measure => simp [intOf]; omega
        · have hc2 : c = i := by omega
          subst hc2
          obtain ⟨o5, cap5, hu5, hg5⟩ := own_form26 h26.out
          subst hu5
          go_wp2_with fail
          go_loopw [57] (fun s9 wr => ∃ d : Nat, d ≤ c ∧ s9 = .int .i64 (d : Int) ∧ Hid (wr.ownsRow w.heap.size 25 1 (.slice o5 c cap5) c us) ∧ Hid (Lists wr base O c v n (fun k => sgs k (n k))) ∧ Hid (Longs wr base n us) ∧ Below base w wr) (fun s9 _ => c - (intOf s9).toNat)
          case atStart => exact ⟨0, Nat.zero_le _, rfl, h26, hL, hG, hB⟩
          case round =>
            clear h26 hL hG hB
            obtain ⟨d, hd, rfl, h26, hL, hG, hB⟩ := hrel
            by_cases hdc : d < c
            · obtain ⟨h5, rfl⟩ := hg5 (by omega)
              clear hg5
              have hdc1 : (d : Int) < (c : Int) := by omega
              have hnd := HN.out d hdc
              have hdl : d < us.length := by rw [HUS.out]; exact hdc
              obtain ⟨x, hx⟩ : ∃ x, us[d]? = some x := ⟨_, List.getElem?_eq_getElem hdl⟩
              obtain ⟨ox, capx, hxf, hgx⟩ := own_form (hG.out d x hx)
              obtain ⟨gx, rfl⟩ := hgx (by omega)
              subst hxf
              have HX : Hid (us[d]? = some (.slice (some ⟨gx, 0, none⟩) (n d + 70) capx)) := hx
              obtain ⟨ov, cap, hvd, hgd⟩ := own_form (hL.out.2 d hdc)
              have HV : Hid (v d = .slice ov (n d) cap) := hvd
              obtain ⟨q, hq⟩ : ∃ q, n d = q := ⟨_, rfl⟩
              have HQ : Hid (n d = q) := hq
              rw [hq] at hnd HX HV hgd
              clear hx hgx hvd hq hdl
              have c5 : wr.cell? ⟨h5, d, none⟩ = some (.slice (some ⟨gx, 0, none⟩) (q + 70) capx) := (h26.out.cellAt d (by omega)).trans HX.out
              go_wp2_with fail
              go_loopw [65] (fun s10 wr => ∃ j : Nat, j ≤ q + 70 ∧ s10 = .int .i64 (j : Int) ∧ Hid (wr.ownsRow w.heap.size 25 1 (.slice (some ⟨h5, 0, none⟩) c cap5) c us) ∧ Hid (Lists wr base O c v n (fun k => sgs k (n k))) ∧ Hid (Longs wr base n us) ∧ Below base w wr) (fun s10 _ => q + 70 - (intOf s10).toNat)
              case atStart => exact ⟨0, Nat.zero_le _, rfl, h26, hL, hG, hB⟩
              case round =>
                clear h26 hL hG hB c5
                obtain ⟨j, hj, rfl, h26, hL, hG, hB⟩ := hrel
                have c5 : wr.cell? ⟨h5, d, none⟩ = some (.slice (some ⟨gx, 0, none⟩) (q + 70) capx) := (h26.out.cellAt d (by omega)).trans HX.out
                by_cases hjq : j < q + 70
                · have hjq1 : (j : Int) < (q : Int) + 70 := by omega
                  have ho := hL.out.1.cell d hdc
                  rw [HV.out] at ho
                  have hgo := hG.out d _ HX.out
                  rw [HQ.out] at hgo
                  have cx : wr.cell? ⟨gx, j, none⟩ = some (.int .i64 (-1 - (d : Int))) := (hgo.cellAt j (by omega)).trans (sgs_at d (q + 70) j hjq)
                  have hwr : IntKind.i64.wrap (-1 - (d : Int)) = -1 - (d : Int) := by rw [IntKind.wrap_i64]; omega
                  by_cases hjn : j < q
                  · obtain ⟨g, rfl⟩ := hgd (by omega)
                    have hv := hL.out.2 d hdc
                    rw [HV.out, HQ.out] at hv
                    have cg : wr.cell? ⟨g, j, none⟩ = some (.int .i64 (-1 - (d : Int))) := (hv.cellAt j (by omega)).trans (by show (sgs d (n d))[j]? = _; rw [HQ.out]; exact sgs_at d q j hjn)
                    have hjn1 : (j : Int) < (q : Int) := by omega
                    clear hv hgd hgo
                    go_wp2
                    go_roundw
                    case rel => exact ⟨j + 1, by omega, by go_num, h26, hL, hG, hB⟩
                    case measure => simp [intOf]; omega
                  · have hjn1 : ¬ (j : Int) < (q : Int) := by omega
                    clear hgd hgo
                    go_wp2
                    go_roundw
                    case rel => exact ⟨j + 1, by omega, by go_num, h26, hL, hG, hB⟩
                    case measure => simp [intOf]; omega
                · have hj2 : j = q + 70 := by omega
                  subst hj2
                  go_wp2
                  go_roundw
                  case rel => exact ⟨d + 1, by omega, by go_num, h26, hL, hG, hB⟩
                  case measure => simp [intOf]; omega
            · go_wp2
              go_ret
              exact ⟨rfl, hB⟩

end Go.Proofs.YtlocaalipjjnpaaDoor.ApI
