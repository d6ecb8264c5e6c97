import Derived.Test.YtgncoeihlfcaiaaDoorApartW
namespace Go.Proofs.YtgncoeihlfcaiaaDoor
open Go.RowKit Go.Shelf

theorem own_typesZ {W : World} {base b26 n m : Nat} {a u : Value} {xs ys : List Value} (k : W.ownsRow base 9 1 u m ys) (h : W.ownsRow b26 26 1 a n xs) : u.ownBlock ≠ a.ownBlock ∨ u.ownBlock = none := by
  rcases own_types h k with h1 | h1
  · exact .inl h1.symm
  · cases hu : u.ownBlock with
    | none => exact .inr rfl
    | some g => rw [h1]; exact .inl (by simp)

/-- A list that is no sign's lies apart from the signs. -/
theorem apart_z {W : World} {base nz k c : Nat} {z u : Value} {fz : List Value} (hzo : W.ownsRow base 9 1 z nz fz) (hu : W.ownsRow base 9 1 u k (sgs c k)) (hz0 : nz = 0 → z = .slice none 0 0) (hu0 : k = 0 → u = .slice none 0 0)
    (hzs : ∀ c, fz[0]? ≠ some (.string (sg c 0))) : z.ownBlock ≠ u.ownBlock ∨ z.ownBlock = none := by
  by_cases h1 : nz = 0
  · rw [hz0 h1]; exact .inr rfl
  · by_cases h2 : k = 0
    · left
      obtain ⟨ov, cap, rfl, hg⟩ := own_form hzo
      obtain ⟨g, rfl⟩ := hg (by omega)
      rw [hu0 h2]
      simp [Value.ownBlock]
    · exact .inl (own_ne hzo hu (by omega) (by omega) (by rw [sgs_at c k 0 (by omega)]; exact hzs c))

set_option maxRecDepth 100000 in
set_option maxHeartbeats 4000000 in
theorem apart_keep (w : World) (base O m : Nat) (v : Nat → Value) (n : Nat → Nat) (f0 : Nat → List Value) (hm : m ≤ 200) (hL : Lists w base O m v n f0) (hlen : ∀ k, k < m → (f0 k).length = n k) (hz : ∀ k, k < m → n k = 0 → v k = .slice none 0 0)
    (hd : ∀ a b, a < m → b < m → a ≠ b → (v a).ownBlock = none ∨ (v a).ownBlock ≠ (v b).ownBlock) (hn : ∀ k, k < m → n k ≤ 1000000) (hbase : base ≤ w.heap.size)
    (z : Value) (nz : Nat) (fz : List Value) (hzO : w.ownsRow base 9 1 z nz fz) (hz0 : nz = 0 → z = .slice none 0 0) (hzs : ∀ c, fz[0]? ≠ some (.string (sg c 0))) (hzv : ∀ k, k < m → z.ownBlock ≠ (v k).ownBlock ∨ z.ownBlock = none) :
    Calls Tryd.prog 7 #[.slice (some ⟨O, 0, none⟩) m m] w fun e w' => e = .returned (.bool true) ∧ Below base w w' ∧ w'.ownsRow base 9 1 z nz fz := by
  have HL : Hid (Lists w base O m v n f0) := hL
  have HLen : Hid (∀ k, k < m → (f0 k).length = n k) := hlen
  have HZ : Hid (∀ k, k < m → n k = 0 → v k = .slice none 0 0) := hz
  have HD : Hid (∀ a b, a < m → b < m → a ≠ b → (v a).ownBlock = none ∨ (v a).ownBlock ≠ (v b).ownBlock) := hd
  have HN : Hid (∀ k, k < m → n k ≤ 1000000) := hn
  have HO0 := hL.1.lt
  have HZ0 : Hid (nz = 0 → z = .slice none 0 0) := hz0
  have HZS : Hid (∀ c, fz[0]? ≠ some (.string (sg c 0))) := hzs
  have HZV : Hid (∀ k, k < m → z.ownBlock ≠ (v k).ownBlock ∨ z.ownBlock = none) := hzv
  have HZO : Hid (w.ownsRow base 9 1 z nz fz) := hzO
  clear hL hlen hz hd hn hz0 hzs hzv hzO
  obtain ⟨i9, hi9, hz9, hs9, hb9⟩ := info_parts info9
  obtain ⟨i26, hi26, hz26, hs26, hb26⟩ := info_parts info26
  go_enter Tryd.func7, Tryd.ntmps7
  go_wp2
  go_loopw [3] (fun s3 wr => ∃ i : Nat, i ≤ m ∧ s3 = .int .i64 (i : Int) ∧ Hid (Lists wr base O m v n (Fm n f0 i 0)) ∧ Below base w wr ∧ Hid (wr.ownsRow base 9 1 z nz fz)) (fun s3 _ => m - (intOf s3).toNat)
  case atStart =>
    refine ⟨0, Nat.zero_le _, rfl, ?_, Below.refl _ _, HZO⟩
    refine ⟨HL.out.1, fun k hk => ?_⟩
    have e : Fm n f0 0 0 k = f0 k := by
      unfold Fm
      rw [if_neg (Nat.not_lt_zero _)]
      by_cases h0 : k = 0
      · subst h0; simp [sgs]
      · rw [if_neg h0]
    rw [e]
    exact HL.out.2 k hk
  case round =>
    obtain ⟨i, hi, rfl, hS, hB, hzo⟩ := hrel
    clear HZO
    by_cases hlt : i < m
    · have hni := HN.out i hlt
      have hlt1 : (i : Int) < (m : Int) := by omega
      have ho := hS.out.1.cell i hlt
      obtain ⟨ov, cap, hvi, hg0⟩ := own_form (hS.out.2 i hlt)
      have HV : Hid (v i = .slice ov (n i) cap) := hvi
      rw [hvi] at ho
      clear hvi ho
      obtain ⟨q, hq⟩ : ∃ q, n i = q := ⟨_, rfl⟩
      have HQ : Hid (n i = q) := hq
      rw [hq] at hni hg0 HV
      clear hq
      go_wp2_with fail
      go_loopw [4] (fun s4 wr => ∃ j : Nat, j ≤ q ∧ s4 = .int .i64 (j : Int) ∧ Hid (Lists wr base O m v n (Fm n f0 i j)) ∧ Below base w wr ∧ Hid (wr.ownsRow base 9 1 z nz fz)) (fun s4 _ => q - (intOf s4).toNat)
      case atStart => exact ⟨0, Nat.zero_le _, rfl, hS, hB, hzo⟩
      case round =>
        clear hS hB hzo
        obtain ⟨j, hj, rfl, hT, hC, hzo⟩ := hrel
        have ho := hT.out.1.cell i hlt
        rw [HV.out] at ho
        by_cases hjq : j < q
        · obtain ⟨g, rfl⟩ := hg0 (by omega)
          clear hg0
          have hoi := hT.out.2 i hlt
          rw [HV.out, HQ.out] at hoi
          obtain ⟨⟨x, hx⟩, hf⟩ := own_at hoi j hjq
          have hO := hT.out.1.lt
          have hgl := (hoi.lt g rfl).2
          have hgb := (hoi.lt g rfl).1
          have hCs : base ≤ wr.heap.size := Nat.le_trans hbase hC.size
          have hjq1 : (j : Int) < (q : Int) := by omega
          clear hoi
          go_wp2_with fail
          go_region_with (go_at_call 19; refine (sign_int i j _ _ _ (by omega) (by omega) rfl rfl).mono ?_; rintro e w1 ⟨rfl, hb⟩; have ho1 : w1.cell? ⟨O, i, none⟩ = some (.slice (some ⟨g, 0, none⟩) q cap) := (hb.cell (p := ⟨O, i, none⟩) hO).trans ho; have hx1 : w1.cell? ⟨g, j, none⟩ = some x := (hb.cell (p := ⟨g, j, none⟩) hgl).trans hx; have hf1 : w1.frozen? ⟨g, j, none⟩ = false := (hb.frozen (p := ⟨g, j, none⟩) hgl).trans hf)
          all_goals
            have hb0 : Below wr.heap.size wr w1 := ⟨hb.os, hb.tape, hb.output, hb.size, hb.block⟩
            have hT1 : Lists (w1.setCell ⟨g, j, none⟩ (.string (sg i j))) base O m v n (Fm n f0 i (j + 1)) := (hT.out.stays hb0).store hlt (by rw [HQ.out]; exact hjq) (HLen.out i hlt) (by rw [HQ.out]; exact HV.out) HD.out
            have hbg : base ≤ g := hgb
            have HZ1 : Hid ((w1.setCell ⟨g, j, none⟩ (.string (sg i j))).ownsRow base 9 1 z nz fz) := own_kept (own_stays hzo.out hb0) (grown_setCell w1 g j _) (by have := HZV.out i hlt; rw [HV.out] at this; exact this)
            have hC1 : Below base w (w1.setCell ⟨g, j, none⟩ (.string (sg i j))) := (hC.trans (hb0.mono hCs)).setCell (p := ⟨g, j, none⟩) hbg _
            clear ho1 hx1 hf1 hb ho hx hf
            go_wp2
            go_roundw
            case rel => exact ⟨j + 1, by omega, by go_num, hT1, hC1, HZ1⟩
            case measure => simp [intOf]; omega
        · have hj2 : j = q := by omega
          subst hj2
          have hT2 : Lists wr base O m v n (Fm n f0 (i + 1) 0) := ⟨hT.out.1, fun k hk => by
            have h := hT.out.2 k hk
            have e := Fm_next (f0 := f0) (HLen.out i hlt) k
            rw [HQ.out] at e
            rw [e] at h
            exact h⟩
          have HT2 : Hid (Lists wr base O m v n (Fm n f0 (i + 1) 0)) := hT2
          clear hT2
          go_wp2
          go_roundw
          case rel => exact ⟨i + 1, by omega, by go_num, HT2, hC, hzo⟩
          case measure => simp [intOf]; omega
    · have hi2 : i = m := by omega
      subst hi2
      have hL2 : Lists wr base O i v n (fun k => sgs k (n k)) := ⟨hS.out.1, fun k hk => by
        have h := hS.out.2 k hk
        have e : Fm n f0 i 0 k = sgs k (n k) := if_pos hk
        rw [e] at h
        exact h⟩
      have HL2 : Hid (Lists wr base O i v n (fun k => sgs k (n k))) := hL2
      clear hL2 hS HL HD HLen
      go_wp2_with fail
      go_loopw [5, 6] (fun s5 s6 wr => ∃ (c : Nat) (us : List Value), c ≤ i ∧ us.length = c ∧ s6 = .int .i64 (c : Int) ∧ Hid (wr.ownsRow w.heap.size 26 1 s5 c us) ∧ Hid (Lists wr base O i v n (fun k => sgs k (n k))) ∧ Hid (Longs wr base n us) ∧ Below base w wr ∧ Hid (wr.ownsRow base 9 1 z nz fz)) (fun _ s6 _ => i - (intOf s6).toNat)
      case atStart => exact ⟨0, [], Nat.zero_le _, rfl, rfl, World.ownsRow_nil _ _ _ _, HL2, fun k u h => by simp at h, hB, hzo⟩
      case round =>
        clear hB HL2 hlt hzo
        obtain ⟨c, us, hc, hus, rfl, h26, hL, hG, hB, hzo⟩ := hrel
        have HUS : Hid (us.length = c) := hus
        clear hus
        by_cases hci : c < i
        · have hnc := HN.out c hci
          have hci1 : (c : Int) < (i : Int) := by omega
          have ho := hL.out.1.cell c hci
          have how := hL.out.2 c hci
          have HOW : Hid (wr.ownsRow base 9 1 (v c) (n c) (sgs c (n c))) := how
          obtain ⟨ov, cap, hvc, _⟩ := own_form how
          have HV : Hid (v c = .slice ov (n c) cap) := hvc
          rw [hvc] at ho
          obtain ⟨q, hq⟩ : ∃ q, n c = q := ⟨_, rfl⟩
          have HQ : Hid (n c = q) := hq
          have HZ2 : Hid (q = 0 → v c = .slice none 0 0) := fun h => HZ.out c hci (hq.trans h)
          rw [hq] at hnc ho HV HOW
          clear hvc how hq
          go_wp2_with fail
          go_loopw [7, 8] (fun s7 s8 wr => ∃ (t : Nat) (u : Value), t ≤ 70 ∧ s7 = u ∧ s8 = .int .i64 (t : Int) ∧ Hid (wr.ownsRow base 9 1 u (q + t) (sgs c (q + t))) ∧ Hid (q + t = 0 → u = .slice none 0 0) ∧ Hid (wr.ownsRow w.heap.size 26 1 u5 c us) ∧ Hid (Lists wr base O i v n (fun k => sgs k (n k))) ∧ Hid (Longs wr base n us) ∧ Below base w wr ∧ Hid (wr.ownsRow base 9 1 z nz fz)) (fun _ s8 _ => 70 - (intOf s8).toNat)
          case atStart => exact ⟨0, _, by omega, rfl, rfl, by rw [← HV.out]; exact HOW, fun h => by rw [← HV.out]; exact HZ2.out h, h26, hL, hG, hB, hzo⟩
          case round =>
            clear h26 hL hG hB HOW hzo
            obtain ⟨t, u, ht, rfl, rfl, hu, hu0, h26, hL, hG, hB, hzo⟩ := hrel
            have ho := hL.out.1.cell c hci
            rw [HV.out] at ho
            by_cases h70 : t < 70
            · have hO := hL.out.1.lt
              have hBs := hB.size
              have HY : Hid ((q : Int) + (t : Int) = ((q + t : Nat) : Int)) := rfl
              go_wp2_with fail
              refine (sign_int c (q + t) _ _ _ (by omega) (by omega) rfl HY).mono ?_
              rintro e w1 ⟨rfl, hb⟩
              have hbs := hb.size
              have hL1 := hL.out.stays hb
              have hG1 := hG.out.stays hb
              have h261 := own_stays h26.out hb
              have hu1 := own_stays hu.out hb
              have hal : Below w1.heap.size w1 (w1.alloc (.cells #[.string (sg c (q + t))] 9)) := (Below.refl _ w1).alloc (Nat.le_refl _) _
              obtain ⟨u', w2, hrun, hown2, hgr2, hcs⟩ := app_one (P := Tryd.prog) (w := w1.alloc (.cells #[.string (sg c (q + t))] 9)) (base := base) 26 26 i9 (.string ⟨#[]⟩) 16 Tryd.underlying26 hi9 hz9 hs9 hb9 rfl u7 (q + t) (sgs c (q + t)) (hu1.alloc _) ⟨w1.heap.size, 0, none⟩ 1 (.string (sg c (q + t))) (new_cell w1 _ 9).1 rfl (by unfold maxLen; omega) (by omega) (by simp; omega)
              rw [← sgs_succ] at hown2
              have hst := more_step (by omega) hci (hL1.stays hal) HZ.out (hG1.stays hal) HUS.out (own_stays h261 hal) (hu1.alloc _) (by rw [HQ.out]; omega) hu0.out hown2 hgr2 hcs
              have HST := hst
              have HS1 : Hid (Lists w2 base O i v n (fun k => sgs k (n k))) := hst.1
              have HS2 : Hid (Longs w2 base n us) := hst.2.1
              have HS3 : Hid (w2.ownsRow w.heap.size 26 1 u5 c us) := hst.2.2
              have HS4 : Hid (w2.ownsRow base 9 1 u' (q + t + 1) (sgs c (q + t + 1))) := hown2
              have HZ1 : Hid (w2.ownsRow base 9 1 z nz fz) := own_kept ((own_stays hzo.out hb).alloc _) hgr2 (apart_z hzo.out hu.out HZ0.out hu0.out HZS.out)
              have hB1 : Below base w w1 := hB.trans (hb.mono (by omega))
              have hB2 : Below base w w2 := (hB1.alloc (by omega) (.cells #[.string (sg c (q + t))] 9)).grown hgr2 (by simp; omega) (fun k e => (hu1.lt k e).1)
              have HR : Hid ((Builtin.append_ #[26, 26] 26 #[u7, .slice (some ⟨w1.heap.size, 0, none⟩) 1 1]).run Tryd.prog (w1.alloc (.cells #[.string (sg c (q + t))] 9)) = .ok u' w2) := hrun
              clear HST hst hcs hgr2 hown2 hal hu1 h261 hG1 hL1 hbs hb hrun hB1
              go_wp2_with (at_builtin; refine wpList_app rfl (.tmp 49) (.tmp 59) 26 rfl HR.out ?_)
              go_roundw
              case rel => exact ⟨t + 1, u', by omega, rfl, by go_num, HS4, fun h => by omega, HS3, HS1, HS2, hB2, HZ1⟩
              case measure => simp [intOf]; omega
            · have ht2 : t = 70 := by omega
              subst ht2
              obtain ⟨ov7, cap7, hu7, hg7⟩ := own_form hu.out
              subst hu7
              have hBs := hB.size
              have hal : Below wr.heap.size wr (wr.alloc (.cells #[.slice ov7 (q + 70) cap7] 26)) := (Below.refl _ wr).alloc (Nat.le_refl _) _
              obtain ⟨u', w2, hrun, hown2, hgr2, hcs⟩ := app_one (P := Tryd.prog) (w := wr.alloc (.cells #[.slice ov7 (q + 70) cap7] 26)) (base := w.heap.size) 32 32 i26 (.slice none 0 0) 24 Tryd.underlying32 hi26 hz26 hs26 hb26 rfl u5 c us (h26.out.alloc _) ⟨wr.heap.size, 0, none⟩ 1 (.slice ov7 (q + 70) cap7) (new_cell wr _ 26).1 rfl (by unfold maxLen; omega) (by omega) (by simp; omega)
              have hst := long_step (hL.out.stays hal) (hG.out.stays hal) (h26.out.alloc _) HO0 (hu.out.alloc _) hgr2
              have hus := HUS.out
              have HS1 : Hid (Lists w2 base O i v n (fun k => sgs k (n k))) := hst.1
              have HS2 : Hid (Longs w2 base n (us ++ [.slice ov7 (q + 70) cap7])) := hst.2.1.push (by rw [hus, HQ.out]; exact hst.2.2)
              have HS3 : Hid (w2.ownsRow w.heap.size 26 1 u' (c + 1) (us ++ [.slice ov7 (q + 70) cap7])) := hown2
              have hB2 : Below base w w2 := (hB.alloc (by omega) (.cells #[.slice ov7 (q + 70) cap7] 26)).grown hgr2 (by simp; omega) (fun k e => Nat.le_trans hbase (h26.out.lt k e).1)
              have HZ1 : Hid (w2.ownsRow base 9 1 z nz fz) := own_kept (hzo.out.alloc _) hgr2 (own_typesZ hzo.out h26.out)
              have HUS2 : Hid ((us ++ [Value.slice ov7 (q + 70) cap7]).length = c + 1) := by show (us ++ [Value.slice ov7 (q + 70) cap7]).length = c + 1; rw [List.length_append, hus]; rfl
              have HR : Hid ((Builtin.append_ #[32, 32] 32 #[u5, .slice (some ⟨wr.heap.size, 0, none⟩) 1 1]).run Tryd.prog (wr.alloc (.cells #[.slice ov7 (q + 70) cap7] 26)) = .ok u' w2) := hrun
              clear hst hcs hgr2 hown2 hal hrun hus hg7 ho
              go_wp2_with (at_builtin; refine wpList_app rfl (.tmp 61) (.tmp 63) 32 rfl HR.out ?_)
              go_roundw
              case rel => exact ⟨c + 1, us ++ [.slice ov7 (q + 70) cap7], by omega, HUS2.out, by go_num, HS3, HS1, HS2, hB2, HZ1⟩
              case measure => simp [intOf]; omega
        · have hc2 : c = i := by omega
          subst hc2
          obtain ⟨o5, cap5, hu5, hg5⟩ := own_form26 h26.out
          subst hu5
          go_wp2_with fail
          go_loopw [9] (fun s9 wr => ∃ d : Nat, d ≤ c ∧ s9 = .int .i64 (d : Int) ∧ Hid (wr.ownsRow w.heap.size 26 1 (.slice o5 c cap5) c us) ∧ Hid (Lists wr base O c v n (fun k => sgs k (n k))) ∧ Hid (Longs wr base n us) ∧ Below base w wr ∧ Hid (wr.ownsRow base 9 1 z nz fz)) (fun s9 _ => c - (intOf s9).toNat)
          case atStart => exact ⟨0, Nat.zero_le _, rfl, h26, hL, hG, hB, hzo⟩
          case round =>
            clear h26 hL hG hB hzo
            obtain ⟨d, hd, rfl, h26, hL, hG, hB, hzo⟩ := hrel
            by_cases hdc : d < c
            · obtain ⟨h5, rfl⟩ := hg5 (by omega)
              clear hg5
              have hdc1 : (d : Int) < (c : Int) := by omega
              have hnd := HN.out d hdc
              have hdl : d < us.length := by rw [HUS.out]; exact hdc
              obtain ⟨x, hx⟩ : ∃ x, us[d]? = some x := ⟨_, List.getElem?_eq_getElem hdl⟩
              obtain ⟨ox, capx, hxf, hgx⟩ := own_form (hG.out d x hx)
              obtain ⟨gx, rfl⟩ := hgx (by omega)
              subst hxf
              have HX : Hid (us[d]? = some (.slice (some ⟨gx, 0, none⟩) (n d + 70) capx)) := hx
              obtain ⟨ov, cap, hvd, hgd⟩ := own_form (hL.out.2 d hdc)
              have HV : Hid (v d = .slice ov (n d) cap) := hvd
              obtain ⟨q, hq⟩ : ∃ q, n d = q := ⟨_, rfl⟩
              have HQ : Hid (n d = q) := hq
              rw [hq] at hnd HX HV hgd
              clear hx hgx hvd hq hdl
              have c5 : wr.cell? ⟨h5, d, none⟩ = some (.slice (some ⟨gx, 0, none⟩) (q + 70) capx) := (h26.out.cellAt d (by omega)).trans HX.out
              go_wp2_with fail
              go_loopw [10] (fun s10 wr => ∃ j : Nat, j ≤ q + 70 ∧ s10 = .int .i64 (j : Int) ∧ Hid (wr.ownsRow w.heap.size 26 1 (.slice (some ⟨h5, 0, none⟩) c cap5) c us) ∧ Hid (Lists wr base O c v n (fun k => sgs k (n k))) ∧ Hid (Longs wr base n us) ∧ Below base w wr ∧ Hid (wr.ownsRow base 9 1 z nz fz)) (fun s10 _ => q + 70 - (intOf s10).toNat)
              case atStart => exact ⟨0, Nat.zero_le _, rfl, h26, hL, hG, hB, hzo⟩
              case round =>
                clear h26 hL hG hB c5 hzo
                obtain ⟨j, hj, rfl, h26, hL, hG, hB, hzo⟩ := hrel
                have c5 : wr.cell? ⟨h5, d, none⟩ = some (.slice (some ⟨gx, 0, none⟩) (q + 70) capx) := (h26.out.cellAt d (by omega)).trans HX.out
                by_cases hjq : j < q + 70
                · have hjq1 : (j : Int) < (q : Int) + 70 := by omega
                  have ho := hL.out.1.cell d hdc
                  rw [HV.out] at ho
                  have hgo := hG.out d _ HX.out
                  rw [HQ.out] at hgo
                  have cx : wr.cell? ⟨gx, j, none⟩ = some (.string (sg d j)) := (hgo.cellAt j (by omega)).trans (sgs_at d (q + 70) j hjq)
                  have k1 := cell_regrown c5
                  have k2 := cell_regrown ho
                  have k3 := cell_regrown cx
                  have c19 : ∀ dd os, Calls Tryd.prog 19 #[.int .i64 (d : Int), .int .i64 (j : Int)] (Sort.grow (redrawn wr dd) os) fun e w'' => e = .returned (.string (sg d j)) ∧ ∃ p : Regrown, w'' = Sort.grow (redrawn wr p.d) p.os := fun dd os => Calls.regrown_of (sign_any d j _ (by omega) (by omega))
                  by_cases hjn : j < q
                  · obtain ⟨g, rfl⟩ := hgd (by omega)
                    have hv := hL.out.2 d hdc
                    rw [HV.out, HQ.out] at hv
                    have cg : wr.cell? ⟨g, j, none⟩ = some (.string (sg d j)) := (hv.cellAt j (by omega)).trans (by show (sgs d (n d))[j]? = _; rw [HQ.out]; exact sgs_at d q j hjn)
                    have k4 := cell_regrown cg
                    have hjn1 : (j : Int) < (q : Int) := by omega
                    clear hv hgd hgo
                    go_wp2_with fail
                    refine wp_region_quiet_below (by kernel_rfl) (by kernel_rfl) ?_
                    repeat (first | go_big_quiet_step (exact c19 _ _) | quiet_step (exact c19 _ _))
                    refine wpQuiet_nil ?_
                    intro _ hw'
                    obtain ⟨⟨dq, osq⟩, hw''⟩ := hw'
                    subst hw''
                    have hY := below_regrown wr dq osq
                    change Exit.then _ _ Exit.normal _ (Sort.grow (redrawn wr dq) osq)
                    generalize Sort.grow (redrawn wr dq) osq = Y at hY ⊢
                    have HS1 : Hid (Lists Y base O c v n (fun k => sgs k (n k))) := hL.out.stays hY
                    have HS2 : Hid (Longs Y base n us) := hG.out.stays hY
                    have HS3 : Hid (Y.ownsRow w.heap.size 26 1 (.slice (some ⟨h5, 0, none⟩) c cap5) c us) := own_stays h26.out hY
                    have HZ1 : Hid (Y.ownsRow base 9 1 z nz fz) := own_stays hzo.out hY
                    have hB2 : Below base w Y := hB.trans (hY.mono (Nat.le_trans hbase hB.size))
                    clear hY k4 cg k1 k2 k3 c19 c5 ho cx hL hG h26 hB
                    go_wp2
                    go_roundw
                    case rel => exact ⟨j + 1, by omega, by go_num, HS3, HS1, HS2, hB2, HZ1⟩
                    case measure => simp [intOf]; omega
                  · have hjn1 : decide ((j : Int) < (q : Int)) = false := by simp; omega
                    clear hgd hgo
                    go_wp2_with fail
                    refine wp_region_quiet_below (by kernel_rfl) (by kernel_rfl) ?_
                    repeat (first | go_big_quiet_step (exact c19 _ _) | quiet_step (exact c19 _ _))
                    refine wpQuiet_nil ?_
                    intro _ hw'
                    obtain ⟨⟨dq, osq⟩, hw''⟩ := hw'
                    subst hw''
                    have hY := below_regrown wr dq osq
                    change Exit.then _ _ Exit.normal _ (Sort.grow (redrawn wr dq) osq)
                    generalize Sort.grow (redrawn wr dq) osq = Y at hY ⊢
                    have HS1 : Hid (Lists Y base O c v n (fun k => sgs k (n k))) := hL.out.stays hY
                    have HS2 : Hid (Longs Y base n us) := hG.out.stays hY
                    have HS3 : Hid (Y.ownsRow w.heap.size 26 1 (.slice (some ⟨h5, 0, none⟩) c cap5) c us) := own_stays h26.out hY
                    have HZ1 : Hid (Y.ownsRow base 9 1 z nz fz) := own_stays hzo.out hY
                    have hB2 : Below base w Y := hB.trans (hY.mono (Nat.le_trans hbase hB.size))
                    clear hY k1 k2 k3 c19 c5 ho cx hL hG h26 hB
                    go_wp2
                    go_roundw
                    case rel => exact ⟨j + 1, by omega, by go_num, HS3, HS1, HS2, hB2, HZ1⟩
                    case measure => simp [intOf]; omega
                · have hj2 : j = q + 70 := by omega
                  subst hj2
                  go_wp2
                  go_roundw
                  case rel => exact ⟨d + 1, by omega, by go_num, h26, hL, hG, hB, hzo⟩
                  case measure => simp [intOf]; omega
            · go_wp2
              go_ret
              exact ⟨rfl, hB, hzo.out⟩

end Go.Proofs.YtgncoeihlfcaiaaDoor
