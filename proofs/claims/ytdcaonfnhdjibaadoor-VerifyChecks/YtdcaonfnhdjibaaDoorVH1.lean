import Derived.Test.YtdcaonfnhdjibaaDoorVOw
import Derived.Test.YtdcaonfnhdjibaaDoorVMa
import Derived.BigRegion
namespace Go.Proofs.YtdcaonfnhdjibaaDoor
open Go.RowKit

/-! The heap of places in memory. -/
theorem mPush (a : Addr) (w : World) : (method 263 104 (.pointer (some a)) "Push").run Tryd.prog w = .ok (111, .pointer (some a)) w := by kernel_rfl
theorem mPop (a : Addr) (w : World) : (method 263 104 (.pointer (some a)) "Pop").run Tryd.prog w = .ok (110, .pointer (some a)) w := by kernel_rfl
theorem mLen' (a : Addr) (w : World) : (method 263 104 (.pointer (some a)) "Len").run Tryd.prog w = ((loadVar 91 a >>= fun v => pure (107, v)).run Tryd.prog w) := by kernel_rfl
theorem mLess' (a : Addr) (w : World) : (method 263 104 (.pointer (some a)) "Less").run Tryd.prog w = ((loadVar 91 a >>= fun v => pure (108, v)).run Tryd.prog w) := by kernel_rfl
theorem mSwap' (a : Addr) (w : World) : (method 263 104 (.pointer (some a)) "Swap").run Tryd.prog w = ((loadVar 91 a >>= fun v => pure (109, v)).run Tryd.prog w) := by kernel_rfl
theorem ldP {a : Addr} {w : World} {q : Option Addr} {n cap : Nat} (h : w.cell? a = some (.slice q n cap)) : (loadVar 91 a).run Tryd.prog w = .ok (.slice q n cap) w := by
  simp [loadVar, go_sem, h]
theorem mLen {a : Addr} {w : World} {q : Option Addr} {n cap : Nat} (h : w.cell? a = some (.slice q n cap)) : (method 263 104 (.pointer (some a)) "Len").run Tryd.prog w = .ok (107, .slice q n cap) w := by
  rw [mLen']; simp [loadVar, go_sem, h]
theorem mLess {a : Addr} {w : World} {q : Option Addr} {n cap : Nat} (h : w.cell? a = some (.slice q n cap)) : (method 263 104 (.pointer (some a)) "Less").run Tryd.prog w = .ok (108, .slice q n cap) w := by
  rw [mLess']; simp [loadVar, go_sem, h]
theorem mSwap {a : Addr} {w : World} {q : Option Addr} {n cap : Nat} (h : w.cell? a = some (.slice q n cap)) : (method 263 104 (.pointer (some a)) "Swap").run Tryd.prog w = .ok (109, .slice q n cap) w := by
  rw [mSwap']; simp [loadVar, go_sem, h]
set_option maxRecDepth 100000 in
set_option maxHeartbeats 400000 in
theorem plen_any (w : World) (q : Option Addr) (n cap : Nat) : Calls Tryd.prog 107 #[.slice q n cap] w fun e w' => e = .returned (.int .i64 (n : Int)) ∧ w' = w := by
  go_enter Tryd.func107, Tryd.ntmps107
  go_wp2
  go_ret
  exact ⟨rfl, rfl⟩
set_option maxRecDepth 100000 in
set_option maxHeartbeats 400000 in
theorem pless_any {w : World} {B : Nat} {q : Option Addr} {n cap : Nat} {O : List Int} (hl : O.length = n) (h : w.ownsRow B 3 1 (.slice q n cap) n (sv O)) (i j : Nat) (hi : i < n) (hj : j < n) :
    Calls Tryd.prog 108 #[.slice q n cap, .int .i64 (i : Int), .int .i64 (j : Int)] w fun e w' => e = .returned (.bool (decide (O.getD i 0 < O.getD j 0))) ∧ Below w.heap.size w w' := by
  obtain ⟨g, rfl, c1, -⟩ := own_at hl h i hi
  obtain ⟨g', e, c2, -⟩ := own_at hl h j hj
  cases e
  generalize O.getD i 0 = a at *
  generalize O.getD j 0 = b at *
  have i0 : (0 : Int) ≤ (i : Int) := by omega
  have j0 : (0 : Int) ≤ (j : Int) := by omega
  have i1 : (i : Int) < (n : Int) := by omega
  have j1 : (j : Int) < (n : Int) := by omega
  clear hl h
  go_enter Tryd.func108, Tryd.ntmps108
  go_upto_region 1 with fail
  go_region
  go_wp2
  go_ret
  exact ⟨rfl, (Below.refl _ w).drew⟩
set_option maxRecDepth 100000 in
set_option maxHeartbeats 1000000 in
theorem pswap_any {w : World} {B : Nat} {q : Option Addr} {n cap : Nat} {O : List Int} (hl : O.length = n) (h : w.ownsRow B 3 1 (.slice q n cap) n (sv O)) (i j : Nat) (hi : i < n) (hj : j < n) :
    Calls Tryd.prog 109 #[.slice q n cap, .int .i64 (i : Int), .int .i64 (j : Int)] w fun e w' => e = .returned (.tuple #[]) ∧ Hid (w'.ownsRow B 3 1 (.slice q n cap) n (sv (swp O i j)) ∧ Kp (fun k => (Value.slice q n cap).ownBlock = some k) w w') := by
  obtain ⟨g, rfl, c1, f1⟩ := own_at hl h i hi
  obtain ⟨g', e, c2, f2⟩ := own_at hl h j hj
  cases e
  have HS : Hid (((w.setCell ⟨g, i, none⟩ (.int .i64 (O.getD j 0))).setCell ⟨g, j, none⟩ (.int .i64 (O.getD i 0))).ownsRow B 3 1 (.slice (some ⟨g, 0, none⟩) n cap) n (sv (swp O i j)) ∧ Kp (fun k => (Value.slice (some ⟨g, 0, none⟩) n cap).ownBlock = some k) w ((w.setCell ⟨g, i, none⟩ (.int .i64 (O.getD j 0))).setCell ⟨g, j, none⟩ (.int .i64 (O.getD i 0)))) :=
    ⟨own_setI (by rw [List.length_set]; exact hl) (own_setI hl h i hi _) j hj _, ((Kp.refl (fun k => (Value.slice (some ⟨g, 0, none⟩) n cap).ownBlock = some k) w).setCell (p := ⟨g, i, none⟩) (.inl rfl) _).setCell (p := ⟨g, j, none⟩) (.inl rfl) _⟩
  have c3 : ∀ v, ∃ u, (w.setCell ⟨g, i, none⟩ v).cell? ⟨g, j, none⟩ = some u ∧ (w.setCell ⟨g, i, none⟩ v).frozen? ⟨g, j, none⟩ = false := fun v => by
    obtain ⟨cur, h1, h2⟩ := (own_blk h g rfl).setCell ⟨g, i, none⟩ v
    have k := blk_cell h1 j cur[j] (Array.getElem?_eq_getElem (by omega))
    exact ⟨_, k.1, k.2⟩
  obtain ⟨u, c3, f3⟩ := c3 (.int .i64 (O.getD j 0))
  generalize O.getD i 0 = a at *
  generalize O.getD j 0 = b at *
  have i0 : (0 : Int) ≤ (i : Int) := by omega
  have j0 : (0 : Int) ≤ (j : Int) := by omega
  have i1 : (i : Int) < (n : Int) := by omega
  have j1 : (j : Int) < (n : Int) := by omega
  clear hl h
  go_enter Tryd.func109, Tryd.ntmps109
  go_region
  go_end0
  exact ⟨rfl, own_same HS.out.1 fun _ _ => rfl, HS.out.2.next (Below.refl _ _).drew⟩
/-- The places that are open, in the piece's field. -/
structure PlM (w : World) (b G : Nat) (vs : List Value) (O : List Int) (q : Option Addr) (cap : Nat) : Prop where
  full : Full w G 93 (vs ++ [.slice q O.length cap])
  len : vs.length = 11
  own : w.ownsRow b 3 1 (.slice q O.length cap) O.length (sv O)
section
variable {w w' : World} {b G n : Nat} {vs : List Value} {O O' : List Int} {q : Option Addr} {cap : Nat}
theorem PlM.cell (h : PlM w b G vs O q cap) : w.cell? ⟨G, 11, none⟩ = some (.slice q O.length cap) := (h.full.cell 11 _ (by rw [List.getElem?_append_right (by rw [h.len]; decide), h.len]; rfl)).1
theorem PlM.blk (h : PlM w b G vs O q cap) : Blk w G 93 12 := ⟨_, h.full, by simp [h.len]⟩
theorem PlM.next (h : PlM w b G vs O q cap) (k : Below w.heap.size w w') : PlM w' b G vs O q cap := ⟨h.full.next k, h.len, own_next h.own k⟩
theorem PlM.ne (h : PlM w b G vs O q cap) : (Value.slice q O.length cap).ownBlock ≠ some G := own_ne h.own h.blk (by decide)
theorem PlM.turn (h : PlM w b G vs O q cap) (hl : O.length = n) (hl' : O'.length = n) (ho : w'.ownsRow b 3 1 (.slice q n cap) n (sv O')) (k : Kp (fun k => (Value.slice q n cap).ownBlock = some k) w w') : PlM w' b G vs O' q cap := by
  subst hl
  have e := k.block G h.blk.lt h.ne
  refine ⟨?_, h.len, by rw [hl']; exact ho⟩
  rw [hl']
  exact e.trans h.full
end
theorem swp_size {O : List Int} {n : Nat} (h : O.length = n) (i j : Nat) : (swp O i j).length = n := by rw [swp_len]; exact h
set_option maxRecDepth 100000 in
set_option maxHeartbeats 2000000 in
theorem hup_any {w : World} {b G m : Nat} {vs : List Value} {O : List Int} {q : Option Addr} {cap : Nat} (h : PlM w b G vs O q cap) (hm : O.length = m) (hm2 : m ≤ 1000000) (j : Nat) (hj : j < m) (n : Nat) (hn : j < n) :
    Calls Tryd.prog 83 #[.iface 104 (.pointer (some ⟨G, 11, none⟩)), .int .i64 (j : Int)] w fun e w' => e = .returned (.tuple #[]) ∧ Hid (PlM w' b G vs (upS n O j) q cap ∧ Kp (fun k => (Value.slice q m cap).ownBlock = some k) w w') := by
  obtain ⟨R, HR⟩ : ∃ R, Hid (upS n O j = R) := ⟨_, (rfl : upS n O j = _)⟩
  rw [HR.out]
  have H0 : Hid (PlM w b G vs O q cap ∧ O.length = m) := ⟨h, hm⟩
  clear h hm
  go_enter Tryd.func83, Tryd.ntmps83
  go_wp2_with fail
  go_loopw [1] (fun s wr => ∃ (j' n' : Nat) (O' : List Int), s = .int .i64 (j' : Int) ∧ Hid (PlM wr b G vs O' q cap ∧ O'.length = m ∧ Kp (fun k => (Value.slice q m cap).ownBlock = some k) w wr) ∧ Hid (upS n' O' j' = R) ∧ j' < m ∧ j' < n') (fun s _ => (intOf s).toNat)
  case atStart => exact ⟨j, n, O, rfl, ⟨H0.out.1, H0.out.2, Kp.refl _ w⟩, HR, hj, hn⟩
  case round =>
    obtain ⟨j', n', O', rfl, HI, HR', hj', hn'⟩ := hrel
    have hI := HI.out
    obtain ⟨hP, hL, hK⟩ := hI
    have mL := mLess hP.cell
    rw [hL] at mL
    clear hP hL hK
    rcases Nat.eq_zero_or_pos j' with rfl | h0
    · have HE : Hid (O' = R) := by
        show O' = R
        rw [← HR'.out]
        obtain ⟨n'', rfl⟩ : ∃ x, n' = x + 1 := ⟨n' - 1, by omega⟩
        rw [upS, if_pos (.inl rfl)]
      go_wp2
      go_end0
      rw [← HE.out]
      exact ⟨rfl, HI.out.1, HI.out.2.2⟩
    · obtain ⟨k, rfl⟩ : ∃ k, j' = k + 1 := ⟨j' - 1, by omega⟩
      obtain ⟨n'', rfl⟩ : ∃ x, n' = x + 1 := ⟨n' - 1, by omega⟩
      obtain ⟨i, hi⟩ : ∃ i, i = k / 2 := ⟨_, rfl⟩
      have e2 : (k : Int) / 2 = (i : Int) := by omega
      have e3 : ((k + 1 : Nat) : Int) = (k : Int) + 1 := by omega
      have e4 : ((i : Int) == (k : Int) + 1) = false := by rw [beq_eq_false_iff_ne]; omega
      have e5 : ¬ ((i : Int) = (k : Int) + 1) := by omega
      have HU : Hid (upS (n'' + 1) O' (k + 1) = if ¬ (O'.getD (k + 1) 0 < O'.getD i 0) then O' else upS n'' (swp O' i (k + 1)) i) := by
        show _ = _
        rw [upS, show k + 1 - 1 = k by omega, ← hi]
        congr 1
        simp
      have c1 := pless_any HI.out.2.1 (by have := HI.out.1.own; rw [HI.out.2.1] at this; exact this) (k + 1) i hj' (by omega)
      rw [e3] at c1
      have hi' : i < m := by omega
      have hik : i < n'' := by omega
      have hil : i < k + 1 := by omega
      clear hi
      by_cases hlt : O'.getD (k + 1) 0 < O'.getD i 0
      · rw [decide_eq_true hlt] at c1
        have HE : Hid (upS n'' (swp O' i (k + 1)) i = R) := by
          show _ = R
          rw [← HR'.out, HU.out, if_neg (by simpa using hlt)]
        clear hlt HU HR'
        go_wp2_with fail
        refine c1.mono ?_
        rintro e W1 ⟨rfl, hw1⟩
        have HP1 : Hid (PlM W1 b G vs O' q cap ∧ Kp (fun k => (Value.slice q m cap).ownBlock = some k) w W1) := ⟨HI.out.1.next hw1, HI.out.2.2.next hw1⟩
        have mS := mSwap HP1.out.1.cell
        rw [HI.out.2.1] at mS
        have c2 := pswap_any HI.out.2.1 (by have := HP1.out.1.own; rw [HI.out.2.1] at this; exact this) i (k + 1) hi' hj'
        rw [e3] at c2
        clear c1 mL hw1
        go_wp2_with fail
        refine c2.mono ?_
        rintro e W2 ⟨rfl, hw2⟩
        have HP2 : Hid (PlM W2 b G vs (swp O' i (k + 1)) q cap ∧ (swp O' i (k + 1)).length = m ∧ Kp (fun k => (Value.slice q m cap).ownBlock = some k) w W2) :=
          ⟨HP1.out.1.turn HI.out.2.1 (swp_size HI.out.2.1 _ _) hw2.out.1 hw2.out.2, swp_size HI.out.2.1 _ _, HP1.out.2.trans hw2.out.2 fun _ _ x => x⟩
        clear c2 mS hw2 HP1
        go_wp2
        exact ⟨⟨i, n'', swp O' i (k + 1), rfl, HP2, HE, hi', hik⟩, by simp [intOf]; omega⟩
      · rw [decide_eq_false hlt] at c1
        have HE : Hid (O' = R) := by
          show O' = R
          rw [← HR'.out, HU.out, if_pos hlt]
        clear hlt HU HR'
        go_wp2_with fail
        refine c1.mono ?_
        rintro e W1 ⟨rfl, hw1⟩
        go_wp2
        go_end0
        rw [← HE.out]
        exact ⟨rfl, HI.out.1.next hw1, HI.out.2.2.next hw1⟩
end Go.Proofs.YtdcaonfnhdjibaaDoor
namespace Go.Proofs.YtdcaonfnhdjibaaDoor
open Go.RowKit

set_option maxRecDepth 100000 in
set_option maxHeartbeats 2000000 in
theorem hdown_any {w : World} {b G m : Nat} {vs : List Value} {O : List Int} {q : Option Addr} {cap : Nat} (h : PlM w b G vs O q cap) (hm : O.length = m) (hm2 : m ≤ 1000000) (n k : Nat) (hn : n ≤ m) (hk : n ≤ k) :
    Calls Tryd.prog 62 #[.iface 104 (.pointer (some ⟨G, 11, none⟩)), .int .i64 0, .int .i64 (n : Int)] w fun e w' => (∃ B, e = .returned (.bool B)) ∧ Hid (PlM w' b G vs (downS k O 0 n) q cap ∧ Kp (fun k => (Value.slice q m cap).ownBlock = some k) w w') := by
  obtain ⟨R, HR⟩ : ∃ R, Hid (downS k O 0 n = R) := ⟨_, (rfl : downS k O 0 n = _)⟩
  rw [HR.out]
  have H0 : Hid (PlM w b G vs O q cap ∧ O.length = m) := ⟨h, hm⟩
  clear h hm
  go_enter Tryd.func62, Tryd.ntmps62
  go_wp2_with fail
  go_loopw [7] (fun s wr => ∃ (i k' : Nat) (O' : List Int), s = .int .i64 (i : Int) ∧ Hid (PlM wr b G vs O' q cap ∧ O'.length = m ∧ Kp (fun k => (Value.slice q m cap).ownBlock = some k) w wr) ∧ Hid (downS k' O' i n = R) ∧ n ≤ i + k' ∧ i ≤ m) (fun s _ => n - (intOf s).toNat)
  case atStart => exact ⟨0, k, O, rfl, ⟨H0.out.1, H0.out.2, Kp.refl _ w⟩, HR, by omega, by omega⟩
  case round =>
    obtain ⟨i, k', O', rfl, HI, HR', hk', hi⟩ := hrel
    obtain ⟨hP, hL, hK⟩ := HI.out
    have mL := mLess hP.cell
    rw [hL] at mL
    clear hP hL hK
    by_cases hj : n ≤ 2 * i + 1
    · have HE : Hid (O' = R) := by
        show O' = R
        rw [← HR'.out]
        cases k' with
        | zero => rfl
        | succ k' => rw [downS, if_pos hj]
      have f1 : (n : Int) ≤ 2 * (i : Int) + 1 := by omega
      clear hj HR' mL
      go_wp2
      go_ret
      rw [← HE.out]
      exact ⟨⟨_, rfl⟩, HI.out.1, HI.out.2.2⟩
    · obtain ⟨k'', rfl⟩ : ∃ x, k' = x + 1 := ⟨k' - 1, by omega⟩
      have f1 : ¬ ((n : Int) ≤ 2 * (i : Int) + 1) := by omega
      have f2 : ¬ (2 * (i : Int) + 1 < 0) := by omega
      by_cases hj2 : 2 * i + 2 < n
      · have f3 : 2 * (i : Int) + 1 + 1 < (n : Int) := by omega
        have c1 := pless_any HI.out.2.1 (by have := HI.out.1.own; rw [HI.out.2.1] at this; exact this) (2 * i + 2) (2 * i + 1) (by omega) (by omega)
        rw [show ((2 * i + 2 : Nat) : Int) = 2 * (i : Int) + 1 + 1 by omega, show ((2 * i + 1 : Nat) : Int) = 2 * (i : Int) + 1 by omega] at c1
        by_cases hl : O'.getD (2 * i + 2) 0 < O'.getD (2 * i + 1) 0
        · rw [decide_eq_true hl] at c1
          have HKd : Hid (kidS O' i n = 2 * i + 2) := if_pos ⟨hj2, hl⟩
          clear hl
          go_wp2_with fail
          refine c1.mono ?_
          rintro e WX ⟨rfl, hwx⟩
          have HPX : Hid (PlM WX b G vs O' q cap ∧ Kp (fun k => (Value.slice q m cap).ownBlock = some k) w WX) := ⟨HI.out.1.next hwx, HI.out.2.2.next hwx⟩
          clear c1 mL hwx
          have cj := pless_any HI.out.2.1 (by have := HPX.out.1.own; rw [HI.out.2.1] at this; exact this) (2 * i + 2) i (by omega) (by omega)
          rw [show ((2 * i + 2 : Nat) : Int) = 2 * (i : Int) + 1 + 1 by omega] at cj
          have mLX := mLess HPX.out.1.cell
          rw [HI.out.2.1] at mLX
          by_cases hlt : O'.getD (2 * i + 2) 0 < O'.getD i 0
          · rw [decide_eq_true hlt] at cj
            have HE : Hid (downS k'' (swp O' i (2 * i + 2)) (2 * i + 2) n = R) := by
              show _ = R
              rw [← HR'.out, downS, if_neg hj, HKd.out, if_pos hlt]
            clear hlt HR' HKd
            go_wp2_with fail
            refine cj.mono ?_
            rintro e W1 ⟨rfl, hw1⟩
            have HP1 : Hid (PlM W1 b G vs O' q cap ∧ Kp (fun k => (Value.slice q m cap).ownBlock = some k) w W1) := ⟨HPX.out.1.next hw1, HPX.out.2.next hw1⟩
            have mS := mSwap HP1.out.1.cell
            rw [HI.out.2.1] at mS
            have c2 := pswap_any HI.out.2.1 (by have := HP1.out.1.own; rw [HI.out.2.1] at this; exact this) i (2 * i + 2) (by omega) (by omega)
            rw [show ((2 * i + 2 : Nat) : Int) = 2 * (i : Int) + 1 + 1 by omega] at c2
            clear cj mLX hw1
            go_wp2_with fail
            refine c2.mono ?_
            rintro e W2 ⟨rfl, hw2⟩
            have HP2 : Hid (PlM W2 b G vs (swp O' i (2 * i + 2)) q cap ∧ (swp O' i (2 * i + 2)).length = m ∧ Kp (fun k => (Value.slice q m cap).ownBlock = some k) w W2) :=
              ⟨HP1.out.1.turn HI.out.2.1 (swp_size HI.out.2.1 _ _) hw2.out.1 hw2.out.2, swp_size HI.out.2.1 _ _, HP1.out.2.trans hw2.out.2 fun _ _ x => x⟩
            clear c2 mS hw2 HP1
            go_wp2
            exact ⟨⟨2 * i + 2, k'', swp O' i (2 * i + 2), by go_num, HP2, HE, by omega, by omega⟩, by simp [intOf]; omega⟩
          · rw [decide_eq_false hlt] at cj
            have HE : Hid (O' = R) := by
              show O' = R
              rw [← HR'.out, downS, if_neg hj, HKd.out, if_neg hlt]
            clear hlt HR' HKd
            go_wp2_with fail
            refine cj.mono ?_
            rintro e W1 ⟨rfl, hw1⟩
            have HP1 : Hid (PlM W1 b G vs O' q cap ∧ Kp (fun k => (Value.slice q m cap).ownBlock = some k) w W1) := ⟨HPX.out.1.next hw1, HPX.out.2.next hw1⟩
            clear cj mLX hw1
            go_wp2
            go_ret
            rw [← HE.out]
            exact ⟨⟨_, rfl⟩, HP1.out⟩
        · rw [decide_eq_false hl] at c1
          have HKd : Hid (kidS O' i n = 2 * i + 1) := if_neg fun x => hl x.2
          clear hl
          go_wp2_with fail
          refine c1.mono ?_
          rintro e WX ⟨rfl, hwx⟩
          have HPX : Hid (PlM WX b G vs O' q cap ∧ Kp (fun k => (Value.slice q m cap).ownBlock = some k) w WX) := ⟨HI.out.1.next hwx, HI.out.2.2.next hwx⟩
          clear c1 mL hwx
          have cj := pless_any HI.out.2.1 (by have := HPX.out.1.own; rw [HI.out.2.1] at this; exact this) (2 * i + 1) i (by omega) (by omega)
          rw [show ((2 * i + 1 : Nat) : Int) = 2 * (i : Int) + 1 by omega] at cj
          have mLX := mLess HPX.out.1.cell
          rw [HI.out.2.1] at mLX
          by_cases hlt : O'.getD (2 * i + 1) 0 < O'.getD i 0
          · rw [decide_eq_true hlt] at cj
            have HE : Hid (downS k'' (swp O' i (2 * i + 1)) (2 * i + 1) n = R) := by
              show _ = R
              rw [← HR'.out, downS, if_neg hj, HKd.out, if_pos hlt]
            clear hlt HR' HKd
            go_wp2_with fail
            refine cj.mono ?_
            rintro e W1 ⟨rfl, hw1⟩
            have HP1 : Hid (PlM W1 b G vs O' q cap ∧ Kp (fun k => (Value.slice q m cap).ownBlock = some k) w W1) := ⟨HPX.out.1.next hw1, HPX.out.2.next hw1⟩
            have mS := mSwap HP1.out.1.cell
            rw [HI.out.2.1] at mS
            have c2 := pswap_any HI.out.2.1 (by have := HP1.out.1.own; rw [HI.out.2.1] at this; exact this) i (2 * i + 1) (by omega) (by omega)
            rw [show ((2 * i + 1 : Nat) : Int) = 2 * (i : Int) + 1 by omega] at c2
            clear cj mLX hw1
            go_wp2_with fail
            refine c2.mono ?_
            rintro e W2 ⟨rfl, hw2⟩
            have HP2 : Hid (PlM W2 b G vs (swp O' i (2 * i + 1)) q cap ∧ (swp O' i (2 * i + 1)).length = m ∧ Kp (fun k => (Value.slice q m cap).ownBlock = some k) w W2) :=
              ⟨HP1.out.1.turn HI.out.2.1 (swp_size HI.out.2.1 _ _) hw2.out.1 hw2.out.2, swp_size HI.out.2.1 _ _, HP1.out.2.trans hw2.out.2 fun _ _ x => x⟩
            clear c2 mS hw2 HP1
            go_wp2
            exact ⟨⟨2 * i + 1, k'', swp O' i (2 * i + 1), by go_num, HP2, HE, by omega, by omega⟩, by simp [intOf]; omega⟩
          · rw [decide_eq_false hlt] at cj
            have HE : Hid (O' = R) := by
              show O' = R
              rw [← HR'.out, downS, if_neg hj, HKd.out, if_neg hlt]
            clear hlt HR' HKd
            go_wp2_with fail
            refine cj.mono ?_
            rintro e W1 ⟨rfl, hw1⟩
            have HP1 : Hid (PlM W1 b G vs O' q cap ∧ Kp (fun k => (Value.slice q m cap).ownBlock = some k) w W1) := ⟨HPX.out.1.next hw1, HPX.out.2.next hw1⟩
            clear cj mLX hw1
            go_wp2
            go_ret
            rw [← HE.out]
            exact ⟨⟨_, rfl⟩, HP1.out⟩
      · have f3 : ¬ (2 * (i : Int) + 1 + 1 < (n : Int)) := by omega
        have f4 : (n : Int) ≤ 2 * (i : Int) + 1 + 1 := by omega
        have HKd : Hid (kidS O' i n = 2 * i + 1) := if_neg fun x => hj2 x.1
        have HPX : Hid (PlM wr b G vs O' q cap ∧ Kp (fun k => (Value.slice q m cap).ownBlock = some k) w wr) := ⟨HI.out.1, HI.out.2.2⟩
        clear mL
        have cj := pless_any HI.out.2.1 (by have := HPX.out.1.own; rw [HI.out.2.1] at this; exact this) (2 * i + 1) i (by omega) (by omega)
        rw [show ((2 * i + 1 : Nat) : Int) = 2 * (i : Int) + 1 by omega] at cj
        have mLX := mLess HPX.out.1.cell
        rw [HI.out.2.1] at mLX
        by_cases hlt : O'.getD (2 * i + 1) 0 < O'.getD i 0
        · rw [decide_eq_true hlt] at cj
          have HE : Hid (downS k'' (swp O' i (2 * i + 1)) (2 * i + 1) n = R) := by
            show _ = R
            rw [← HR'.out, downS, if_neg hj, HKd.out, if_pos hlt]
          clear hlt HR' HKd
          go_wp2_with fail
          refine cj.mono ?_
          rintro e W1 ⟨rfl, hw1⟩
          have HP1 : Hid (PlM W1 b G vs O' q cap ∧ Kp (fun k => (Value.slice q m cap).ownBlock = some k) w W1) := ⟨HPX.out.1.next hw1, HPX.out.2.next hw1⟩
          have mS := mSwap HP1.out.1.cell
          rw [HI.out.2.1] at mS
          have c2 := pswap_any HI.out.2.1 (by have := HP1.out.1.own; rw [HI.out.2.1] at this; exact this) i (2 * i + 1) (by omega) (by omega)
          rw [show ((2 * i + 1 : Nat) : Int) = 2 * (i : Int) + 1 by omega] at c2
          clear cj mLX hw1
          go_wp2_with fail
          refine c2.mono ?_
          rintro e W2 ⟨rfl, hw2⟩
          have HP2 : Hid (PlM W2 b G vs (swp O' i (2 * i + 1)) q cap ∧ (swp O' i (2 * i + 1)).length = m ∧ Kp (fun k => (Value.slice q m cap).ownBlock = some k) w W2) :=
            ⟨HP1.out.1.turn HI.out.2.1 (swp_size HI.out.2.1 _ _) hw2.out.1 hw2.out.2, swp_size HI.out.2.1 _ _, HP1.out.2.trans hw2.out.2 fun _ _ x => x⟩
          clear c2 mS hw2 HP1
          go_wp2
          exact ⟨⟨2 * i + 1, k'', swp O' i (2 * i + 1), by go_num, HP2, HE, by omega, by omega⟩, by simp [intOf]; omega⟩
        · rw [decide_eq_false hlt] at cj
          have HE : Hid (O' = R) := by
            show O' = R
            rw [← HR'.out, downS, if_neg hj, HKd.out, if_neg hlt]
          clear hlt HR' HKd
          go_wp2_with fail
          refine cj.mono ?_
          rintro e W1 ⟨rfl, hw1⟩
          have HP1 : Hid (PlM W1 b G vs O' q cap ∧ Kp (fun k => (Value.slice q m cap).ownBlock = some k) w W1) := ⟨HPX.out.1.next hw1, HPX.out.2.next hw1⟩
          clear cj mLX hw1
          go_wp2
          go_ret
          rw [← HE.out]
          exact ⟨⟨_, rfl⟩, HP1.out⟩
end Go.Proofs.YtdcaonfnhdjibaaDoor
namespace Go.Proofs.YtdcaonfnhdjibaaDoor
open Go.RowKit

/-- The block of a slice. -/
def ob (q : Option Addr) : Option Nat := q.map (·.block)
theorem ob_own (q : Option Addr) (n cap : Nat) : (Value.slice q n cap).ownBlock = ob q := by cases q <;> rfl
/-- Only the piece, what is known and the open places have turned. -/
structure Pt (w w' : World) (G kg : Nat) (q q' : Option Addr) : Prop where
  kp : Kp (fun k => k = G ∨ k = kg ∨ ob q = some k) w w'
  new : ∀ k, ob q' = some k → ob q = some k ∨ w.heap.size ≤ k
section
variable {w w' w'' : World} {G kg : Nat} {q q' q'' : Option Addr}
theorem Pt.refl (w : World) (G kg : Nat) (q : Option Addr) : Pt w w G kg q q := ⟨Kp.refl _ w, fun _ h => .inl h⟩
theorem Pt.trans (h : Pt w w' G kg q q') (k : Pt w' w'' G kg q' q'') : Pt w w'' G kg q q'' := by
  refine ⟨h.kp.trans k.kp fun i hi x => ?_, fun i hi => ?_⟩
  · rcases x with x | x | x
    · exact .inl x
    · exact .inr (.inl x)
    · rcases h.new i x with y | y
      · exact .inr (.inr y)
      · omega
  · rcases k.new i hi with x | x
    · exact h.new i x
    · exact .inr (Nat.le_trans h.kp.size x)
theorem Pt.next (h : Pt w w' G kg q q') (k : Below w'.heap.size w' w'') : Pt w w'' G kg q q' := ⟨h.kp.next k, h.new⟩
theorem Pt.of (h : Below w.heap.size w w') (G kg : Nat) (q : Option Addr) : Pt w w' G kg q q := ⟨Kp.of h, fun _ h => .inl h⟩
theorem Pt.own {n cap : Nat} (h : Kp (fun k => (Value.slice q n cap).ownBlock = some k) w w') (G kg : Nat) : Pt w w' G kg q q := by
  refine ⟨?_, fun _ h => .inl h⟩
  have := (Kp.refl (fun k => k = G ∨ k = kg ∨ ob q = some k) w).trans h fun i _ x => .inr (.inr (by rw [← ob_own q n cap]; exact x))
  exact this
end
theorem taI (x : Int) (w : World) : (Instr.typeAssert (.iface 3 (.int .i64 x)) 20 3 false).run Tryd.prog w = .ok (.int .i64 x) w := by kernel_rfl
theorem range_new (w : World) (C : List Value) (t : TypeId) : (w.alloc (.cells C.toArray t)).rangeAt w.heap.size 0 C := fun j v hv => by
  rw [Nat.zero_add]
  exact (blk_cell (World.alloc_heap_new w _) j v (by simpa using hv)).1
theorem infoInt : (Tryd.prog.info? 3).map (fun i => (i.zero, i.size, i.bytes)) = some (some (.int .i64 0), 1, 8) := by kernel_rfl
theorem PlM.put {w : World} {b G : Nat} {vs : List Value} {O : List Int} {q : Option Addr} {cap : Nat} (h : PlM w b G vs O q cap) {w' : World} {O' : List Int} {q' : Option Addr} {cap' : Nat} (ho : w'.ownsRow b 3 1 (.slice q' O'.length cap') O'.length (sv O')) (he : w'.heap[G]? = w.heap[G]?) : PlM (w'.setCell ⟨G, 11, none⟩ (.slice q' O'.length cap')) b G vs O' q' cap' := by
  have f : Full w' G 93 (vs ++ (Value.slice q O.length cap :: [])) := he.trans h.full
  have k : Blk w' G 93 12 := ⟨_, f, by simp [h.len]⟩
  have := f.put1 (.slice q' O'.length cap')
  rw [h.len] at this
  refine ⟨this, h.len, own_same ho fun g hg => set_heap (a := ⟨G, 11, none⟩) fun e => ?_⟩
  exact (own_blk ho g hg).ne k (by decide) e
set_option maxRecDepth 100000 in
set_option maxHeartbeats 2000000 in
theorem ppush_any {w : World} {b G m : Nat} {vs : List Value} {O : List Int} {q : Option Addr} {cap : Nat} (h : PlM w b G vs O q cap) (hm : O.length = m) (hm2 : m ≤ 900000) (x : Int) (hb : b ≤ w.heap.size) (kg : Nat) :
    Calls Tryd.prog 111 #[.pointer (some ⟨G, 11, none⟩), .iface 3 (.int .i64 x)] w fun e w' => e = .returned (.tuple #[]) ∧ ∃ q' cap', Hid (PlM w' b G vs (O ++ [x]) q' cap' ∧ Pt w w' G kg q q') := by
  have H0 : Hid (PlM w b G vs O q cap) := h
  have c0 : w.drew.cell? ⟨G, 11, none⟩ = some (.slice q m cap) := by have := h.cell; rw [hm] at this; exact this
  have c1 : (w.drew.alloc (.cells #[.int .i64 x] 3)).cell? ⟨G, 11, none⟩ = some (.slice q m cap) := cell_alloc_l _ c0
  have c2 : (w.alloc (.cells #[.int .i64 x] 3)).drew.cell? ⟨G, 11, none⟩ = some (.slice q m cap) := c1
  have HO : Hid ((w.drew.alloc (.cells #[.int .i64 x] 3)).ownsRow b 3 1 (.slice q m cap) m (sv O)) := by
    have e := h.own
    rw [hm] at e
    exact own_next (own_same (w' := w.drew) e fun _ _ => rfl) ((Below.refl _ _).alloc (Nat.le_refl _) _)
  have hta := taI x
  have HW : Hid (∀ W9, (w.drew.alloc (.cells #[.int .i64 x] 3)).grownBy W9 (Value.slice q m cap).ownBlock → W9.heap[G]? = w.heap[G]? ∧ Kp (fun k => k = G ∨ k = kg ∨ ob q = some k) w W9) := fun W9 hg => by
    have hne := h.ne
    rw [hm] at hne
    have k1 : Kp (fun k => k = kg ∧ k ≠ G ∨ ob q = some k) w (w.drew.alloc (.cells #[.int .i64 x] 3)) := Kp.alloc (Kp.of ((Below.refl _ w).drew)) _
    have k2 := k1.grown hg fun k hk => .inl (.inr (by rw [← ob_own q m cap]; exact hk))
    refine ⟨k2.block G h.blk.lt fun x => ?_, (Kp.refl (fun k => k = G ∨ k = kg ∨ ob q = some k) w).trans k2 fun i _ x => ?_⟩
    · rcases x with x | x
      · exact x.2 rfl
      · rw [← ob_own q m cap] at x
        exact hne x
    · rcases x with x | x
      · exact .inr (.inl x.1)
      · exact .inr (.inr x)
  have HC : Hid (∀ W9 : World, W9.heap[G]? = w.heap[G]? → W9.cell? ⟨G, 11, none⟩ = some (.slice q m cap) ∧ W9.frozen? ⟨G, 11, none⟩ = false) := fun W9 e => by
    have f : Full W9 G 93 (vs ++ [.slice q O.length cap]) := e.trans h.full
    have := f.cell 11 (.slice q O.length cap) (by rw [List.getElem?_append_right (by rw [h.len]; decide), h.len]; rfl)
    rw [hm] at this
    exact this
  have HEnd : Hid (∀ (W9 : World) (q9 : Option Addr) (c9 : Nat), W9.ownsRow b 3 1 (.slice q9 (m + 1) c9) (m + 1) (sv O ++ [.int .i64 x]) → ((w.drew.alloc (.cells #[.int .i64 x] 3)).grownBy W9 (Value.slice q m cap).ownBlock ∧ ((Value.slice q9 (m + 1) c9).ownBlock = (Value.slice q m cap).ownBlock ∨ (Value.slice q9 (m + 1) c9).ownBlock = some (w.drew.alloc (.cells #[.int .i64 x] 3)).heap.size)) → PlM (W9.setCell ⟨G, 11, none⟩ (.slice q9 (m + 1) c9)) b G vs (O ++ [x]) q9 c9 ∧ Pt w (W9.setCell ⟨G, 11, none⟩ (.slice q9 (m + 1) c9)) G kg q q9) := fun W9 q9 c9 ho hg => by
    have hl : (O ++ [x]).length = m + 1 := by simp [hm]
    obtain ⟨k1, k2⟩ := HW.out W9 hg.1
    refine ⟨?_, k2.setCell (p := ⟨G, 11, none⟩) (.inl (.inl rfl)) _, fun k hk => ?_⟩
    · have := h.put (w' := W9) (O' := O ++ [x]) (q' := q9) (cap' := c9) (by rw [hl]; unfold sv at ho ⊢; rw [List.map_append]; exact ho) k1
      rw [hl] at this
      exact this
    · have h2 := hg.2
      rw [ob_own, ob_own] at h2
      rcases h2 with h2 | h2
      · exact .inl (h2 ▸ hk)
      · rw [h2] at hk
        refine .inr ?_
        cases hk
        exact ((Below.refl _ w).drew.alloc (Nat.le_refl _) _).size
  clear h
  go_enter Tryd.func111, Tryd.ntmps111
  go_region_law (first
    | (refine step_app 91 3 _ 1 8 Tryd.underlying91 infoInt (by rfl) (by decide) (by decide) (by rfl) _ _ (by rfl) b (.slice q m cap) m (sv O) (by rfl) HO.out w.heap.size [.int .i64 x] rfl (fun u hu => by obtain rfl := List.mem_singleton.1 hu; rfl) (by rfl) (range_new w.drew _ _) (by omega) (by simp; omega) ?_; intro v9 W9 ho9 hg9; obtain ⟨q9, c9, rfl, -, -⟩ := own_slice ho9.out; have x9 : W9.cell? ⟨G, 11, none⟩ = some (.slice q m cap) ∧ W9.frozen? ⟨G, 11, none⟩ = false := HC.out W9 (HW.out W9 hg9.out.1).1; obtain ⟨x9, y9⟩ := x9))
  all_goals
    go_end0
    exact ⟨rfl, q9, c9, HEnd.out W9 q9 c9 ho9.out hg9.out⟩
end Go.Proofs.YtdcaonfnhdjibaaDoor
namespace Go.Proofs.YtdcaonfnhdjibaaDoor
open Go.RowKit

theorem cut_run {t e : TypeId} {s : Nat} (ht : Tryd.prog.underlying t = some (.slice e)) (hz : ∀ w : World, (sizeOf e).run Tryd.prog w = .ok s w) (a : Addr) (n cap k : Nat) (hk : k ≤ cap) : ∀ w : World, (Instr.slice t (.slice (some a) n cap) none (some (.int .i64 (k : Int))) none).run Tryd.prog w = .ok (.slice (some a) k cap) w := fun w => by
  simp [go_sem, Instr.slice, run_underlying ht, hk, hz]
theorem sz_int : ∀ w : World, (sizeOf 3).run Tryd.prog w = .ok 1 w := fun w => by kernel_rfl
set_option maxRecDepth 100000 in
set_option maxHeartbeats 2000000 in
theorem ppop_any {w : World} {b G m : Nat} {vs : List Value} {O : List Int} {q : Option Addr} {cap : Nat} (h : PlM w b G vs O q cap) (hm : O.length = m + 1) (hm2 : m ≤ 900000) (kg : Nat) :
    Calls Tryd.prog 110 #[.pointer (some ⟨G, 11, none⟩)] w fun e w' => e = .returned (.iface 3 (.int .i64 (O.getD m 0))) ∧ Hid (PlM w' b G vs (O.take m) q cap ∧ Pt w w' G kg q q) := by
  have ho := h.own
  rw [hm] at ho
  obtain ⟨g, rfl, x1, -⟩ := own_at hm ho m (Nat.lt_succ_self m)
  have hcap : m ≤ cap := by
    obtain ⟨q', cap', e, hle, -⟩ := own_slice ho
    cases e
    omega
  have c0 := h.cell
  rw [hm] at c0
  have y0 : w.frozen? ⟨G, 11, none⟩ = false := h.blk.unfrozen 11
  have hl : (O.take m).length = m := by rw [List.length_take]; omega
  have HE : Hid (PlM (w.setCell ⟨G, 11, none⟩ (.slice (some ⟨g, 0, none⟩) m cap)) b G vs (O.take m) (some ⟨g, 0, none⟩) cap ∧ Pt w (w.setCell ⟨G, 11, none⟩ (.slice (some ⟨g, 0, none⟩) m cap)) G kg (some ⟨g, 0, none⟩) (some ⟨g, 0, none⟩)) := by
    have := h.put (w' := w) (O' := O.take m) (q' := some ⟨g, 0, none⟩) (cap' := cap) (by rw [hl]; exact own_cutI hm ho (by omega) (by omega)) rfl
    rw [hl] at this
    exact ⟨this, (Kp.refl _ w).setCell (p := ⟨G, 11, none⟩) (.inl (.inl rfl)) _, fun _ x => .inl x⟩
  have hc := cut_run (t := 91) Tryd.underlying91 sz_int ⟨g, 0, none⟩ (m + 1) cap m hcap
  have m0 : (0 : Int) ≤ (m : Int) := by omega
  generalize O.getD m 0 = y at *
  clear h ho hm hl hcap
  go_enter Tryd.func110, Tryd.ntmps110
  go_wp2
  go_ret
  exact ⟨rfl, HE⟩
set_option maxRecDepth 100000 in
set_option maxHeartbeats 2000000 in
theorem hpush_any {w : World} {b G m : Nat} {vs : List Value} {O : List Int} {q : Option Addr} {cap : Nat} (h : PlM w b G vs O q cap) (hm : O.length = m) (hm2 : m ≤ 900000) (x : Int) (hb : b ≤ w.heap.size) :
    Calls Tryd.prog 61 #[.iface 104 (.pointer (some ⟨G, 11, none⟩)), .iface 3 (.int .i64 x)] w fun e w' => e = .returned (.tuple #[]) ∧ ∃ q' cap', Hid (PlM w' b G vs (pushH O x) q' cap' ∧ Pt w w' G G q q') := by
  have mP := mPush ⟨G, 11, none⟩
  have c1 := ppush_any h hm hm2 x hb G
  have hl : (O ++ [x]).length = m + 1 := by simp [hm]
  have HQ : Hid (pushH O x = upS (m + 1) (O ++ [x]) m) := by show _ = _; unfold pushH; rw [hm]
  rw [HQ.out]
  clear h hm
  go_enter Tryd.func61, Tryd.ntmps61
  go_wp2_with fail
  refine c1.mono ?_
  rintro e W1 ⟨rfl, q1, cap1, hw1⟩
  have mL := mLen hw1.out.1.cell
  rw [hl] at mL
  have c2 := plen_any W1 q1 (m + 1) cap1
  have c3 := hup_any hw1.out.1 hl (by omega) m (Nat.lt_succ_self m) (m + 1) (Nat.lt_succ_self m)
  clear c1
  go_wp2_with fail
  refine c2.mono ?_
  rintro e W2 ⟨rfl, rfl⟩
  clear c2 mL
  go_wp2_with fail
  refine c3.mono ?_
  rintro e W3 ⟨rfl, hw3⟩
  clear c3
  go_wp2
  go_end0
  exact ⟨rfl, q1, cap1, hw3.out.1, hw1.out.2.trans (Pt.own hw3.out.2 G G)⟩
set_option maxRecDepth 100000 in
set_option maxHeartbeats 2000000 in
theorem hpop_any {w : World} {b G m : Nat} {vs : List Value} {O : List Int} {q : Option Addr} {cap : Nat} (h : PlM w b G vs O q cap) (hm : O.length = m + 1) (hm2 : m ≤ 900000) :
    Calls Tryd.prog 52 #[.iface 104 (.pointer (some ⟨G, 11, none⟩))] w fun e w' => e = .returned (.iface 3 (.int .i64 ((popL O).getD m 0))) ∧ Hid (PlM w' b G vs ((popL O).take m) q cap ∧ Pt w w' G G q q) := by
  have HP : Hid (∀ a w, (method 263 104 (.pointer (some a)) "Pop").run Tryd.prog w = .ok (110, .pointer (some a)) w) := mPop
  have HQ : Hid (popL O = downS (m + 1) (swp O 0 m) 0 m) := by show _ = _; unfold popL; rw [hm]; rfl
  have hlP : (popL O).length = m + 1 := by rw [pop_len]; exact hm
  have mL := mLen h.cell
  have mS := mSwap h.cell
  rw [hm] at mL mS
  have c1 := plen_any w q (m + 1) cap
  have ho := h.own
  rw [hm] at ho
  have c2 := pswap_any hm ho 0 m (Nat.succ_pos m) (Nat.lt_succ_self m)
  have H0 : Hid (PlM w b G vs O q cap ∧ O.length = m + 1) := ⟨h, hm⟩
  obtain ⟨y, Hy⟩ : ∃ y, Hid (y = (popL O).getD m 0) := ⟨_, (rfl : (popL O).getD m 0 = _)⟩
  rw [← Hy.out]
  clear h hm ho
  go_enter Tryd.func52, Tryd.ntmps52
  go_wp2_with fail
  refine c1.mono ?_
  rintro e W1 ⟨rfl, rfl⟩
  clear c1 mL
  go_wp2_with fail
  refine c2.mono ?_
  rintro e W2 ⟨rfl, hw2⟩
  have H2 : Hid (PlM W2 b G vs (swp O 0 m) q cap ∧ Pt W1 W2 G G q q) := ⟨H0.out.1.turn H0.out.2 (swp_size H0.out.2 _ _) hw2.out.1 hw2.out.2, Pt.own hw2.out.2 G G⟩
  have c3 := hdown_any H2.out.1 (swp_size H0.out.2 _ _) (by omega) m (m + 1) (by omega) (by omega)
  rw [← HQ.out] at c3
  clear c2 mS hw2
  go_wp2_with fail
  refine c3.mono ?_
  rintro e W3 ⟨⟨B, rfl⟩, hw3⟩
  have H3 : Hid (PlM W3 b G vs (popL O) q cap ∧ Pt W1 W3 G G q q) := ⟨hw3.out.1, H2.out.2.trans (Pt.own hw3.out.2 G G)⟩
  have c4 := ppop_any H3.out.1 hlP hm2 G
  have mP := HP.out ⟨G, 11, none⟩ W3
  rw [← Hy.out] at c4
  clear c3 hw3 H2
  go_wp2_with fail
  refine c4.mono ?_
  rintro e W4 ⟨rfl, hw4⟩
  have HE : Hid (PlM W4 b G vs ((popL O).take m) q cap ∧ Pt W1 W4 G G q q) := ⟨hw4.out.1, H3.out.2.trans hw4.out.2⟩
  clear c4 hw4 H3 mP
  go_wp2
  go_ret
  exact ⟨rfl, HE⟩
end Go.Proofs.YtdcaonfnhdjibaaDoor
