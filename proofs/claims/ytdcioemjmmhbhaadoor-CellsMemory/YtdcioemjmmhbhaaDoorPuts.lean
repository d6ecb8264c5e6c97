import Derived.Test.YtdcioemjmmhbhaaDoorBookE
import Derived.Deep.RegionHeld3
namespace Go.Proofs.YtdcioemjmmhbhaaDoor
open Go.RowKit

theorem St.next {w w' : World} {B p m lim : Nat} {A : Hp} (h : St w B p m lim A) (k : Below w.heap.size w w') : St w' B p m lim A := by
  obtain ⟨F, G, kv, lv, Ls, h1, h2, h3⟩ := h
  exact ⟨F, G, kv, lv, Ls, h1.next k, h2.next k, h3⟩
theorem St.drew {w : World} {B p m lim : Nat} {A : Hp} (h : St w B p m lim A) : St w.drew B p m lim A := h.next (Below.refl _ w).drew

/-- A step of a script. -/
structure Sp where
  dop : Int
  on : Int
  kd : Int
  n : Int
  r : V
  x : V
def sc (s : Sp) : List Value := [.int .i64 s.dop, .int .i64 s.on, .int .i64 s.kd, .int .i64 s.n, .int .i64 s.r.1, .int .i64 s.r.2.1, .string s.r.2.2, .int .i64 s.x.1, .int .i64 s.x.2.1, .string s.x.2.2]
theorem sc_new (w : World) (s : Sp) (t : TypeId) : (w.alloc (.cells (sc s).toArray t)).rangeAt w.heap.size 0 (sc s) := fun j v hv => by
  rw [Nat.zero_add]
  simp only [World.cell?, World.alloc_heap_new w _]
  simpa using hv

set_option maxRecDepth 100000 in
set_option maxHeartbeats 4000000 in
theorem puts_any {w : World} {B p m lim : Nat} {A : Hp} (h : St w B p m lim A) (hBw : B ≤ w.heap.size) (dop on kd n : Int) (rk rn : Int) (rs : ByteArray) (xk xn : Int) (xs : ByteArray) (hrs : rs.size ≤ 9223372036854775807) (hxs : xs.size ≤ 9223372036854775807) :
    Calls Tryd.prog 11 #[.pointer (some ⟨m, 0, none⟩), .agg #[.int .i64 dop, .int .i64 on, .int .i64 kd, .int .i64 n, .int .i64 rk, .int .i64 rn, .string rs, .int .i64 xk, .int .i64 xn, .string xs]] w fun e w' => e = .returned (.bool true) ∧ Hid (St w' B p m lim (putH A (rk, rn, rs) n (xk, xn, xs)).1) ∧ Below B w w' := by
  obtain ⟨F, G, kv, lv, Ls, hh, hb, hd, hFB, hGB⟩ := h
  obtain ⟨R, hR⟩ : ∃ R, putH A (rk, rn, rs) n (xk, xn, xs) = R := ⟨_, rfl⟩
  have HR : Hid (putH A (rk, rn, rs) n (xk, xn, xs) = R) := hR
  have hput := fun (W : World) (hW : HeapOf W p lim A F) => put_any hW (rk, rn, rs) n (xk, xn, xs) hrs hxs
  simp only [hR] at hput
  rw [hR]
  clear hR
  have hlim : lim ≤ 100000 ∧ usedS A ≤ lim := by obtain ⟨_, _, _, _, _, _, rfl, q⟩ := hh; exact ⟨q.top, q.le⟩
  have hAl : A.length ≤ 100000 := by have := used_ge A; omega
  have B0 : Below w.heap.size w (w.alloc (.cells #[.int .i64 dop, .int .i64 on, .int .i64 kd, .int .i64 n, .int .i64 rk, .int .i64 rn, .string rs, .int .i64 xk, .int .i64 xn, .string xs] 39)) := (Below.refl _ w).alloc (Nat.le_refl _) _
  have s0 := sc_new w ⟨dop, on, kd, n, (rk, rn, rs), (xk, xn, xs)⟩ 39
  have z0 : (w.alloc (.cells #[.int .i64 dop, .int .i64 on, .int .i64 kd, .int .i64 n, .int .i64 rk, .int .i64 rn, .string rs, .int .i64 xk, .int .i64 xn, .string xs] 39)).heap.size = w.heap.size + 1 := by simp
  unfold sc at s0
  simp only at s0
  go_enter Tryd.func11, Tryd.ntmps11
  go_wp2_with fail
  generalize w.alloc (.cells #[.int .i64 dop, .int .i64 on, .int .i64 kd, .int .i64 n, .int .i64 rk, .int .i64 rn, .string rs, .int .i64 xk, .int .i64 xn, .string xs] 39) = X at B0 s0 z0 ⊢
  have hF1 : ∀ b, F b → b < w.heap.size := hh.flt
  replace hh := hh.next B0
  replace hb := hb.next B0
  have HPUT : Hid (∀ W, HeapOf W p lim A F → Calls Tryd.prog 31 #[.pointer (some ⟨p, 0, none⟩), .agg #[.int .i64 rk, .int .i64 rn, .string rs], .int .i64 n, .agg #[.int .i64 xk, .int .i64 xn, .string xs]] W fun e w' => e = .returned (.int .i64 R.2) ∧ HeapOf w' p lim R.1 F ∧ Kp F W w') := hput
  have HHX : Hid (HeapOf X.drew p lim A F) := hh.next ((Below.refl _ _).drew)
  have SV : Hid (∀ w', Kp F X w' → w'.cell? ⟨m, 0, none⟩ = some (.pointer (some ⟨p, 0, none⟩)) ∧ w'.cell? ⟨w.heap.size, 3, none⟩ = some (.int .i64 n) ∧ (w'.cell? ⟨w.heap.size, 4, none⟩ = some (.int .i64 rk) ∧ w'.cell? ⟨w.heap.size, 5, none⟩ = some (.int .i64 rn) ∧ w'.cell? ⟨w.heap.size, 6, none⟩ = some (.string rs)) ∧ (w'.cell? ⟨w.heap.size, 7, none⟩ = some (.int .i64 xk) ∧ w'.cell? ⟨w.heap.size, 8, none⟩ = some (.int .i64 xn) ∧ w'.cell? ⟨w.heap.size, 9, none⟩ = some (.string xs))) := fun w' hk => by
    have e1 : w'.heap[w.heap.size]? = X.heap[w.heap.size]? := hk.block _ (by omega) (fun q => by have := hF1 _ q; omega)
    have s1 := range_same s0 e1
    refine ⟨(World.cell?_of_block (w := X) (a := ⟨m, 0, none⟩) (hk.block m hb.blk.lt (fun q => hd m q hb.gm))).trans hb.c0, ?_, ⟨?_, ?_, ?_⟩, ?_, ?_, ?_⟩
    · exact s1 3 _ rfl
    · exact s1 4 _ rfl
    · exact s1 5 _ rfl
    · exact s1 6 _ rfl
    · exact s1 7 _ rfl
    · exact s1 8 _ rfl
    · exact s1 9 _ rfl
  have hkd : Kp F X X.drew := Kp.of ((Below.refl _ X).drew)
  obtain ⟨v0, v3, ⟨v4, v5, v6⟩, v7, v8, v9⟩ := SV.out X (Kp.refl F X)
  have HFA : Hid (∀ w1, HeapOf w1 p lim R.1 F → Kp F X w1 → BookAt w1 m p A (A.map (·.1)) (usedS A) kv lv Ls G ∧ Below B w w1) := fun w1 h1 k1 =>
    ⟨hb.kept k1 hd, (B0.mono hBw).trans (k1.below hFB (by have := B0.size; omega))⟩
  clear hput hh hb s0
  go_region_held3 (fun w' => w'.cell? ⟨m, 0, none⟩ = some (.pointer (some ⟨p, 0, none⟩)) ∧ w'.cell? ⟨w.heap.size, 3, none⟩ = some (.int .i64 n) ∧ (w'.cell? ⟨w.heap.size, 4, none⟩ = some (.int .i64 rk) ∧ w'.cell? ⟨w.heap.size, 5, none⟩ = some (.int .i64 rn) ∧ w'.cell? ⟨w.heap.size, 6, none⟩ = some (.string rs)) ∧ (w'.cell? ⟨w.heap.size, 7, none⟩ = some (.int .i64 xk) ∧ w'.cell? ⟨w.heap.size, 8, none⟩ = some (.int .i64 xn) ∧ w'.cell? ⟨w.heap.size, 9, none⟩ = some (.string xs))) (exact SV.out _ (by assumption))
    (first
    | (go_at_call 31; refine (HPUT.out _ HHX.out).mono ?_; rintro e w1 ⟨rfl, hh1, hk1⟩; have hk2 : Kp F X w1 := hkd.trans hk1 (fun _ _ q => q)))
  clear v0 v3 v4 v5 v6 v7 v8 v9 HHX HPUT hkd
  obtain ⟨v0, v3, ⟨v4, v5, v6⟩, v7, v8, v9⟩ := SV.out w1 hk2
  obtain ⟨h2, B2⟩ := HFA.out w1 hh1 hk2
  clear SV HFA hk1
  have c1 := h2.c1
  have c2 := h2.c2
  obtain ⟨lq, lc, rfl, hlc, hlr⟩ := own_slice h2.ls
  have HBB : Hid (∀ Y, Below w1.heap.size w1 Y → Below B w Y) := fun Y hY => B2.trans (hY.mono (by have := B2.size; omega))
  by_cases hth : rk = 4 ∧ rs.toList = [] ∧ 1 ≤ rn ∧ rn < (A.length : Int) + 1
  case neg =>
    obtain ⟨hT, hA1⟩ := put_no (A := A) (v := (rk, rn, rs)) (i := n) (x := (xk, xn, xs)) hth
    rw [HR.out] at hT hA1
    clear HR
    obtain ⟨R1, t⟩ := R
    simp only at hT hA1 hh1
    subst hA1
    have HST : Hid (∀ Y, Below w1.heap.size w1 Y → St Y B p m lim R1) := fun Y hY => ⟨F, G, kv, _, Ls, hh1.next hY, h2.next hY, hd, hFB, hGB⟩
    clear h2 hh1 hlr hk2
    have hT' : (t == 0) = false := by simpa using hT
    by_cases k4 : rk = 4
    · subst k4
      by_cases s0 : rs.toList = []
      · have se := eq_e0 s0
        subst se
        by_cases r1 : 1 ≤ rn
        · have r2 : ¬ rn < (R1.length : Int) + 1 := fun q => hth ⟨rfl, s0, r1, q⟩
          clear hth s0
          go_wp2_with fail
          refine wp_region_quiet_below (by kernel_rfl) (by kernel_rfl) ?_
          repeat (first | go_big_quiet_step (first | fail) | quiet_step (first | fail))
          refine wpQuiet_nil ?_
          intro _ hw'
          obtain ⟨⟨dq, osq⟩, hw''⟩ := hw'
          subst hw''
          have hY := below_regrown w1 dq osq
          change Exit.then _ _ Exit.normal _ (Sort.grow (redrawn w1 dq) osq)
          generalize Sort.grow (redrawn w1 dq) osq = Y at hY ⊢
          replace HST := HST
          have BY := hY
          clear hY v0 v3 v4 v5 v6 v7 v8 v9 c1 c2
          go_wp2
          go_ret
          exact ⟨by simp [hT], HST.out Y BY, HBB.out Y BY⟩
        · clear hth s0
          go_wp2_with fail
          refine wp_region_quiet_below (by kernel_rfl) (by kernel_rfl) ?_
          repeat (first | go_big_quiet_step (first | fail) | quiet_step (first | fail))
          refine wpQuiet_nil ?_
          intro _ hw'
          obtain ⟨⟨dq, osq⟩, hw''⟩ := hw'
          subst hw''
          have hY := below_regrown w1 dq osq
          change Exit.then _ _ Exit.normal _ (Sort.grow (redrawn w1 dq) osq)
          generalize Sort.grow (redrawn w1 dq) osq = Y at hY ⊢
          replace HST := HST
          have BY := hY
          clear hY v0 v3 v4 v5 v6 v7 v8 v9 c1 c2
          go_wp2
          go_ret
          exact ⟨by simp [hT], HST.out Y BY, HBB.out Y BY⟩
      · have s1 : (rs.toList == []) = false := by simpa using s0
        clear hth s0
        go_wp2_with fail
        refine wp_region_quiet_below (by kernel_rfl) (by kernel_rfl) ?_
        repeat (first | go_big_quiet_step (first | fail) | quiet_step (first | fail))
        refine wpQuiet_nil ?_
        intro _ hw'
        obtain ⟨⟨dq, osq⟩, hw''⟩ := hw'
        subst hw''
        have hY := below_regrown w1 dq osq
        change Exit.then _ _ Exit.normal _ (Sort.grow (redrawn w1 dq) osq)
        generalize Sort.grow (redrawn w1 dq) osq = Y at hY ⊢
        replace HST := HST
        have BY := hY
        clear hY v0 v3 v4 v5 v6 v7 v8 v9 c1 c2
        go_wp2
        go_ret
        exact ⟨by simp [hT], HST.out Y BY, HBB.out Y BY⟩
    · have k5 : (rk == 4) = false := by simpa using k4
      clear hth k4
      go_wp2_with fail
      refine wp_region_quiet_below (by kernel_rfl) (by kernel_rfl) ?_
      repeat (first | go_big_quiet_step (first | fail) | quiet_step (first | fail))
      refine wpQuiet_nil ?_
      intro _ hw'
      obtain ⟨⟨dq, osq⟩, hw''⟩ := hw'
      subst hw''
      have hY := below_regrown w1 dq osq
      change Exit.then _ _ Exit.normal _ (Sort.grow (redrawn w1 dq) osq)
      generalize Sort.grow (redrawn w1 dq) osq = Y at hY ⊢
      replace HST := HST
      have BY := hY
      clear hY v0 v3 v4 v5 v6 v7 v8 v9 c1 c2
      go_wp2
      go_ret
      exact ⟨by simp [hT], HST.out Y BY, HBB.out Y BY⟩
  case pos =>
    obtain ⟨rfl, hse, hr1, hr2⟩ := hth
    have se := eq_e0 hse
    subst se
    obtain ⟨j, rfl⟩ : ∃ j : Nat, rn = (j : Int) + 1 := ⟨rn.toNat - 1, by omega⟩
    have hj : j < A.length := by omega
    obtain ⟨a, ha⟩ : ∃ a, A[j]? = some a := ⟨_, List.getElem?_eq_getElem hj⟩
    obtain ⟨v, hv⟩ : ∃ v, Ls[j]? = some v := ⟨_, List.getElem?_eq_getElem (by rw [h2.len]; exact hj)⟩
    have hyes := put_yes (A := A) (v := (4, (j : Int) + 1, e0)) (i := n) (x := (xk, xn, xs)) ⟨rfl, hse, hr1, hr2⟩ a (by show A[((j : Int) + 1).toNat - 1]? = some a; rw [show ((j : Int) + 1).toNat - 1 = j by omega]; exact ha)
    rw [HR.out] at hyes
    simp only at hyes
    rw [show ((j : Int) + 1).toNat - 1 = j by omega] at hyes
    have hel := h2.el j v a hv ha
    have hla : a.2.length ≤ 100000 := by have := used_mem (List.mem_of_getElem? ha); omega
    obtain ⟨vq, vp, rfl, hvp, hvr⟩ := own_slice hel
    obtain ⟨lg, rfl, hlr2⟩ := hlr (by omega)
    obtain ⟨kq, kc, rfl, hkc, hkr⟩ := own_slice h2.ks
    obtain ⟨kg, rfl, hkr2⟩ := hkr (by omega)
    have cl : w1.cell? ⟨lg, j + 1, none⟩ = some (.slice vq a.2.length vp) := by
      have := hlr2 (j + 1) (.slice vq a.2.length vp) (by rw [List.getElem?_cons_succ]; exact hv)
      rwa [Nat.zero_add] at this
    have ck : w1.cell? ⟨kg, j + 1, none⟩ = some (.int .i64 a.1) := by
      have := hkr2 (j + 1) (.int .i64 a.1) (by rw [List.getElem?_cons_succ, List.getElem?_map, List.getElem?_map, ha]; rfl)
      rwa [Nat.zero_add] at this
    rw [List.length_map] at c1 hkc
    have HST : Hid (R.1 = A → ∀ Y, Below w1.heap.size w1 Y → St Y B p m lim R.1) := fun e Y hY => ⟨F, G, _, _, Ls, hh1.next hY, by rw [e]; exact h2.next hY, hd, hFB, hGB⟩
    have H2 : Hid (BookAt w1 m p A (A.map (·.1)) (usedS A) (.slice (some ⟨kg, 0, none⟩) ((A.map (·.1)).length + 1) kc) (.slice (some ⟨lg, 0, none⟩) (A.length + 1) lc) Ls G) := h2
    have HH1 : Hid (HeapOf w1 p lim R.1 F) := hh1
    have HEL : Hid (w1.ownsRow 0 37 3 (.slice vq a.2.length vp) a.2.length (vcs a.2)) := hel
    have hn1 : ((j : Int) + 1).toNat = j + 1 := by omega
    have hn2 : (0 : Int) ≤ (j : Int) + 1 := by omega
    have hn3 : (j : Int) + 1 < (A.length : Int) + 1 := by omega
    have hn4 : (1 : Int) ≤ (j : Int) + 1 := by omega
    have hcl : (((A.map (·.1)).length + 1 : Nat) : Int) = (A.length : Int) + 1 := by simp
    clear h2 hh1 hel hlr hlr2 hkr hkr2 hr1 hr2 HR hk2 hse
    have y2 := cell_regrown c2
    have y3 := cell_regrown v3
    have y7 := cell_regrown v7
    have y1 := cell_regrown c1
    have yl := cell_regrown cl
    have yk := cell_regrown ck
    by_cases hneg : n < 0
    · rw [if_pos (.inl hneg)] at hyes
      subst hyes
      replace HST : Hid _ := HST.out rfl
      clear H2 HH1 HEL
      go_wp2_with fail
      refine wp_region_quiet_below (by kernel_rfl) (by kernel_rfl) ?_
      repeat (first | go_big_quiet_step (first | fail) | quiet_step (first | fail))
      refine wpQuiet_nil ?_
      intro _ hw'
      obtain ⟨⟨dq, osq⟩, hw''⟩ := hw'
      subst hw''
      have hY := below_regrown w1 dq osq
      change Exit.then _ _ Exit.normal _ (Sort.grow (redrawn w1 dq) osq)
      generalize Sort.grow (redrawn w1 dq) osq = Y at hY ⊢
      have BY := hY
      clear hY y1 y2 y3 y7 yl yk v0 v3 v4 v5 v6 v7 v8 v9 c1 c2 cl ck
      go_wp2
      go_ret
      exact ⟨by simp, HST.out Y BY, HBB.out Y BY⟩
    · obtain ⟨N, rfl⟩ : ∃ N : Nat, n = (N : Int) := ⟨n.toNat, by omega⟩
      by_cases hge : (a.2.length : Int) ≤ (N : Int)
      · rw [if_pos (.inr hge)] at hyes
        subst hyes
        replace HST : Hid _ := HST.out rfl
        clear H2 HH1 HEL hneg
        go_wp2_with fail
        refine wp_region_quiet_below (by kernel_rfl) (by kernel_rfl) ?_
        repeat (first | go_big_quiet_step (first | fail) | quiet_step (first | fail))
        refine wpQuiet_nil ?_
        intro _ hw'
        obtain ⟨⟨dq, osq⟩, hw''⟩ := hw'
        subst hw''
        have hY := below_regrown w1 dq osq
        change Exit.then _ _ Exit.normal _ (Sort.grow (redrawn w1 dq) osq)
        generalize Sort.grow (redrawn w1 dq) osq = Y at hY ⊢
        have BY := hY
        clear hY y1 y2 y3 y7 yl yk v0 v3 v4 v5 v6 v7 v8 v9 c1 c2 cl ck
        go_wp2
        go_ret
        exact ⟨by simp, HST.out Y BY, HBB.out Y BY⟩
      · rw [if_neg (by rintro (q | q); exact hneg q; exact hge q)] at hyes
        have hd2 : decide ((a.2.length : Int) ≤ (N : Int)) = false := decide_eq_false hge
        have hd3 : decide (a.2.length ≤ N) = false := decide_eq_false (by omega)
        have hd4 : ¬ a.2.length ≤ N := by omega
        have i1 : (N : Int) < (a.2.length : Int) := by omega
        have i0 : (0 : Int) ≤ (N : Int) := by omega
        by_cases hxk : xk = a.1
        · have hxk' : (xk != a.1) = false := by simpa using hxk
          cases hms : mayS (xk, xn, xs) a.1 A.length with
          | false =>
            rw [if_pos hms] at hyes
            subst hyes
            replace HST : Hid _ := HST.out rfl
            clear H2 HH1 HEL hneg hge
            have hpl : xk = 1 → (xs.toList == []) = false := fun e => by
              cases hq : (xs.toList == []) with
              | false => rfl
              | true =>
                exfalso
                rw [← hxk, e] at hms
                unfold mayS okV at hms
                simp [hq] at hms
            have HPL : Hid (xk = 1 → (xs.toList == []) = false) := hpl
            clear hpl hms
            rw [← hxk] at yk ck
            have hxx : (xk != xk) = false := by simp
            clear hxk hxk'
            go_wp2_with fail
            refine wp_region_quiet_below (by kernel_rfl) (by kernel_rfl) ?_
            repeat (first | go_big_quiet_step (first | fail) | quiet_step (first | fail))
            refine wpQuiet_nil ?_
            intro _ hw'
            obtain ⟨⟨dq, osq⟩, hw''⟩ := hw'
            subst hw''
            have hY := below_regrown w1 dq osq
            change Exit.then _ _ Exit.normal _ (Sort.grow (redrawn w1 dq) osq)
            generalize Sort.grow (redrawn w1 dq) osq = Y at hY ⊢
            have BY := hY
            have d7 := (hY.cell (p := ⟨w.heap.size, 7, none⟩) (block_lt_of_cell v7)).trans v7
            have d9 := (hY.cell (p := ⟨w.heap.size, 9, none⟩) (block_lt_of_cell v9)).trans v9
            clear hY y1 y2 y3 y7 yl yk v0 v3 v4 v5 v6 v7 v8 v9 c1 c2 cl ck
            by_cases x1 : xk = 1
            · have x2 := HPL.out x1
              subst x1
              go_wp2
              go_ret
              exact ⟨by simp, HST.out Y BY, HBB.out Y BY⟩
            · have x2 : (xk == 1) = false := by simpa using x1
              go_wp2
              go_ret
              exact ⟨by simp, HST.out Y BY, HBB.out Y BY⟩
          | true =>
            rw [if_neg (by rw [hms]; decide), Int.toNat_natCast] at hyes
            subst hyes
            clear HST hneg hge hms
            rw [← hxk] at yk ck
            have hxx : (xk != xk) = false := by simp
            clear hxk'
            go_wp2_with fail
            refine wp_region_quiet_below (by kernel_rfl) (by kernel_rfl) ?_
            repeat (first | go_big_quiet_step (first | fail) | quiet_step (first | fail))
            refine wpQuiet_nil ?_
            intro _ hw'
            obtain ⟨⟨dq, osq⟩, hw''⟩ := hw'
            subst hw''
            have hY := below_regrown w1 dq osq
            change Exit.then _ _ Exit.normal _ (Sort.grow (redrawn w1 dq) osq)
            generalize Sort.grow (redrawn w1 dq) osq = Y at hY ⊢
            have BY := hY
            have HN : Hid (N < a.2.length) := by show N < a.2.length; omega
            obtain ⟨vg, rfl, hvr2⟩ := hvr (by omega)
            have hbk := own_blk HEL.out vg rfl
            have hvv := vcs_get (range_same hvr2 (hY.block vg hbk.lt)) N HN.out
            rw [Nat.zero_add] at hvv
            have e0' := hvv 0 _ rfl
            have e1' := hvv 1 _ rfl
            have e2' := hvv 2 _ rfl
            rw [Nat.add_zero] at e0'
            have fz := (hbk.next hY).unfrozen
            have g0 := fz (N * 3)
            have g1 := fz (N * 3 + 1)
            have g2 := fz (N * 3 + 2)
            have d3 := (hY.cell (p := ⟨w.heap.size, 3, none⟩) (block_lt_of_cell v3)).trans v3
            have d7 := (hY.cell (p := ⟨w.heap.size, 7, none⟩) (block_lt_of_cell v7)).trans v7
            have d8 := (hY.cell (p := ⟨w.heap.size, 8, none⟩) (block_lt_of_cell v8)).trans v8
            have d9 := (hY.cell (p := ⟨w.heap.size, 9, none⟩) (block_lt_of_cell v9)).trans v9
            have dl := (hY.cell (p := ⟨lg, j + 1, none⟩) (block_lt_of_cell cl)).trans cl
            have d2 := (hY.cell (p := ⟨m, 2, none⟩) (block_lt_of_cell c2)).trans c2
            have HFIN : Hid (St (Y.setCells vg (N * 3) (vc (xk, xn, xs))) B p m lim (A.modify j fun a => (a.1, a.2.set N (xk, xn, xs))) ∧ Below B w (Y.setCells vg (N * 3) (vc (xk, xn, xs)))) := by
              have h3 := (H2.out.next hY).setE j N a (xk, xn, xs) vg vp hv ha HN.out
              have hGv : G vg := H2.out.ge _ (List.mem_of_getElem? hv) vg rfl
              have kk : Kp G Y (Y.setCells vg (N * 3) (vc (xk, xn, xs))) := Kp.setCells (.inl hGv) _ _ (Kp.refl G Y)
              refine ⟨⟨F, G, .slice (some ⟨kg, 0, none⟩) ((A.map (·.1)).length + 1) kc, .slice (some ⟨lg, 0, none⟩) (A.length + 1) lc, Ls, (HH1.out.next hY).kept kk hd, ?_, hd, hFB, hGB⟩, (HBB.out Y BY).trans (kk.below hGB (by have := hY.size; have := B2.size; omega))⟩
              rw [used_mod, kinds_mod]
              exact h3
            generalize a.2[N]'HN.out = vv at e0' e1' e2'
            obtain ⟨vk, vn, vs⟩ := vv
            simp only at e0' e1' e2'
            clear hY y1 y2 y3 y7 yl yk v0 v3 v4 v5 v6 v7 v8 v9 c1 c2 cl ck hvv hbk fz H2 HH1 HEL hvr hvr2 hxk
            go_wp2_with fail
            go_region
            change Exit.then _ _ Exit.normal _ (Y.setCells vg (N * 3) (vc (xk, xn, xs))).drew
            obtain ⟨q1, q2⟩ := HFIN.out
            replace q1 : Hid (St (Y.setCells vg (N * 3) (vc (xk, xn, xs))).drew B p m lim (A.modify j fun a => (a.1, a.2.set N (xk, xn, xs)))) := St.drew q1
            replace q2 := q2.drew
            generalize (Y.setCells vg (N * 3) (vc (xk, xn, xs))).drew = Z at q1 q2 ⊢
            clear d3 d7 d8 d9 dl d2 g0 g1 g2 e0' e1' e2' HFIN
            go_wp2
            go_ret
            exact ⟨rfl, q1, q2⟩
        · have hxk' : (xk != a.1) = true := by simpa using hxk
          have hms : mayS (xk, xn, xs) a.1 A.length = false := by
            unfold mayS
            rw [show (xk == a.1) = false by simpa using hxk]
            rfl
          rw [if_pos hms] at hyes
          subst hyes
          replace HST : Hid _ := HST.out rfl
          clear H2 HH1 HEL hneg hge hms
          go_wp2_with fail
          refine wp_region_quiet_below (by kernel_rfl) (by kernel_rfl) ?_
          repeat (first | go_big_quiet_step (first | fail) | quiet_step (first | fail))
          refine wpQuiet_nil ?_
          intro _ hw'
          obtain ⟨⟨dq, osq⟩, hw''⟩ := hw'
          subst hw''
          have hY := below_regrown w1 dq osq
          change Exit.then _ _ Exit.normal _ (Sort.grow (redrawn w1 dq) osq)
          generalize Sort.grow (redrawn w1 dq) osq = Y at hY ⊢
          have BY := hY
          clear hY y1 y2 y3 y7 yl yk v0 v3 v4 v5 v6 v7 v8 v9 c1 c2 cl ck
          go_wp2
          go_ret
          exact ⟨by simp, HST.out Y BY, HBB.out Y BY⟩
end Go.Proofs.YtdcioemjmmhbhaaDoor
