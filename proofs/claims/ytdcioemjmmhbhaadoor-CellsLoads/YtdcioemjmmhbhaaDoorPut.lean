import Derived.Test.YtdcioemjmmhbhaaDoorPutM
import Derived.Deep.RegionWith
namespace Go.Proofs.YtdcioemjmmhbhaaDoor
open Go.RowKit

set_option maxRecDepth 100000 in
set_option maxHeartbeats 4000000 in
theorem put_at {w : World} {p lim : Nat} {As : List Ar} {rq : Option Addr} {rn rg ro : Nat} {av : Value} {F : Nat → Prop} (h : HeapAt w p lim As rq rn rg ro av F) (k n : Int) (s : ByteArray) (i : Int) (hs : s.size ≤ 9223372036854775807) (xk xn : Int) (xs : ByteArray) (hxs : xs.size ≤ 9223372036854775807) :
    Calls Tryd.prog 31 #[.pointer (some ⟨p, 0, none⟩), .agg #[.int .i64 k, .int .i64 n, .string s], .int .i64 i, .agg #[.int .i64 xk, .int .i64 xn, .string xs]] w fun e w' => e = .returned (.int .i64 (putH (absA As) (k, n, s) i (xk, xn, xs)).2) ∧ HeapOf w' p lim (putH (absA As) (k, n, s) i (xk, xn, xs)).1 F ∧ Kp F w w' := by
  have b0 := Box3.new w k n s 37
  have b1 := Box3.new (w.alloc (.cells #[.int .i64 k, .int .i64 n, .string s] 37)) xk xn xs 37
  rw [World.size_alloc] at b1
  replace b0 := b0.alloc (.cells #[.int .i64 xk, .int .i64 xn, .string xs] 37)
  have B0 : Below w.heap.size w ((w.alloc (.cells #[.int .i64 k, .int .i64 n, .string s] 37)).alloc (.cells #[.int .i64 xk, .int .i64 xn, .string xs] 37)) := ((Below.refl _ w).alloc (Nat.le_refl _) _).alloc (by simp) _
  have z0 : ((w.alloc (.cells #[.int .i64 k, .int .i64 n, .string s] 37)).alloc (.cells #[.int .i64 xk, .int .i64 xn, .string xs] 37)).heap.size = w.heap.size + 2 := by simp
  have HG : Hid (putH (absA As) (k, n, s) i (xk, xn, xs) = if (placeA As (k, n, s) i).2 = 0 then (if mayS (xk, xn, xs) (placeA As (k, n, s) i).1.kind As.length = false then (absA As, 7) else ((absA As).modify (n.toNat - 1) fun a => (a.1, a.2.set i.toNat (xk, xn, xs)), 0)) else (absA As, (placeA As (k, n, s) i).2)) := by
    show putH (absA As) (k, n, s) i (xk, xn, xs) = _
    unfold putH
    rw [place_abs, abs_len]
  generalize putH (absA As) (k, n, s) i (xk, xn, xs) = R at HG ⊢
  have HP : Hid ((placeA As (k, n, s) i).2 = 0 → ∃ (j : Nat) (m : Nat), n = (j : Int) + 1 ∧ i = (m : Int) ∧ mayS (k, n, s) 4 As.length = true ∧ ∃ (hj : j < As.length), (placeA As (k, n, s) i).1 = As[j] ∧ m < As[j].els.length) := place_ok (v := (k, n, s))
  have HH : Hid (HeapAt w p lim As rq rn rg ro av F) := h
  go_enter Tryd.func31, Tryd.ntmps31
  go_wp2_with fail
  generalize (w.alloc (.cells #[.int .i64 k, .int .i64 n, .string s] 37)).alloc (.cells #[.int .i64 xk, .int .i64 xn, .string xs] 37) = X at b0 b1 B0 z0 ⊢
  replace h := h.next B0
  obtain ⟨⟨⟨x0, f0⟩, ⟨x1, f1⟩⟩, x2, f2⟩ := id b0
  have hc := place_any h k n s i hs
  generalize placeA As (k, n, s) i = T at hc HG HP
  obtain ⟨⟨kk, el, qq, gg, oo⟩, t⟩ := T
  unfold arV at hc
  simp only at hc HG HP
  go_wp2_with fail
  refine hc.mono ?_
  rintro e w1 ⟨rfl, hb⟩
  replace h := (h.next hb).next ((Below.refl _ w1).alloc (Nat.le_refl _) (.cells #[.int .i64 kk, .slice qq el.length el.length] 82))
  replace b1 := (b1.below hb (by omega)).alloc (.cells #[.int .i64 kk, .slice qq el.length el.length] 82)
  have b2 := Box2.new w1 (.int .i64 kk) (.slice qq el.length el.length) 82
  have z1 : w.heap.size + 2 ≤ w1.heap.size := by have := hb.size; omega
  replace B0 := (below2 B0 hb).alloc (by omega) (.cells #[.int .i64 kk, .slice qq el.length el.length] 82)
  have z2 : (w1.alloc (.cells #[.int .i64 kk, .slice qq el.length el.length] 82)).heap.size = w1.heap.size + 1 := by simp
  clear hc b0 x0 x1 x2 f0 f1 f2 z0 hb
  generalize hY : w1.alloc (.cells #[.int .i64 kk, .slice qq el.length el.length] 82) = Y at h b1 b2 B0 z2
  by_cases ht : t = 0
  · subst ht
    rw [if_pos rfl] at HG
    have y0 := cell_regrown b1.1.1.1
    have y1 := cell_regrown b1.1.2.1
    have y2 := cell_regrown b1.2.1
    have u0 := cell_regrown b2.1.1
    have u1 := cell_regrown b2.2.1
    have c1 : ∀ d os, Calls Tryd.prog 36 #[.pointer (some ⟨p, 0, none⟩)] (Sort.grow (redrawn Y d) os) fun e w'' => e = .returned (.int .i64 (As.length : Int)) ∧ ∃ z : Regrown, w'' = Sort.grow (redrawn Y z.d) z.os := fun d os =>
      Calls.regrown_of ((count_any (h.next (below_regrown Y d os))).mono fun e w' q => ⟨q.1, by rw [q.2]; exact Below.refl _ _⟩)
    have c2 : ∀ d os, Calls Tryd.prog 52 #[.agg #[.int .i64 xk, .int .i64 xn, .string xs], .int .i64 kk, .int .i64 (As.length : Int)] (Sort.grow (redrawn Y d) os) fun e w'' => e = .returned (.bool (mayS (xk, xn, xs) kk As.length)) ∧ ∃ z : Regrown, w'' = Sort.grow (redrawn Y z.d) z.os := fun d os =>
      Calls.regrown_of (mayBe_any xk xn xs kk As.length _ hxs)
    have HM : Hid (mayS (xk, xn, xs) kk As.length = true → xs.size ≤ 256) := fun q => may_small q
    have HX : Hid (∀ b, b = mayS (xk, xn, xs) kk As.length → b = true → mayS (xk, xn, xs) kk As.length = true) := fun b e q => by rw [← e, q]
    cases hmb : mayS (xk, xn, xs) kk As.length with
    | false =>
      rw [if_pos hmb] at HG
      rw [hmb] at c2
      clear HM HX hmb HP
      go_wp2_with fail
      refine wp_region_quiet_below (by kernel_rfl) (by kernel_rfl) ?_
      repeat (first | go_big_quiet_step (first | with_reducible exact c1 _ _ | with_reducible exact c2 _ _) | quiet_step (first | with_reducible exact c1 _ _ | with_reducible exact c2 _ _))
      refine wpQuiet_nil ?_
      intro _ hw'
      obtain ⟨⟨dq, osq⟩, hw''⟩ := hw'
      subst hw''
      have hY := below_regrown Y dq osq
      change Exit.then _ _ Exit.normal _ (Sort.grow (redrawn Y dq) osq)
      generalize Sort.grow (redrawn Y dq) osq = Y2 at hY ⊢
      clear c1 c2
      clear y0 y1 y2 u0 u1 b1 b2
      go_wp2
      go_ret
      refine ⟨by rw [HG.out]; rfl, ?_, ?_⟩
      · rw [HG.out]
        exact ⟨_, _, _, _, _, _, rfl, h.next hY⟩
      · exact Kp.of (below2 B0 hY)
    | true =>
      rw [if_neg (by rw [hmb]; decide)] at HG
      rw [hmb] at c2
      have hsm := HM.out hmb
      obtain ⟨j, m, hn, hi, -, hj, ha, hm⟩ := HP.out rfl
      clear HM HX HP
      go_wp2_with fail
      refine wp_region_quiet_below (by kernel_rfl) (by kernel_rfl) ?_
      repeat (first | go_big_quiet_step (first | with_reducible exact c1 _ _ | with_reducible exact c2 _ _) | quiet_step (first | with_reducible exact c1 _ _ | with_reducible exact c2 _ _))
      refine wpQuiet_nil ?_
      intro _ hw'
      obtain ⟨⟨dq, osq⟩, hw''⟩ := hw'
      subst hw''
      have hY := below_regrown Y dq osq
      change Exit.then _ _ Exit.normal _ (Sort.grow (redrawn Y dq) osq)
      generalize Sort.grow (redrawn Y dq) osq = Y2 at hY ⊢
      clear c1 c2
      clear y0 y1 y2 u0 u1
      replace h := h.next hY
      replace b1 := b1.below hY (by omega)
      replace b2 := b2.below hY (by omega)
      replace B0 := below2 B0 hY
      have z3 := hY.size
      clear hY
      have hmem : As[j] ∈ As := List.getElem_mem hj
      obtain ⟨e1, e2, e3, e4⟩ := h.els _ hmem (fun q => by rw [q] at hm; simp at hm)
      have hel := h.len.2 _ hmem
      have eg : As[j].g = gg := by rw [← ha]
      have eo : As[j].o = oo := by rw [← ha]
      have ek : As[j].kind = kk := by rw [← ha]
      have eq : As[j].q = qq := by rw [← ha]
      have ee : As[j].els = el := by rw [← ha]
      have HFIN : Hid (∀ w', Below Y2.heap.size Y2 w' → HeapOf (w'.setCells gg (oo + m * 3) (vc (xk, xn, xs))) p lim R.1 F ∧ Kp F w (w'.setCells gg (oo + m * 3) (vc (xk, xn, xs)))) := fun w' hb => by
        have q := HeapAt.put (h.next hb) j m hj hm (xk, xn, xs) (by rw [ek]; exact hmb)
        rw [eg, eo] at q
        refine ⟨⟨_, _, _, _, _, _, ?_, q⟩, Kp.setCells (.inl (eg ▸ e4)) _ _ (Kp.of (below2 B0 hb))⟩
        rw [abs_put, HG.out, hn, hi]
        rw [show ((j : Int) + 1).toNat - 1 = j by omega, Int.toNat_natCast]
      rw [eg, eo, ee] at e3
      rw [eg, eo, ee] at e2
      rw [ee] at hm hel
      rw [eg, eo, eq] at e1
      have e5 := vcs_get e3 m hm
      have hb1 := b1
      generalize el[m] = v at e5
      obtain ⟨vk, vn, vs⟩ := v
      have hR0 : R.2 = 0 := by rw [HG.out]
      have HD : Hid (∀ w', Below Y2.heap.size Y2 w' → (w'.cell? ⟨gg, oo + m * 3, none⟩ = some (.int .i64 vk) ∧ w'.cell? ⟨gg, oo + m * 3 + 1, none⟩ = some (.int .i64 vn) ∧ w'.cell? ⟨gg, oo + m * 3 + 2, none⟩ = some (.string vs)) ∧ (w'.frozen? ⟨gg, oo + m * 3, none⟩ = false ∧ w'.frozen? ⟨gg, oo + m * 3 + 1, none⟩ = false ∧ w'.frozen? ⟨gg, oo + m * 3 + 2, none⟩ = false) ∧ w'.cell? ⟨w1.heap.size, 1, none⟩ = some (.slice qq el.length el.length)) := fun w' hb => by
        have hlt := e2.lt
        have e6 := e2.next hb
        refine ⟨⟨(hb.cell (p := ⟨gg, _, none⟩) hlt).trans (e5 0 _ rfl), (hb.cell (p := ⟨gg, _, none⟩) hlt).trans (e5 1 _ rfl), (hb.cell (p := ⟨gg, _, none⟩) hlt).trans (e5 2 _ rfl)⟩, ⟨e6.unfrozen _, e6.unfrozen _, e6.unfrozen _⟩, ?_⟩
        exact (hb.cell (p := ⟨w1.heap.size, 1, none⟩) (by show w1.heap.size < _; omega)).trans b2.2.1
      obtain ⟨⟨⟨y0, -⟩, ⟨y1, -⟩⟩, y2, -⟩ := id b1
      have u1 := b2.2.1
      have i0 : (0 : Int) ≤ (m : Int) := by omega
      have i1 : (m : Int) < (el.length : Int) := by omega
      have HZ : Hid (Below Y2.heap.size Y2 Y2.drew) := (Below.refl _ _).drew
      subst hi
      subst e1
      clear h b1 b2 hb1 B0 hmem ha eg eo ek eq ee e2 e3 e4 e5 hm HG HH hmb hn
      generalize el.length = ll at *
      go_wp2_with fail
      go_region_with (first
        | (go_at_call 33; refine (copied_any xk xn xs _ (by omega)).mono ?_; rintro e w3 ⟨rfl, hb3⟩; have hb4 : Below Y2.heap.size Y2 w3 := HZ.out.trans (hb3.mono (Nat.le_refl _)); obtain ⟨⟨d0, d1, d2⟩, ⟨g0, g1, g2⟩, v1⟩ := HD.out w3 hb4))
      all_goals
        change Exit.then _ _ Exit.normal _ (w3.setCells gg (oo + m * 3) (vc (xk, xn, xs)))
        obtain ⟨q1, q2⟩ := HFIN.out w3 hb4
        generalize w3.setCells gg (oo + m * 3) (vc (xk, xn, xs)) = Z at q1 q2 ⊢
        clear d0 d1 d2 g0 g1 g2 v1 y0 y1 y2 u1 HD HFIN hb3 hb4
        go_wp2
        go_ret
        exact ⟨by rw [hR0]; rfl, q1, q2⟩
  · rw [if_neg ht] at HG
    clear HP
    have ht' : (t != 0) = true := by simpa using ht
    go_wp2
    go_ret
    refine ⟨by rw [HG.out]; rfl, ?_, ?_⟩
    · rw [HG.out]
      exact ⟨_, _, _, _, _, _, rfl, h⟩
    · exact Kp.of B0
theorem put_any {w : World} {p lim : Nat} {A : Hp} {F : Nat → Prop} (h : HeapOf w p lim A F) (v : V) (i : Int) (x : V) (hs : v.2.2.size ≤ 9223372036854775807) (hx : x.2.2.size ≤ 9223372036854775807) :
    Calls Tryd.prog 31 #[.pointer (some ⟨p, 0, none⟩), .agg #[.int .i64 v.1, .int .i64 v.2.1, .string v.2.2], .int .i64 i, .agg #[.int .i64 x.1, .int .i64 x.2.1, .string x.2.2]] w fun e w' => e = .returned (.int .i64 (putH A v i x).2) ∧ HeapOf w' p lim (putH A v i x).1 F ∧ Kp F w w' := by
  obtain ⟨As, rq, rn, rg, ro, av, rfl, h⟩ := h
  exact put_at h v.1 v.2.1 v.2.2 i hs x.1 x.2.1 x.2.2 hx
end Go.Proofs.YtdcioemjmmhbhaaDoor
