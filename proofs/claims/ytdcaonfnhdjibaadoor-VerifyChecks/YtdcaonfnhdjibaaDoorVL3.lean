import Derived.Test.YtdcaonfnhdjibaaDoorVLf
namespace Go.Proofs.YtdcaonfnhdjibaaDoor
open Go.RowKit

theorem len_take_le (s : List Int) (k : Nat) (h : s.length ≤ 1000) : (s.take k).length ≤ 1000 := by rw [List.length_take]; omega
theorem mem_drop_ok {s : List Int} (hs : ∀ v ∈ s, 1 ≤ v ∧ v < 20) {k : Nat} {t : List Int} (e : s.drop k = t) : ∀ v ∈ t, 1 ≤ v ∧ v < 20 := fun v hv => hs v (List.mem_of_mem_drop (e ▸ hv))
set_option maxRecDepth 100000 in
set_option maxHeartbeats 4000000 in
theorem eff_14 {w : World} {h G B : Nat} {a : Int} {A Bb : Int} {q : Option Addr} {n cap : Nat} {s : List Int} {iq eq tq : Option Addr} {ia ea ta : Nat} {Es : List Em} {c : Cd} {e : En} {sq : Option Addr} {sc : Nat} {hi : Int} {kv ov : Value} (k : LS w h G a (14, A, Bb) q n cap s) (hn : n ≤ 1000) (P : Pce w h G B iq eq tq ia ea ta Es c e sq sc hi kv ov) (hA : 1 ≤ A ∧ A ≤ 15) : Calls Tryd.prog 54 #[.pointer (some ⟨h, 0, none⟩)] w fun z w' => Hid (Eff w h G a (14, A, Bb) (effS c e (14, A, Bb) s) z w') := by
  obtain ⟨R, HR⟩ : ∃ R, Hid (R = effS c e (14, A, Bb) s) := ⟨_, (rfl : effS c e (14, A, Bb) s = _)⟩
  rw [← HR.out]
  replace HR : Hid (R = tjS [1] s (gvS (A + 4))) := HR.out
  obtain ⟨⟨x0, x1⟩, ⟨x2, x3, x4⟩, x5, y5⟩ := k.lk.cs
  obtain ⟨⟨p1, p2⟩, p7, p8⟩ := P.cs
  have c1 := just_one k hn 1
  have cA := fun W : World => arrayOf_any W A (by omega)
  obtain ⟨R1, HR1⟩ : ∃ R1, Hid (R1 = tjS [1] s .ok) := ⟨_, (rfl : tjS [1] s .ok = _)⟩
  rw [← HR1.out] at c1
  replace HR : Hid (R = thn R1 (gvS (A + 4))) := by show R = _; rw [HR.out, tj_thn, ← HR1.out]
  have hl := k.len
  have HLn : Hid (∀ r, R1 = .ok r → r.length ≤ 1000) := fun r hr => by
    have := tj_len (HR1.out.symm.trans hr)
    omega
  clear k P p1 p2 p7 p8 HR1 hl hA
  go_enter Tryd.func54, Tryd.ntmps54
  go_wp2_with fail
  refine c1.mono ?_
  rintro z W1 h1
  cases hR : R1 with
  | error cc =>
    rw [hR] at h1 HR
    obtain ⟨rfl, kp⟩ := h1.out
    go_wp2
    refine ⟨rfl, ?_⟩
    rw [HR.out]
    exact ⟨rfl, kp⟩
  | ok r =>
    rw [hR] at h1 HR
    replace HR : Hid (R = gvS (A + 4) r) := HR.out
    obtain ⟨rfl, ⟨q1, n1, cap1, k1⟩, kp⟩ := h1.out
    have hn1 : n1 ≤ 1000 := by rw [← k1.len]; exact HLn.out r hR
    have c2 := give_any k1 (A + 4) hn1
    have HKp : Hid (Kp (fun i => i = h) w W1) := kp
    obtain ⟨-, ⟨-, z3, -⟩, -⟩ := k1.lk.cs
    have cA1 := cA W1
    clear h1 c1 k1 kp x0 x1 x2 x3 x4 x5 y5 cA
    go_wp2_with fail
    refine cA1.mono ?_
    rintro z W2 ⟨rfl, rfl⟩
    go_wp2_with fail
    refine (c2).mono ?_
    rintro z W9 h9
    have h3 : Eff w h G a (14, A, Bb) R z W9 := by rw [HR.out]; exact h9.out.pre HKp.out
    clear h9
    cases hRz : R with
    | error cz =>
      rw [hRz] at h3
      obtain ⟨rfl, kp⟩ := h3
      go_wp2
      refine ⟨rfl, ?_⟩
      rw [hRz]
      exact ⟨rfl, kp⟩
    | ok rz =>
      rw [hRz] at h3
      obtain ⟨rfl, hq, kp⟩ := h3
      go_wp2
      go_end0
      rw [hRz]
      exact ⟨rfl, hq, kp⟩
set_option maxRecDepth 100000 in
set_option maxHeartbeats 4000000 in
theorem eff_23 {w : World} {h G B : Nat} {a : Int} {A Bb : Int} {q : Option Addr} {n cap : Nat} {s : List Int} {iq eq tq : Option Addr} {ia ea ta : Nat} {Es : List Em} {c : Cd} {e : En} {sq : Option Addr} {sc : Nat} {hi : Int} {kv ov : Value} (k : LS w h G a (23, A, Bb) q n cap s) (hn : n ≤ 1000) (P : Pce w h G B iq eq tq ia ea ta Es c e sq sc hi kv ov) : Calls Tryd.prog 54 #[.pointer (some ⟨h, 0, none⟩)] w fun z w' => Hid (Eff w h G a (23, A, Bb) (effS c e (23, A, Bb) s) z w') := by
  obtain ⟨R, HR⟩ : ∃ R, Hid (R = effS c e (23, A, Bb) s) := ⟨_, (rfl : effS c e (23, A, Bb) s = _)⟩
  rw [← HR.out]
  replace HR : Hid (R = tkS 1 s fun r t => gvS (t.getD 0 0) r) := HR.out
  obtain ⟨⟨x0, x1⟩, ⟨x2, x3, x4⟩, x5, y5⟩ := k.lk.cs
  obtain ⟨⟨p1, p2⟩, p7, p8⟩ := P.cs
  have HN : Hid (s.length ≤ 1000) := by show s.length ≤ 1000; rw [k.len]; exact hn
  have c1 : Calls Tryd.prog 65 #[.pointer (some ⟨h, 0, none⟩), .int .i64 1] w _ := take_any k 1 hn
  clear k P p1 p2 p7 p8
  go_enter Tryd.func54, Tryd.ntmps54
  go_wp2_with fail
  refine c1.mono ?_
  rintro z W1 h1
  rcases h1 with ⟨h2, rfl, rfl⟩ | ⟨h2, q1, cap1, rfl, hw1⟩
  · have HE : Hid (R = .error 141) := HR.out.trans (tk_no h2)
    go_wp2
    refine ⟨rfl, ?_⟩
    rw [HE.out]
    exact ⟨rfl, Kp.refl _ _⟩
  · have HE : Hid (R = _) := HR.out.trans (tk_yes h2)
    have HNr : Hid ((s.take (s.length - 1)).length ≤ 1000) := len_take_le _ _ HN.out
    have HLS : Hid (LS W1 h G a (23, A, Bb) q (n - 1) cap (s.take (s.length - 1)) ∧ Kp (fun i => i = h) w W1) := ⟨hw1.out.ls, hw1.out.kp⟩
    obtain ⟨g, o, u, rfl, et, z0⟩ := hw1.out.st.one
    rw [et] at HE
    replace HE : Hid (R = gvS u (s.take (s.length - 1))) := HE.out
    have c2 := give_any HLS.out.1 u (by omega)
    clear c1 hw1 et HR h2 HN x0 x1 x2 x3 x4 x5 y5
    go_wp2_with fail
    refine (c2).mono ?_
    rintro z W9 h9
    have h3 : Eff w h G a (23, A, Bb) R z W9 := by rw [HE.out]; exact h9.out.pre HLS.out.2
    clear h9
    cases hRz : R with
    | error cz =>
      rw [hRz] at h3
      obtain ⟨rfl, kp⟩ := h3
      go_wp2
      refine ⟨rfl, ?_⟩
      rw [hRz]
      exact ⟨rfl, kp⟩
    | ok rz =>
      rw [hRz] at h3
      obtain ⟨rfl, hq, kp⟩ := h3
      go_wp2
      go_end0
      rw [hRz]
      exact ⟨rfl, hq, kp⟩
set_option maxRecDepth 100000 in
set_option maxHeartbeats 4000000 in
theorem eff_17 {w : World} {h G B : Nat} {a : Int} {A Bb : Int} {q : Option Addr} {n cap : Nat} {s : List Int} {iq eq tq : Option Addr} {ia ea ta : Nat} {Es : List Em} {c : Cd} {e : En} {sq : Option Addr} {sc : Nat} {hi : Int} {kv ov : Value} (k : LS w h G a (17, A, Bb) q n cap s) (hn : n ≤ 1000) (P : Pce w h G B iq eq tq ia ea ta Es c e sq sc hi kv ov) : Calls Tryd.prog 54 #[.pointer (some ⟨h, 0, none⟩)] w fun z w' => Hid (Eff w h G a (17, A, Bb) (effS c e (17, A, Bb) s) z w') := by
  obtain ⟨R, HR⟩ : ∃ R, Hid (R = effS c e (17, A, Bb) s) := ⟨_, (rfl : effS c e (17, A, Bb) s = _)⟩
  rw [← HR.out]
  replace HR : Hid (R = tkS 1 s fun r t => wtS (hasL (t.getD 0 0)) (gvS 1 r)) := HR.out
  obtain ⟨⟨x0, x1⟩, ⟨x2, x3, x4⟩, x5, y5⟩ := k.lk.cs
  obtain ⟨⟨p1, p2⟩, p7, p8⟩ := P.cs
  have HN : Hid (s.length ≤ 1000) := by show s.length ≤ 1000; rw [k.len]; exact hn
  have c1 : Calls Tryd.prog 65 #[.pointer (some ⟨h, 0, none⟩), .int .i64 1] w _ := take_any k 1 hn
  clear k P p1 p2 p7 p8
  go_enter Tryd.func54, Tryd.ntmps54
  go_wp2_with fail
  refine c1.mono ?_
  rintro z W1 h1
  rcases h1 with ⟨h2, rfl, rfl⟩ | ⟨h2, q1, cap1, rfl, hw1⟩
  · have HE : Hid (R = .error 141) := HR.out.trans (tk_no h2)
    go_wp2
    refine ⟨rfl, ?_⟩
    rw [HE.out]
    exact ⟨rfl, Kp.refl _ _⟩
  · have HE : Hid (R = _) := HR.out.trans (tk_yes h2)
    have HNr : Hid ((s.take (s.length - 1)).length ≤ 1000) := len_take_le _ _ HN.out
    have HLS : Hid (LS W1 h G a (17, A, Bb) q (n - 1) cap (s.take (s.length - 1)) ∧ Kp (fun i => i = h) w W1) := ⟨hw1.out.ls, hw1.out.kp⟩
    obtain ⟨g, o, u, rfl, et, z0⟩ := hw1.out.st.one
    rw [et] at HE
    replace HE : Hid (R = wtS (hasL u) (gvS 1 (s.take (s.length - 1)))) := HE.out
    have c2 := hasLength_any W1 u
    have c3 := give_any HLS.out.1 1 (by omega)
    clear c1 hw1 et HR h2 HN x0 x1 x2 x3 x4 x5 y5
    cases hB : hasL u with
    | true =>
      rw [hB] at c2 HE
      replace HE : Hid (R = gvS 1 (s.take (s.length - 1))) := HE.out
      have c4 := want_yes HLS.out.1.lk
      clear hB
      go_wp2_with fail
      refine c2.mono ?_
      rintro z W2 ⟨rfl, rfl⟩
      go_wp2_with fail
      refine c4.mono ?_
      rintro z W3 ⟨v3, rfl, rfl, rfl⟩
      go_wp2_with fail
      refine (c3).mono ?_
      rintro z W9 h9
      have h3 : Eff w h G a (17, A, Bb) R z W9 := by rw [HE.out]; exact h9.out.pre HLS.out.2
      clear h9
      cases hRz : R with
      | error cz =>
        rw [hRz] at h3
        obtain ⟨rfl, kp⟩ := h3
        go_wp2
        refine ⟨rfl, ?_⟩
        rw [hRz]
        exact ⟨rfl, kp⟩
      | ok rz =>
        rw [hRz] at h3
        obtain ⟨rfl, hq, kp⟩ := h3
        go_wp2
        go_end0
        rw [hRz]
        exact ⟨rfl, hq, kp⟩
    | false =>
      rw [hB] at c2 HE
      replace HE : Hid (R = .error 142) := HE.out
      have c4 := want_no HLS.out.1.lk
      clear hB
      go_wp2_with fail
      refine c2.mono ?_
      rintro z W2 ⟨rfl, rfl⟩
      go_wp2_with fail
      refine c4.mono ?_
      rintro z W3 ⟨rfl, rfl⟩
      go_wp2
      refine ⟨rfl, ?_⟩
      rw [HE.out]
      exact ⟨rfl, HLS.out.2⟩
set_option maxRecDepth 100000 in
set_option maxHeartbeats 4000000 in
theorem eff_18 {w : World} {h G B : Nat} {a : Int} {A Bb : Int} {q : Option Addr} {n cap : Nat} {s : List Int} {iq eq tq : Option Addr} {ia ea ta : Nat} {Es : List Em} {c : Cd} {e : En} {sq : Option Addr} {sc : Nat} {hi : Int} {kv ov : Value} (k : LS w h G a (18, A, Bb) q n cap s) (hn : n ≤ 1000) (P : Pce w h G B iq eq tq ia ea ta Es c e sq sc hi kv ov) : Calls Tryd.prog 54 #[.pointer (some ⟨h, 0, none⟩)] w fun z w' => Hid (Eff w h G a (18, A, Bb) (effS c e (18, A, Bb) s) z w') := by
  obtain ⟨R, HR⟩ : ∃ R, Hid (R = effS c e (18, A, Bb) s) := ⟨_, (rfl : effS c e (18, A, Bb) s = _)⟩
  rw [← HR.out]
  replace HR : Hid (R = tkS 1 s fun r t => wtS (!decide (4 < t.getD 0 0)) (gvS 3 r)) := HR.out
  obtain ⟨⟨x0, x1⟩, ⟨x2, x3, x4⟩, x5, y5⟩ := k.lk.cs
  obtain ⟨⟨p1, p2⟩, p7, p8⟩ := P.cs
  have HN : Hid (s.length ≤ 1000) := by show s.length ≤ 1000; rw [k.len]; exact hn
  have c1 : Calls Tryd.prog 65 #[.pointer (some ⟨h, 0, none⟩), .int .i64 1] w _ := take_any k 1 hn
  clear k P p1 p2 p7 p8
  go_enter Tryd.func54, Tryd.ntmps54
  go_wp2_with fail
  refine c1.mono ?_
  rintro z W1 h1
  rcases h1 with ⟨h2, rfl, rfl⟩ | ⟨h2, q1, cap1, rfl, hw1⟩
  · have HE : Hid (R = .error 141) := HR.out.trans (tk_no h2)
    go_wp2
    refine ⟨rfl, ?_⟩
    rw [HE.out]
    exact ⟨rfl, Kp.refl _ _⟩
  · have HE : Hid (R = _) := HR.out.trans (tk_yes h2)
    have HNr : Hid ((s.take (s.length - 1)).length ≤ 1000) := len_take_le _ _ HN.out
    have HLS : Hid (LS W1 h G a (18, A, Bb) q (n - 1) cap (s.take (s.length - 1)) ∧ Kp (fun i => i = h) w W1) := ⟨hw1.out.ls, hw1.out.kp⟩
    obtain ⟨g, o, u, rfl, et, z0⟩ := hw1.out.st.one
    rw [et] at HE
    replace HE : Hid (R = wtS (!decide (4 < u)) (gvS 3 (s.take (s.length - 1)))) := HE.out
    have c2 := isPlain_any W1 u
    have c3 := give_any HLS.out.1 3 (by omega)
    clear c1 hw1 et HR h2 HN x0 x1 x2 x3 x4 x5 y5
    cases hB : !decide (4 < u) with
    | true =>
      rw [hB] at c2 HE
      replace HE : Hid (R = gvS 3 (s.take (s.length - 1))) := HE.out
      have c4 := want_yes HLS.out.1.lk
      clear hB
      go_wp2_with fail
      refine c2.mono ?_
      rintro z W2 ⟨rfl, rfl⟩
      go_wp2_with fail
      refine c4.mono ?_
      rintro z W3 ⟨v3, rfl, rfl, rfl⟩
      go_wp2_with fail
      refine (c3).mono ?_
      rintro z W9 h9
      have h3 : Eff w h G a (18, A, Bb) R z W9 := by rw [HE.out]; exact h9.out.pre HLS.out.2
      clear h9
      cases hRz : R with
      | error cz =>
        rw [hRz] at h3
        obtain ⟨rfl, kp⟩ := h3
        go_wp2
        refine ⟨rfl, ?_⟩
        rw [hRz]
        exact ⟨rfl, kp⟩
      | ok rz =>
        rw [hRz] at h3
        obtain ⟨rfl, hq, kp⟩ := h3
        go_wp2
        go_end0
        rw [hRz]
        exact ⟨rfl, hq, kp⟩
    | false =>
      rw [hB] at c2 HE
      replace HE : Hid (R = .error 142) := HE.out
      have c4 := want_no HLS.out.1.lk
      clear hB
      go_wp2_with fail
      refine c2.mono ?_
      rintro z W2 ⟨rfl, rfl⟩
      go_wp2_with fail
      refine c4.mono ?_
      rintro z W3 ⟨rfl, rfl⟩
      go_wp2
      refine ⟨rfl, ?_⟩
      rw [HE.out]
      exact ⟨rfl, HLS.out.2⟩
set_option maxRecDepth 100000 in
set_option maxHeartbeats 4000000 in
theorem eff_15 {w : World} {h G B : Nat} {a : Int} {A Bb : Int} {q : Option Addr} {n cap : Nat} {s : List Int} {iq eq tq : Option Addr} {ia ea ta : Nat} {Es : List Em} {c : Cd} {e : En} {sq : Option Addr} {sc : Nat} {hi : Int} {kv ov : Value} (k : LS w h G a (15, A, Bb) q n cap s) (hn : n ≤ 1000) (P : Pce w h G B iq eq tq ia ea ta Es c e sq sc hi kv ov) (hs : ∀ v ∈ s, 1 ≤ v ∧ v < 20) : Calls Tryd.prog 54 #[.pointer (some ⟨h, 0, none⟩)] w fun z w' => Hid (Eff w h G a (15, A, Bb) (effS c e (15, A, Bb) s) z w') := by
  obtain ⟨R, HR⟩ : ∃ R, Hid (R = effS c e (15, A, Bb) s) := ⟨_, (rfl : effS c e (15, A, Bb) s = _)⟩
  rw [← HR.out]
  replace HR : Hid (R = tkS 2 s fun r t => wtS (hasL (t.getD 0 0) && decide (t.getD 1 0 = 1)) (gvS (eltS (t.getD 0 0)) r)) := HR.out
  obtain ⟨⟨x0, x1⟩, ⟨x2, x3, x4⟩, x5, y5⟩ := k.lk.cs
  obtain ⟨⟨p1, p2⟩, p7, p8⟩ := P.cs
  have HN : Hid (s.length ≤ 1000) := by show s.length ≤ 1000; rw [k.len]; exact hn
  have c1 : Calls Tryd.prog 65 #[.pointer (some ⟨h, 0, none⟩), .int .i64 2] w _ := take_any k 2 hn
  have HS : Hid (∀ v ∈ s, 1 ≤ v ∧ v < 20) := hs
  clear hs
  clear k P p1 p2 p7 p8
  go_enter Tryd.func54, Tryd.ntmps54
  go_wp2_with fail
  refine c1.mono ?_
  rintro z W1 h1
  rcases h1 with ⟨h2, rfl, rfl⟩ | ⟨h2, q1, cap1, rfl, hw1⟩
  · have HE : Hid (R = .error 141) := HR.out.trans (tk_no h2)
    go_wp2
    refine ⟨rfl, ?_⟩
    rw [HE.out]
    exact ⟨rfl, Kp.refl _ _⟩
  · have HE : Hid (R = _) := HR.out.trans (tk_yes h2)
    have HNr : Hid ((s.take (s.length - 2)).length ≤ 1000) := len_take_le _ _ HN.out
    have HLS : Hid (LS W1 h G a (15, A, Bb) q (n - 2) cap (s.take (s.length - 2)) ∧ Kp (fun i => i = h) w W1) := ⟨hw1.out.ls, hw1.out.kp⟩
    obtain ⟨g, o, u, v, rfl, et, z0, z1⟩ := hw1.out.st.two
    have hu := mem_drop_ok HS.out et u (by simp)
    rw [et] at HE
    replace HE : Hid (R = wtS (hasL u && decide (v = 1)) (gvS (eltS u) (s.take (s.length - 2)))) := HE.out
    have c2 := hasLength_any W1 u
    have c3 := give_any HLS.out.1 (eltS u) (by omega)
    have c5 := elementOf_any W1 u (by omega)
    have cY := want_yes HLS.out.1.lk
    have cN := want_no HLS.out.1.lk
    clear c1 hw1 et HR h2 HN x0 x1 x2 x3 x4 x5 y5 hu HS
    cases hB : hasL u with
    | true =>
      rw [hB, Bool.true_and] at HE
      rw [hB] at c2
      clear hB
      by_cases hv : v = 1
      · subst hv
        replace HE : Hid (R = gvS (eltS u) (s.take (s.length - 2))) := HE.out
        generalize eltS u = eu at *
        go_wp2_with fail
        refine c2.mono ?_
        rintro z W2 ⟨rfl, rfl⟩
        go_wp2_with fail
        refine cY.mono ?_
        rintro z W3 ⟨v3, rfl, rfl, rfl⟩
        clear cY cN c2
        go_wp2_with fail
        refine c5.mono ?_
        rintro z W4 ⟨rfl, rfl⟩
        go_wp2_with fail
        refine (c3).mono ?_
        rintro z W9 h9
        have h3 : Eff w h G a (15, A, Bb) R z W9 := by rw [HE.out]; exact h9.out.pre HLS.out.2
        clear h9
        cases hRz : R with
        | error cz =>
          rw [hRz] at h3
          obtain ⟨rfl, kp⟩ := h3
          go_wp2
          refine ⟨rfl, ?_⟩
          rw [hRz]
          exact ⟨rfl, kp⟩
        | ok rz =>
          rw [hRz] at h3
          obtain ⟨rfl, hq, kp⟩ := h3
          go_wp2
          go_end0
          rw [hRz]
          exact ⟨rfl, hq, kp⟩
      · replace HE : Hid (R = .error 142) := by show R = _; rw [HE.out, decide_eq_false hv]; rfl
        have hv1 : (v == 1) = false := by rw [beq_eq_false_iff_ne]; exact hv
        go_wp2_with fail
        refine c2.mono ?_
        rintro z W2 ⟨rfl, rfl⟩
        go_wp2_with fail
        refine cN.mono ?_
        rintro z W3 ⟨rfl, rfl⟩
        go_wp2
        refine ⟨rfl, ?_⟩
        rw [HE.out]
        exact ⟨rfl, HLS.out.2⟩
    | false =>
      rw [hB, Bool.false_and] at HE
      rw [hB] at c2
      clear hB
      replace HE : Hid (R = .error 142) := HE.out
      go_wp2_with fail
      refine c2.mono ?_
      rintro z W2 ⟨rfl, rfl⟩
      go_wp2_with fail
      refine cN.mono ?_
      rintro z W3 ⟨rfl, rfl⟩
      go_wp2
      refine ⟨rfl, ?_⟩
      rw [HE.out]
      exact ⟨rfl, HLS.out.2⟩
end Go.Proofs.YtdcaonfnhdjibaaDoor
namespace Go.Proofs.YtdcaonfnhdjibaaDoor
open Go.RowKit

theorem callGi (a b : Value) (w : World) : (callFunc 63 #[a, b]).run Tryd.prog w = .ok (.enter 63 #[a, b]) w := by kernel_rfl
theorem callTj (a b : Value) (w : World) : (callFunc 64 #[a, b]).run Tryd.prog w = .ok (.enter 64 #[a, b]) w := by kernel_rfl
theorem callCl (a b : Value) (w : World) : (callFunc 68 #[a, b]).run Tryd.prog w = .ok (.enter 68 #[a, b]) w := by kernel_rfl
theorem Pce.sort {w : World} {h G B : Nat} {iq eq tq : Option Addr} {ia ea ta : Nat} {Es : List Em} {c : Cd} {e : En} {sq : Option Addr} {sc : Nat} {hi : Int} {kv ov : Value} (p : Pce w h G B iq eq tq ia ea ta Es c e sq sc hi kv ov) (i : Nat) (hi' : i < e.sorts.length) : ∃ g o, sq = some ⟨g, o, none⟩ ∧ g < w.heap.size ∧ w.cell? ⟨g, o + i, none⟩ = some (.int .i64 (e.sorts.getD i 0)) := by
  obtain ⟨g, o, h1, h2, h3⟩ := p.so.row (by omega)
  refine ⟨g, o, h1, h2.1, h3 i _ ?_⟩
  unfold sv
  rw [List.getElem?_map, List.getD_eq_getElem?_getD, List.getElem?_eq_getElem hi']
  rfl
theorem Eff.no {w w' : World} {h G : Nat} {a : Int} {x : In} {k : Int} {e : Ending} (f : Eff w h G a x (.error k) e w') : e = rfs k a ∧ Kp (fun i => i = h) w w' := f
theorem Eff.yes {w w' : World} {h G : Nat} {a : Int} {x : In} {s : List Int} {e : Ending} (f : Eff w h G a x (.ok s) e w') : e = .returned (.tuple #[]) ∧ (∃ q n cap, LS w' h G a x q n cap s) ∧ Kp (fun i => i = h) w w' := f
set_option maxRecDepth 100000 in
set_option maxHeartbeats 4000000 in
theorem eff_4 {w : World} {h G B : Nat} {a : Int} {A Bb : Int} {q : Option Addr} {n cap : Nat} {s : List Int} {iq eq tq : Option Addr} {ia ea ta : Nat} {Es : List Em} {c : Cd} {e : En} {sq : Option Addr} {sc : Nat} {hi : Int} {kv ov : Value} (k : LS w h G a (4, A, Bb) q n cap s) (hn : n ≤ 1000) (P : Pce w h G B iq eq tq ia ea ta Es c e sq sc hi kv ov) (hA : 0 ≤ A ∧ A < (e.sorts.length : Int)) : Calls Tryd.prog 54 #[.pointer (some ⟨h, 0, none⟩)] w fun z w' => Hid (Eff w h G a (4, A, Bb) (effS c e (4, A, Bb) s) z w') := by
  obtain ⟨R, HR⟩ : ∃ R, Hid (R = effS c e (4, A, Bb) s) := ⟨_, (rfl : effS c e (4, A, Bb) s = _)⟩
  rw [← HR.out]
  replace HR : Hid (R = gvS (e.sorts.getD A.toNat 0) s) := HR.out
  obtain ⟨⟨x0, x1⟩, ⟨x2, x3, x4⟩, x5, y5⟩ := k.lk.cs
  obtain ⟨⟨p1, p2⟩, p7, p8⟩ := P.cs
  obtain ⟨j, hj⟩ : ∃ j : Nat, A = (j : Int) := ⟨A.toNat, by omega⟩
  obtain ⟨g, o, rfl, hg, z0⟩ := P.sort j (by omega)
  have e1 : A.toNat = j := by omega
  rw [e1] at HR
  generalize e.sorts.getD j 0 = v at *
  have j0 : (0 : Int) ≤ (j : Int) := by omega
  have j1 : (j : Int) < (e.sorts.length : Int) := by omega
  have bd : Below w.heap.size w w.drew := (Below.refl _ w).drew
  have c1 := give_any (k.next bd) v hn
  rw [← HR.out] at c1
  have HKp : Hid (Kp (fun i => i = h) w w.drew) := Kp.of bd
  have a0 : w.drew.cell? ⟨h, 0, none⟩ = _ := x0
  have a3 : w.drew.cell? ⟨h, 3, none⟩ = _ := x3
  have a7 : w.drew.cell? ⟨G, 7, none⟩ = _ := p7
  have az : w.drew.cell? ⟨g, o + j, none⟩ = _ := z0
  rw [hj] at a3 x3
  generalize e.sorts.length = sl at *
  clear k P p1 p2 p8 hA hg e1 bd
  subst hj
  cases hRz : R with
  | error cz =>
    rw [hRz] at c1
    have c2 : Calls Tryd.prog 63 #[.pointer (some ⟨h, 0, none⟩), .int .i64 v] w.drew fun z w' => z = rfs cz a ∧ Hid (Kp (fun i => i = h) w w') := c1.mono fun z w' hh => ⟨hh.out.no.1, HKp.out.trans hh.out.no.2 fun _ _ e => e⟩
    clear c1 HR
    go_enter Tryd.func54, Tryd.ntmps54
    go_wp2_with fail
    first
      | (go_region_law (first
          | (refine step_callX (by rfl) 63 [.tmp 26, .tmp 41] #[121, 45] [.pointer (some ⟨h, 0, none⟩), .int .i64 v] (by rfl) (by rfl) (callGi _ _) cz a _ c2 (fun W8 h8 => ⟨rfl, rfl, h8.out⟩) ?_; intro v8 W8 hf8)
          | fail))
      | fail
    all_goals exact hf8.elim
  | ok rz =>
    rw [hRz] at c1
    have c2 : Calls Tryd.prog 63 #[.pointer (some ⟨h, 0, none⟩), .int .i64 v] w.drew fun z w' => ∃ u, z = .returned u ∧ (u = .tuple #[] ∧ Hid ((∃ q n cap, LS w' h G a (4, (j : Int), Bb) q n cap rz) ∧ Kp (fun i => i = h) w w')) := c1.mono fun z w' hh => ⟨_, hh.out.yes.1, rfl, hh.out.yes.2.1, HKp.out.trans hh.out.yes.2.2 fun _ _ e => e⟩
    clear c1 HR
    go_enter Tryd.func54, Tryd.ntmps54
    go_wp2_with fail
    first
      | (go_region_law (first
          | (refine step_callG (by rfl) 63 [.tmp 26, .tmp 41] #[121, 45] [.pointer (some ⟨h, 0, none⟩), .int .i64 v] (by rfl) (by rfl) (callGi _ _) _ c2 ?_; rintro b8 W8 ⟨rfl, h8⟩)
          | fail))
      | fail
    all_goals
      go_wp2
      go_end0
      exact ⟨rfl, h8.out⟩
end Go.Proofs.YtdcaonfnhdjibaaDoor
namespace Go.Proofs.YtdcaonfnhdjibaaDoor
open Go.RowKit

theorem callIA (a : Value) (w : World) : (callFunc 73 #[a]).run Tryd.prog w = .ok (.enter 73 #[a]) w := by kernel_rfl
theorem callEO (a : Value) (w : World) : (callFunc 72 #[a]).run Tryd.prog w = .ok (.enter 72 #[a]) w := by kernel_rfl
theorem Pce.ent {w : World} {h G B : Nat} {iq eq tq : Option Addr} {ia ea ta : Nat} {Es : List Em} {c : Cd} {e : En} {sq : Option Addr} {sc : Nat} {hi : Int} {kv ov : Value} (p : Pce w h G B iq eq tq ia ea ta Es c e sq sc hi kv ov) (i : Nat) (hi' : i < c.ens.length) : ∃ g o dq dc, eq = some ⟨g, o, none⟩ ∧ w.rangeAt g (o + i * 5) [.string (enAt c.ens i).name, .int .i64 (enAt c.ens i).start, .int .i64 (enAt c.ens i).params, .slice dq (enAt c.ens i).sorts.length dc, .int .i64 (enAt c.ens i).result] ∧ SoM w h dq dc (enAt c.ens i).sorts := by
  have hl : Es.length = c.ens.length := p.m.len
  have hiE : i < Es.length := by omega
  obtain ⟨g, o, h1, h2, h3⟩ := p.m.er (by omega)
  have hm := List.getElem_mem hiE
  have ee : Es[i].1 = enAt c.ens i := by
    unfold enAt
    rw [← p.m.en, List.getD_eq_getElem?_getD, List.getElem?_map, List.getElem?_eq_getElem hiE]
    rfl
  refine ⟨g, o, Es[i].2.1, Es[i].2.2, h1, fun j v hv => ?_, ?_⟩
  · have hj : j < 5 := (List.getElem?_eq_some_iff.1 hv).1
    have e1 := flat_at ec 5 (fun _ => rfl) Es i j hiE hj
    rw [← ee] at hv
    have := h3 (i * 5 + j) v (e1.trans hv)
    rw [← Nat.add_assoc] at this
    exact this
  · rw [← ee]
    refine ⟨fun h0 => ?_, (p.cp _ hm).2, (p.cp _ hm).1⟩
    obtain ⟨g', o', k1, k2, k3⟩ := (p.m.sr _ hm).1 h0
    exact ⟨g', o', k1, ⟨Nat.lt_of_lt_of_le k2 p.bh.2, fun e => by have := p.bh.1; omega⟩, k3⟩
set_option maxRecDepth 100000 in
set_option maxHeartbeats 4000000 in
theorem eff_5 {w : World} {h G B : Nat} {a : Int} {A Bb : Int} {q : Option Addr} {n cap : Nat} {s : List Int} {iq eq tq : Option Addr} {ia ea ta : Nat} {Es : List Em} {c : Cd} {e : En} {sq : Option Addr} {sc : Nat} {hi : Int} {kv ov : Value} (k : LS w h G a (5, A, Bb) q n cap s) (hn : n ≤ 1000) (P : Pce w h G B iq eq tq ia ea ta Es c e sq sc hi kv ov) (hA : 0 ≤ A ∧ A < (e.sorts.length : Int)) : Calls Tryd.prog 54 #[.pointer (some ⟨h, 0, none⟩)] w fun z w' => Hid (Eff w h G a (5, A, Bb) (effS c e (5, A, Bb) s) z w') := by
  obtain ⟨R, HR⟩ : ∃ R, Hid (R = effS c e (5, A, Bb) s) := ⟨_, (rfl : effS c e (5, A, Bb) s = _)⟩
  rw [← HR.out]
  replace HR : Hid (R = tjS [e.sorts.getD A.toNat 0] s .ok) := HR.out
  obtain ⟨⟨x0, x1⟩, ⟨x2, x3, x4⟩, x5, y5⟩ := k.lk.cs
  obtain ⟨⟨p1, p2⟩, p7, p8⟩ := P.cs
  obtain ⟨j, hj⟩ : ∃ j : Nat, A = (j : Int) := ⟨A.toNat, by omega⟩
  obtain ⟨g, o, rfl, hg, z0⟩ := P.sort j (by omega)
  have e1 : A.toNat = j := by omega
  rw [e1] at HR
  generalize e.sorts.getD j 0 = v at *
  have j0 : (0 : Int) ≤ (j : Int) := by omega
  have j1 : (j : Int) < (e.sorts.length : Int) := by omega
  have bd : Below w.heap.size w w.drew := (Below.refl _ w).drew
  have c1 := just_one (k.next bd) hn v
  rw [← HR.out] at c1
  have HKp : Hid (Kp (fun i => i = h) w w.drew) := Kp.of bd
  have a0 : w.drew.cell? ⟨h, 0, none⟩ = _ := x0
  have a3 : w.drew.cell? ⟨h, 3, none⟩ = _ := x3
  have a7 : w.drew.cell? ⟨G, 7, none⟩ = _ := p7
  have az : w.drew.cell? ⟨g, o + j, none⟩ = _ := z0
  rw [hj] at a3 x3
  generalize e.sorts.length = sl at *
  clear k P p1 p2 p8 hA hg e1 bd
  subst hj
  cases hRz : R with
  | error cz =>
    rw [hRz] at c1
    have c2 : Calls Tryd.prog 64 #[.pointer (some ⟨h, 0, none⟩), .slice (some ⟨w.heap.size, 0, none⟩) 1 1] (w.drew.alloc (.cells #[.int .i64 v] 45)) fun z w' => z = rfs cz a ∧ Hid (Kp (fun i => i = h) w w') := c1.mono fun z w' hh => ⟨hh.out.no.1, HKp.out.trans hh.out.no.2 fun _ _ e => e⟩
    clear c1 HR
    go_enter Tryd.func54, Tryd.ntmps54
    go_wp2_with fail
    first
      | (go_region_law (first
          | (refine step_callX (by rfl) 64 [.tmp 45, .tmp 61] #[121, 35] [.pointer (some ⟨h, 0, none⟩), .slice (some ⟨w.heap.size, 0, none⟩) 1 1] (by rfl) (by rfl) (callTj _ _) cz a _ c2 (fun W8 h8 => ⟨rfl, rfl, h8.out⟩) ?_; intro v8 W8 hf8)
          | fail))
      | fail
    all_goals exact hf8.elim
  | ok rz =>
    rw [hRz] at c1
    have c2 : Calls Tryd.prog 64 #[.pointer (some ⟨h, 0, none⟩), .slice (some ⟨w.heap.size, 0, none⟩) 1 1] (w.drew.alloc (.cells #[.int .i64 v] 45)) fun z w' => ∃ u, z = .returned u ∧ (u = .tuple #[] ∧ Hid ((∃ q n cap, LS w' h G a (5, (j : Int), Bb) q n cap rz) ∧ Kp (fun i => i = h) w w')) := c1.mono fun z w' hh => ⟨_, hh.out.yes.1, rfl, hh.out.yes.2.1, HKp.out.trans hh.out.yes.2.2 fun _ _ e => e⟩
    clear c1 HR
    go_enter Tryd.func54, Tryd.ntmps54
    go_wp2_with fail
    first
      | (go_region_law (first
          | (refine step_callG (by rfl) 64 [.tmp 45, .tmp 61] #[121, 35] [.pointer (some ⟨h, 0, none⟩), .slice (some ⟨w.heap.size, 0, none⟩) 1 1] (by rfl) (by rfl) (callTj _ _) _ c2 ?_; rintro b8 W8 ⟨rfl, h8⟩)
          | fail))
      | fail
    all_goals
      go_wp2
      go_end0
      exact ⟨rfl, h8.out⟩
set_option maxRecDepth 100000 in
set_option maxHeartbeats 4000000 in
theorem eff_11 {w : World} {h G B : Nat} {a : Int} {A Bb : Int} {q : Option Addr} {n cap : Nat} {s : List Int} {iq eq tq : Option Addr} {ia ea ta : Nat} {Es : List Em} {c : Cd} {e : En} {sq : Option Addr} {sc : Nat} {hi : Int} {kv ov : Value} (k : LS w h G a (11, A, Bb) q n cap s) (hn : n ≤ 1000) (P : Pce w h G B iq eq tq ia ea ta Es c e sq sc hi kv ov) (hA : 0 ≤ A ∧ A < (c.ens.length : Int)) (hd : 0 ≤ (enAt c.ens A.toNat).params ∧ (enAt c.ens A.toNat).params ≤ ((enAt c.ens A.toNat).sorts.length : Int)) : Calls Tryd.prog 54 #[.pointer (some ⟨h, 0, none⟩)] w fun z w' => Hid (Eff w h G a (11, A, Bb) (effS c e (11, A, Bb) s) z w') := by
  obtain ⟨R, HR⟩ : ∃ R, Hid (R = effS c e (11, A, Bb) s) := ⟨_, (rfl : effS c e (11, A, Bb) s = _)⟩
  rw [← HR.out]
  replace HR : Hid (R = tjS ((enAt c.ens A.toNat).sorts.take (enAt c.ens A.toNat).params.toNat) s fun r => if (enAt c.ens A.toNat).result = 0 then .ok r else gvS (enAt c.ens A.toNat).result r) := HR.out
  obtain ⟨⟨x0, x1⟩, ⟨x2, x3, x4⟩, x5, y5⟩ := k.lk.cs
  obtain ⟨⟨p1, p2⟩, p7, p8⟩ := P.cs
  obtain ⟨j, hj⟩ : ∃ j : Nat, A = (j : Int) := ⟨A.toNat, by omega⟩
  have e1 : A.toNat = j := by omega
  rw [e1] at HR hd
  obtain ⟨g, o, dq, dc, rfl, hr, hS⟩ := P.ent j (by omega)
  generalize enAt c.ens j = d at *
  have j0 : (0 : Int) ≤ (j : Int) := by omega
  have j1 : (j : Int) < (c.ens.length : Int) := by omega
  have bd : Below w.heap.size w w.drew := (Below.refl _ w).drew
  have c1 := call_any (k.next bd) hn d (hS.next (Kp.of bd)) hd
  rw [← HR.out] at c1
  have HKp : Hid (Kp (fun i => i = h) w w.drew) := Kp.of bd
  have a0 : w.drew.cell? ⟨h, 0, none⟩ = _ := x0
  have a3 : w.drew.cell? ⟨h, 3, none⟩ = _ := x3
  have a7 : w.drew.cell? ⟨G, 1, none⟩ = _ := p1
  have az0 : w.drew.cell? ⟨g, o + j * 5, none⟩ = some (.string d.name) := hr 0 _ rfl
  have az1 : w.drew.cell? ⟨g, o + j * 5 + 1, none⟩ = some (.int .i64 d.start) := hr 1 _ rfl
  have az2 : w.drew.cell? ⟨g, o + j * 5 + 2, none⟩ = some (.int .i64 d.params) := hr 2 _ rfl
  have az3 : w.drew.cell? ⟨g, o + j * 5 + 3, none⟩ = some (.slice dq d.sorts.length dc) := hr 3 _ rfl
  have az4 : w.drew.cell? ⟨g, o + j * 5 + 4, none⟩ = some (.int .i64 d.result) := hr 4 _ rfl
  rw [hj] at a3 x3
  generalize c.ens.length = el at *
  clear k P p7 p2 p8 hA e1 bd hr hS hd
  subst hj
  cases hRz : R with
  | error cz =>
    rw [hRz] at c1
    have c2 : Calls Tryd.prog 68 #[.pointer (some ⟨h, 0, none⟩), .agg #[.string d.name, .int .i64 d.start, .int .i64 d.params, .slice dq d.sorts.length dc, .int .i64 d.result]] w.drew fun z w' => z = rfs cz a ∧ Hid (Kp (fun i => i = h) w w') := c1.mono fun z w' hh => ⟨hh.out.no.1, HKp.out.trans hh.out.no.2 fun _ _ e => e⟩
    clear c1 HR
    go_enter Tryd.func54, Tryd.ntmps54
    go_wp2_with fail
    first
      | (go_region_law (first
          | (refine step_callX (by rfl) 68 [.tmp 92, .tmp 107] #[121, 47] [.pointer (some ⟨h, 0, none⟩), .agg #[.string d.name, .int .i64 d.start, .int .i64 d.params, .slice dq d.sorts.length dc, .int .i64 d.result]] (by rfl) (by rfl) (callCl _ _) cz a _ c2 (fun W8 h8 => ⟨rfl, rfl, h8.out⟩) ?_; intro v8 W8 hf8)
          | fail))
      | fail
    all_goals exact hf8.elim
  | ok rz =>
    rw [hRz] at c1
    have c2 : Calls Tryd.prog 68 #[.pointer (some ⟨h, 0, none⟩), .agg #[.string d.name, .int .i64 d.start, .int .i64 d.params, .slice dq d.sorts.length dc, .int .i64 d.result]] w.drew fun z w' => ∃ u, z = .returned u ∧ (u = .tuple #[] ∧ Hid ((∃ q n cap, LS w' h G a (11, (j : Int), Bb) q n cap rz) ∧ Kp (fun i => i = h) w w')) := c1.mono fun z w' hh => ⟨_, hh.out.yes.1, rfl, hh.out.yes.2.1, HKp.out.trans hh.out.yes.2.2 fun _ _ e => e⟩
    clear c1 HR
    go_enter Tryd.func54, Tryd.ntmps54
    go_wp2_with fail
    first
      | (go_region_law (first
          | (refine step_callG (by rfl) 68 [.tmp 92, .tmp 107] #[121, 47] [.pointer (some ⟨h, 0, none⟩), .agg #[.string d.name, .int .i64 d.start, .int .i64 d.params, .slice dq d.sorts.length dc, .int .i64 d.result]] (by rfl) (by rfl) (callCl _ _) _ c2 ?_; rintro b8 W8 ⟨rfl, h8⟩)
          | fail))
      | fail
    all_goals
      go_wp2
      go_end0
      exact ⟨rfl, h8.out⟩
end Go.Proofs.YtdcaonfnhdjibaaDoor
namespace Go.Proofs.YtdcaonfnhdjibaaDoor
open Go.RowKit

theorem isArray_v (w : World) (v : Int) : Calls Tryd.prog 73 #[.int .i64 v] w fun e w' => ∃ u, e = .returned u ∧ (u = .bool (decide (4 < v)) ∧ w' = w) := (isArray_any w v).mono fun _ _ ⟨h1, h2⟩ => ⟨_, h1, rfl, h2⟩
theorem elementOf_v (w : World) (v : Int) (h : -1000 ≤ v ∧ v ≤ 1000) : Calls Tryd.prog 72 #[.int .i64 v] w fun e w' => ∃ u, e = .returned u ∧ (u = .int .i64 (eltS v) ∧ w' = w) := (elementOf_any w v h).mono fun _ _ ⟨h1, h2⟩ => ⟨_, h1, rfl, h2⟩
theorem all_take {p : Int → Bool} {t : List Int} {i : Nat} (hi : i < t.length) : (t.take (i + 1)).all p = ((t.take i).all p && p (t.getD i 0)) := by
  rw [List.take_add_one, List.getElem?_eq_getElem hi, List.all_append, List.getD_eq_getElem?_getD, List.getElem?_eq_getElem hi]
  simp
set_option maxRecDepth 100000 in
set_option maxHeartbeats 4000000 in
theorem eff_19 {w : World} {h G B : Nat} {a : Int} {A Bb : Int} {q : Option Addr} {n cap : Nat} {s : List Int} {iq eq tq : Option Addr} {ia ea ta : Nat} {Es : List Em} {c : Cd} {e : En} {sq : Option Addr} {sc : Nat} {hi : Int} {kv ov : Value} (k : LS w h G a (19, A, Bb) q n cap s) (hn : n ≤ 1000) (P : Pce w h G B iq eq tq ia ea ta Es c e sq sc hi kv ov) (hA : 0 ≤ A) : Calls Tryd.prog 54 #[.pointer (some ⟨h, 0, none⟩)] w fun z w' => Hid (Eff w h G a (19, A, Bb) (effS c e (19, A, Bb) s) z w') := by
  obtain ⟨R, HR⟩ : ∃ R, Hid (R = effS c e (19, A, Bb) s) := ⟨_, (rfl : effS c e (19, A, Bb) s = _)⟩
  rw [← HR.out]
  replace HR : Hid (R = tkS A.toNat s fun r t => wtS (t.all fun v => !decide (4 < v)) (.ok r)) := HR.out
  obtain ⟨⟨x0, x1⟩, ⟨x2, x3, x4⟩, x5, y5⟩ := k.lk.cs
  obtain ⟨⟨p1, p2⟩, p7, p8⟩ := P.cs
  obtain ⟨m, hj⟩ : ∃ m : Nat, A = (m : Int) := ⟨A.toNat, by omega⟩
  have e1 : A.toNat = m := by omega
  rw [e1] at HR
  have c1 := take_any k m hn
  have HN : Hid (s.length ≤ 1000) := by show s.length ≤ 1000; rw [k.len]; exact hn
  rw [hj] at x3
  clear k P p1 p2 p7 p8 e1 hA
  subst hj
  go_enter Tryd.func54, Tryd.ntmps54
  go_wp2_with fail
  refine c1.mono ?_
  rintro z W1 h1
  rcases h1 with ⟨h2, rfl, rfl⟩ | ⟨h2, q1, cap1, rfl, hw1⟩
  · have HE : Hid (R = .error 141) := HR.out.trans (tk_no h2)
    go_wp2
    refine ⟨rfl, ?_⟩
    rw [HE.out]
    exact ⟨rfl, Kp.refl _ _⟩
  · have HE : Hid (R = _) := HR.out.trans (tk_yes h2)
    obtain ⟨t, HT⟩ : ∃ t, Hid (t = s.drop (s.length - m)) := ⟨_, (rfl : s.drop (s.length - m) = _)⟩
    rw [← HT.out] at HE
    replace HE : Hid (R = wtS (t.all fun v => !decide (4 < v)) (.ok (s.take (s.length - m)))) := HE.out
    have HS : Hid (Stk W1 q1 m cap1 t) := by have := hw1.out.st; rw [← HT.out] at this; exact this
    have hm1 : m ≤ 1000 := by have := HN.out; omega
    have HLS : Hid (LS W1 h G a (19, (m : Int), Bb) q (n - m) cap (s.take (s.length - m)) ∧ Kp (fun i => i = h) w W1) := ⟨hw1.out.ls, hw1.out.kp⟩
    have HL : Hid (t.length = m) := by obtain ⟨g, o, _, hl, -⟩ := HS.out; exact hl
    have cP := isPlain_any W1
    have cY := want_yes HLS.out.1.lk
    have cN := want_no HLS.out.1.lk
    clear c1 hw1 HR h2 HN x0 x1 x2 x3 x4 x5 y5 HT
    go_wp2_with fail
    go_loopw [228] (fun sv wr => ∃ i : Nat, i ≤ m ∧ sv = .int .i64 (i : Int) ∧ Hid ((t.take i).all (fun v => !decide (4 < v)) = true) ∧ wr = W1) (fun sv _ => m - (intOf sv).toNat)
    case atStart => exact ⟨0, Nat.zero_le _, rfl, rfl, rfl⟩
    case round =>
      obtain ⟨i, hi, rfl, HI, hwr⟩ := hrel
      replace hwr := hwr.symm
      subst hwr
      by_cases hlt : i < m
      · obtain ⟨g, o, rfl, z0⟩ := HS.out.at i hlt
        have i0 : (0 : Int) ≤ (i : Int) := by omega
        have i1 : (i : Int) < (m : Int) := by omega
        have HA : Hid ((t.take (i + 1)).all (fun v => !decide (4 < v)) = ((t.take i).all (fun v => !decide (4 < v)) && !decide (4 < t.getD i 0))) := all_take (by rw [HL.out]; exact hlt)
        have HAll : Hid ((!decide (4 < t.getD i 0)) = false → (t.all fun v => !decide (4 < v)) = false) := fun hf => by
          rw [List.all_eq_false]
          refine ⟨t.getD i 0, ?_, by simpa using hf⟩
          rw [List.getD_eq_getElem?_getD, List.getElem?_eq_getElem (by rw [HL.out]; exact hlt)]
          exact List.getElem_mem _
        have cP1 := cP (t.getD i 0)
        generalize t.getD i 0 = u at *
        cases hB : (!decide (4 < u)) with
        | true =>
          rw [hB] at cP1 HA
          replace HA : Hid ((t.take (i + 1)).all (fun v => !decide (4 < v)) = true) := by show _ = true; rw [HA.out, HI.out]; rfl
          clear hB HAll
          go_wp2_with fail
          refine cP1.mono ?_
          rintro z W2 ⟨rfl, rfl⟩
          go_wp2_with fail
          refine cY.mono ?_
          rintro z W3 ⟨v3, rfl, rfl, rfl⟩
          go_wp2
          exact ⟨⟨i + 1, by omega, by go_num, HA, trivial⟩, by simp [intOf]; omega⟩
        | false =>
          rw [hB] at cP1
          replace HE : Hid (R = .error 142) := by show R = _; rw [HE.out, HAll.out hB]; rfl
          clear hB HAll HA
          go_wp2_with fail
          refine cP1.mono ?_
          rintro z W2 ⟨rfl, rfl⟩
          go_wp2_with fail
          refine cN.mono ?_
          rintro z W3 ⟨rfl, rfl⟩
          go_wp2
          refine ⟨rfl, ?_⟩
          rw [HE.out]
          exact ⟨rfl, HLS.out.2⟩
      · obtain rfl : i = m := by omega
        have i1 : ¬ ((i : Int) < (i : Int)) := by omega
        replace HE : Hid (R = .ok (s.take (s.length - i))) := by
          show R = _
          have h1 := HI.out
          rw [List.take_of_length_le (by rw [HL.out]; exact Nat.le_refl _)] at h1
          rw [HE.out, h1]
          rfl
        go_wp2
        go_end0
        rw [HE.out]
        exact ⟨rfl, ⟨_, _, _, HLS.out.1⟩, HLS.out.2⟩
end Go.Proofs.YtdcaonfnhdjibaaDoor
