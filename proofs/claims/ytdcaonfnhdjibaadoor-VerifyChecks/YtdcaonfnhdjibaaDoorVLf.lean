import Derived.Test.YtdcaonfnhdjibaaDoorVL2
namespace Go.Proofs.YtdcaonfnhdjibaaDoor
open Go.RowKit

/-- The piece that a look belongs to. -/
structure Pce (w : World) (h G B : Nat) (iq eq tq : Option Addr) (ia ea ta : Nat) (Es : List Em) (c : Cd) (e : En) (sq : Option Addr) (sc : Nat) (hi : Int) (kv ov : Value) : Prop where
  full : Full w G 93 [.slice iq c.ins.length ia, .slice eq c.ens.length ea, .slice tq c.txs.length ta, .int .i64 c.main, .string e.name, .int .i64 e.start, .int .i64 e.params, .slice sq e.sorts.length sc, .int .i64 e.result, .int .i64 hi, kv, ov]
  gh : G ≠ h
  so : SoM w h sq sc e.sorts
  m : CodeM w B iq eq tq Es c
  bh : B ≤ h ∧ B ≤ w.heap.size
  cp : ∀ y ∈ Es, y.1.sorts.length ≤ y.2.2 ∧ (y.2.1 = none → y.1.sorts.length = 0)
theorem Pce.next {w w' : World} {h G B : Nat} {iq eq tq : Option Addr} {ia ea ta : Nat} {Es : List Em} {c : Cd} {e : En} {sq : Option Addr} {sc : Nat} {hi : Int} {kv ov : Value} (p : Pce w h G B iq eq tq ia ea ta Es c e sq sc hi kv ov) (k : Kp (fun i => i = h) w w') : Pce w' h G B iq eq tq ia ea ta Es c e sq sc hi kv ov :=
  ⟨(k.block G p.full.lt p.gh).trans p.full, p.gh, p.so.next k, p.m.below (k.below (fun i hi => by subst hi; exact p.bh.1) p.bh.2) (Nat.le_refl _), ⟨p.bh.1, Nat.le_trans p.bh.2 k.size⟩, p.cp⟩
theorem Pce.cs {w : World} {h G B : Nat} {iq eq tq : Option Addr} {ia ea ta : Nat} {Es : List Em} {c : Cd} {e : En} {sq : Option Addr} {sc : Nat} {hi : Int} {kv ov : Value} (p : Pce w h G B iq eq tq ia ea ta Es c e sq sc hi kv ov) : (w.cell? ⟨G, 1, none⟩ = some (.slice eq c.ens.length ea) ∧ w.cell? ⟨G, 2, none⟩ = some (.slice tq c.txs.length ta)) ∧ w.cell? ⟨G, 7, none⟩ = some (.slice sq e.sorts.length sc) ∧ w.cell? ⟨G, 8, none⟩ = some (.int .i64 e.result) :=
  ⟨⟨(p.full.cell 1 _ rfl).1, (p.full.cell 2 _ rfl).1⟩, (p.full.cell 7 _ rfl).1, (p.full.cell 8 _ rfl).1⟩
set_option maxRecDepth 100000 in
set_option maxHeartbeats 4000000 in
theorem eff_1 {w : World} {h G B : Nat} {a : Int} {A Bb : Int} {q : Option Addr} {n cap : Nat} {s : List Int} {iq eq tq : Option Addr} {ia ea ta : Nat} {Es : List Em} {c : Cd} {e : En} {sq : Option Addr} {sc : Nat} {hi : Int} {kv ov : Value} (k : LS w h G a (1, A, Bb) q n cap s) (hn : n ≤ 1000) (P : Pce w h G B iq eq tq ia ea ta Es c e sq sc hi kv ov) : Calls Tryd.prog 54 #[.pointer (some ⟨h, 0, none⟩)] w fun z w' => Hid (Eff w h G a (1, A, Bb) (effS c e (1, A, Bb) s) z w') := by
  obtain ⟨R, HR⟩ : ∃ R, Hid (R = effS c e (1, A, Bb) s) := ⟨_, (rfl : effS c e (1, A, Bb) s = _)⟩
  rw [← HR.out]
  replace HR : Hid (R = gvS 1 s) := HR.out
  obtain ⟨⟨x0, x1⟩, ⟨x2, x3, x4⟩, x5, y5⟩ := k.lk.cs
  obtain ⟨⟨p1, p2⟩, p7, p8⟩ := P.cs
  have c1 := give_any k 1 hn
  clear k P p1 p2 p7 p8
  go_enter Tryd.func54, Tryd.ntmps54
  go_wp2_with fail
  refine (c1).mono ?_
  rintro z W9 h9
  have h3 : Eff w h G a (1, A, Bb) R z W9 := by rw [HR.out]; exact h9.out
  clear h9
  cases hRz : R with
  | error cz =>
    rw [hRz] at h3
    obtain ⟨rfl, kp⟩ := h3
    go_wp2
    refine ⟨rfl, ?_⟩
    rw [hRz]
    exact ⟨rfl, kp⟩
  | ok rz =>
    rw [hRz] at h3
    obtain ⟨rfl, hq, kp⟩ := h3
    go_wp2
    go_end0
    rw [hRz]
    exact ⟨rfl, hq, kp⟩
set_option maxRecDepth 100000 in
set_option maxHeartbeats 4000000 in
theorem eff_20 {w : World} {h G B : Nat} {a : Int} {A Bb : Int} {q : Option Addr} {n cap : Nat} {s : List Int} {iq eq tq : Option Addr} {ia ea ta : Nat} {Es : List Em} {c : Cd} {e : En} {sq : Option Addr} {sc : Nat} {hi : Int} {kv ov : Value} (k : LS w h G a (20, A, Bb) q n cap s) (hn : n ≤ 1000) (P : Pce w h G B iq eq tq ia ea ta Es c e sq sc hi kv ov) : Calls Tryd.prog 54 #[.pointer (some ⟨h, 0, none⟩)] w fun z w' => Hid (Eff w h G a (20, A, Bb) (effS c e (20, A, Bb) s) z w') := by
  obtain ⟨R, HR⟩ : ∃ R, Hid (R = effS c e (20, A, Bb) s) := ⟨_, (rfl : effS c e (20, A, Bb) s = _)⟩
  rw [← HR.out]
  replace HR : Hid (R = gvS 1 s) := HR.out
  obtain ⟨⟨x0, x1⟩, ⟨x2, x3, x4⟩, x5, y5⟩ := k.lk.cs
  obtain ⟨⟨p1, p2⟩, p7, p8⟩ := P.cs
  have c1 := give_any k 1 hn
  clear k P p1 p2 p7 p8
  go_enter Tryd.func54, Tryd.ntmps54
  go_wp2_with fail
  refine (c1).mono ?_
  rintro z W9 h9
  have h3 : Eff w h G a (20, A, Bb) R z W9 := by rw [HR.out]; exact h9.out
  clear h9
  cases hRz : R with
  | error cz =>
    rw [hRz] at h3
    obtain ⟨rfl, kp⟩ := h3
    go_wp2
    refine ⟨rfl, ?_⟩
    rw [hRz]
    exact ⟨rfl, kp⟩
  | ok rz =>
    rw [hRz] at h3
    obtain ⟨rfl, hq, kp⟩ := h3
    go_wp2
    go_end0
    rw [hRz]
    exact ⟨rfl, hq, kp⟩
set_option maxRecDepth 100000 in
set_option maxHeartbeats 4000000 in
theorem eff_2 {w : World} {h G B : Nat} {a : Int} {A Bb : Int} {q : Option Addr} {n cap : Nat} {s : List Int} {iq eq tq : Option Addr} {ia ea ta : Nat} {Es : List Em} {c : Cd} {e : En} {sq : Option Addr} {sc : Nat} {hi : Int} {kv ov : Value} (k : LS w h G a (2, A, Bb) q n cap s) (hn : n ≤ 1000) (P : Pce w h G B iq eq tq ia ea ta Es c e sq sc hi kv ov) : Calls Tryd.prog 54 #[.pointer (some ⟨h, 0, none⟩)] w fun z w' => Hid (Eff w h G a (2, A, Bb) (effS c e (2, A, Bb) s) z w') := by
  obtain ⟨R, HR⟩ : ∃ R, Hid (R = effS c e (2, A, Bb) s) := ⟨_, (rfl : effS c e (2, A, Bb) s = _)⟩
  rw [← HR.out]
  replace HR : Hid (R = gvS 2 s) := HR.out
  obtain ⟨⟨x0, x1⟩, ⟨x2, x3, x4⟩, x5, y5⟩ := k.lk.cs
  obtain ⟨⟨p1, p2⟩, p7, p8⟩ := P.cs
  have c1 := give_any k 2 hn
  clear k P p1 p2 p7 p8
  go_enter Tryd.func54, Tryd.ntmps54
  go_wp2_with fail
  refine (c1).mono ?_
  rintro z W9 h9
  have h3 : Eff w h G a (2, A, Bb) R z W9 := by rw [HR.out]; exact h9.out
  clear h9
  cases hRz : R with
  | error cz =>
    rw [hRz] at h3
    obtain ⟨rfl, kp⟩ := h3
    go_wp2
    refine ⟨rfl, ?_⟩
    rw [hRz]
    exact ⟨rfl, kp⟩
  | ok rz =>
    rw [hRz] at h3
    obtain ⟨rfl, hq, kp⟩ := h3
    go_wp2
    go_end0
    rw [hRz]
    exact ⟨rfl, hq, kp⟩
set_option maxRecDepth 100000 in
set_option maxHeartbeats 4000000 in
theorem eff_3 {w : World} {h G B : Nat} {a : Int} {A Bb : Int} {q : Option Addr} {n cap : Nat} {s : List Int} {iq eq tq : Option Addr} {ia ea ta : Nat} {Es : List Em} {c : Cd} {e : En} {sq : Option Addr} {sc : Nat} {hi : Int} {kv ov : Value} (k : LS w h G a (3, A, Bb) q n cap s) (hn : n ≤ 1000) (P : Pce w h G B iq eq tq ia ea ta Es c e sq sc hi kv ov) : Calls Tryd.prog 54 #[.pointer (some ⟨h, 0, none⟩)] w fun z w' => Hid (Eff w h G a (3, A, Bb) (effS c e (3, A, Bb) s) z w') := by
  obtain ⟨R, HR⟩ : ∃ R, Hid (R = effS c e (3, A, Bb) s) := ⟨_, (rfl : effS c e (3, A, Bb) s = _)⟩
  rw [← HR.out]
  replace HR : Hid (R = gvS 3 s) := HR.out
  obtain ⟨⟨x0, x1⟩, ⟨x2, x3, x4⟩, x5, y5⟩ := k.lk.cs
  obtain ⟨⟨p1, p2⟩, p7, p8⟩ := P.cs
  have c1 := give_any k 3 hn
  clear k P p1 p2 p7 p8
  go_enter Tryd.func54, Tryd.ntmps54
  go_wp2_with fail
  refine (c1).mono ?_
  rintro z W9 h9
  have h3 : Eff w h G a (3, A, Bb) R z W9 := by rw [HR.out]; exact h9.out
  clear h9
  cases hRz : R with
  | error cz =>
    rw [hRz] at h3
    obtain ⟨rfl, kp⟩ := h3
    go_wp2
    refine ⟨rfl, ?_⟩
    rw [hRz]
    exact ⟨rfl, kp⟩
  | ok rz =>
    rw [hRz] at h3
    obtain ⟨rfl, hq, kp⟩ := h3
    go_wp2
    go_end0
    rw [hRz]
    exact ⟨rfl, hq, kp⟩
set_option maxRecDepth 100000 in
set_option maxHeartbeats 4000000 in
theorem eff_0 {w : World} {h G B : Nat} {a : Int} {A Bb : Int} {q : Option Addr} {n cap : Nat} {s : List Int} {iq eq tq : Option Addr} {ia ea ta : Nat} {Es : List Em} {c : Cd} {e : En} {sq : Option Addr} {sc : Nat} {hi : Int} {kv ov : Value} (k : LS w h G a (0, A, Bb) q n cap s) (_hn : n ≤ 1000) (P : Pce w h G B iq eq tq ia ea ta Es c e sq sc hi kv ov) : Calls Tryd.prog 54 #[.pointer (some ⟨h, 0, none⟩)] w fun z w' => Hid (Eff w h G a (0, A, Bb) (effS c e (0, A, Bb) s) z w') := by
  obtain ⟨R, HR⟩ : ∃ R, Hid (R = effS c e (0, A, Bb) s) := ⟨_, (rfl : effS c e (0, A, Bb) s = _)⟩
  rw [← HR.out]
  replace HR : Hid (R = .ok s) := HR.out
  obtain ⟨⟨x0, x1⟩, ⟨x2, x3, x4⟩, x5, y5⟩ := k.lk.cs
  obtain ⟨⟨p1, p2⟩, p7, p8⟩ := P.cs
  have HK : Hid (LS w h G a (0, A, Bb) q n cap s) := k
  clear k P p1 p2 p7 p8
  go_enter Tryd.func54, Tryd.ntmps54
  go_wp2
  go_end0
  rw [HR.out]
  exact ⟨rfl, ⟨_, _, _, HK.out⟩, Kp.refl _ _⟩
set_option maxRecDepth 100000 in
set_option maxHeartbeats 4000000 in
theorem eff_9 {w : World} {h G B : Nat} {a : Int} {A Bb : Int} {q : Option Addr} {n cap : Nat} {s : List Int} {iq eq tq : Option Addr} {ia ea ta : Nat} {Es : List Em} {c : Cd} {e : En} {sq : Option Addr} {sc : Nat} {hi : Int} {kv ov : Value} (k : LS w h G a (9, A, Bb) q n cap s) (_hn : n ≤ 1000) (P : Pce w h G B iq eq tq ia ea ta Es c e sq sc hi kv ov) : Calls Tryd.prog 54 #[.pointer (some ⟨h, 0, none⟩)] w fun z w' => Hid (Eff w h G a (9, A, Bb) (effS c e (9, A, Bb) s) z w') := by
  obtain ⟨R, HR⟩ : ∃ R, Hid (R = effS c e (9, A, Bb) s) := ⟨_, (rfl : effS c e (9, A, Bb) s = _)⟩
  rw [← HR.out]
  replace HR : Hid (R = .ok s) := HR.out
  obtain ⟨⟨x0, x1⟩, ⟨x2, x3, x4⟩, x5, y5⟩ := k.lk.cs
  obtain ⟨⟨p1, p2⟩, p7, p8⟩ := P.cs
  have HK : Hid (LS w h G a (9, A, Bb) q n cap s) := k
  clear k P p1 p2 p7 p8
  go_enter Tryd.func54, Tryd.ntmps54
  go_wp2
  go_end0
  rw [HR.out]
  exact ⟨rfl, ⟨_, _, _, HK.out⟩, Kp.refl _ _⟩
set_option maxRecDepth 100000 in
set_option maxHeartbeats 4000000 in
theorem eff_21 {w : World} {h G B : Nat} {a : Int} {A Bb : Int} {q : Option Addr} {n cap : Nat} {s : List Int} {iq eq tq : Option Addr} {ia ea ta : Nat} {Es : List Em} {c : Cd} {e : En} {sq : Option Addr} {sc : Nat} {hi : Int} {kv ov : Value} (k : LS w h G a (21, A, Bb) q n cap s) (_hn : n ≤ 1000) (P : Pce w h G B iq eq tq ia ea ta Es c e sq sc hi kv ov) : Calls Tryd.prog 54 #[.pointer (some ⟨h, 0, none⟩)] w fun z w' => Hid (Eff w h G a (21, A, Bb) (effS c e (21, A, Bb) s) z w') := by
  obtain ⟨R, HR⟩ : ∃ R, Hid (R = effS c e (21, A, Bb) s) := ⟨_, (rfl : effS c e (21, A, Bb) s = _)⟩
  rw [← HR.out]
  replace HR : Hid (R = .ok s) := HR.out
  obtain ⟨⟨x0, x1⟩, ⟨x2, x3, x4⟩, x5, y5⟩ := k.lk.cs
  obtain ⟨⟨p1, p2⟩, p7, p8⟩ := P.cs
  have HK : Hid (LS w h G a (21, A, Bb) q n cap s) := k
  clear k P p1 p2 p7 p8
  go_enter Tryd.func54, Tryd.ntmps54
  go_wp2
  go_end0
  rw [HR.out]
  exact ⟨rfl, ⟨_, _, _, HK.out⟩, Kp.refl _ _⟩
set_option maxRecDepth 100000 in
set_option maxHeartbeats 4000000 in
theorem eff_22 {w : World} {h G B : Nat} {a : Int} {A Bb : Int} {q : Option Addr} {n cap : Nat} {s : List Int} {iq eq tq : Option Addr} {ia ea ta : Nat} {Es : List Em} {c : Cd} {e : En} {sq : Option Addr} {sc : Nat} {hi : Int} {kv ov : Value} (k : LS w h G a (22, A, Bb) q n cap s) (_hn : n ≤ 1000) (P : Pce w h G B iq eq tq ia ea ta Es c e sq sc hi kv ov) : Calls Tryd.prog 54 #[.pointer (some ⟨h, 0, none⟩)] w fun z w' => Hid (Eff w h G a (22, A, Bb) (effS c e (22, A, Bb) s) z w') := by
  obtain ⟨R, HR⟩ : ∃ R, Hid (R = effS c e (22, A, Bb) s) := ⟨_, (rfl : effS c e (22, A, Bb) s = _)⟩
  rw [← HR.out]
  replace HR : Hid (R = .ok s) := HR.out
  obtain ⟨⟨x0, x1⟩, ⟨x2, x3, x4⟩, x5, y5⟩ := k.lk.cs
  obtain ⟨⟨p1, p2⟩, p7, p8⟩ := P.cs
  have HK : Hid (LS w h G a (22, A, Bb) q n cap s) := k
  clear k P p1 p2 p7 p8
  go_enter Tryd.func54, Tryd.ntmps54
  go_wp2
  go_end0
  rw [HR.out]
  exact ⟨rfl, ⟨_, _, _, HK.out⟩, Kp.refl _ _⟩
set_option maxRecDepth 100000 in
set_option maxHeartbeats 4000000 in
theorem eff_6 {w : World} {h G B : Nat} {a : Int} {A Bb : Int} {q : Option Addr} {n cap : Nat} {s : List Int} {iq eq tq : Option Addr} {ia ea ta : Nat} {Es : List Em} {c : Cd} {e : En} {sq : Option Addr} {sc : Nat} {hi : Int} {kv ov : Value} (k : LS w h G a (6, A, Bb) q n cap s) (hn : n ≤ 1000) (P : Pce w h G B iq eq tq ia ea ta Es c e sq sc hi kv ov) : Calls Tryd.prog 54 #[.pointer (some ⟨h, 0, none⟩)] w fun z w' => Hid (Eff w h G a (6, A, Bb) (effS c e (6, A, Bb) s) z w') := by
  obtain ⟨R, HR⟩ : ∃ R, Hid (R = effS c e (6, A, Bb) s) := ⟨_, (rfl : effS c e (6, A, Bb) s = _)⟩
  rw [← HR.out]
  replace HR : Hid (R = tkS 1 s fun r _ => .ok r) := HR.out
  obtain ⟨⟨x0, x1⟩, ⟨x2, x3, x4⟩, x5, y5⟩ := k.lk.cs
  obtain ⟨⟨p1, p2⟩, p7, p8⟩ := P.cs
  have c1 : Calls Tryd.prog 65 #[.pointer (some ⟨h, 0, none⟩), .int .i64 1] w _ := take_any k 1 hn
  clear k P p1 p2 p7 p8
  go_enter Tryd.func54, Tryd.ntmps54
  go_wp2_with fail
  refine c1.mono ?_
  rintro z W1 h1
  rcases h1 with ⟨h2, rfl, rfl⟩ | ⟨h2, q1, cap1, rfl, hw1⟩
  · have HE : Hid (R = .error 141) := HR.out.trans (tk_no h2)
    go_wp2
    refine ⟨rfl, ?_⟩
    rw [HE.out]
    exact ⟨rfl, Kp.refl _ _⟩
  · have HE : Hid (R = _) := HR.out.trans (tk_yes h2)
    go_wp2
    go_end0
    rw [HE.out]
    exact ⟨rfl, ⟨_, _, _, hw1.out.ls⟩, hw1.out.kp⟩
set_option maxRecDepth 100000 in
set_option maxHeartbeats 4000000 in
theorem eff_7 {w : World} {h G B : Nat} {a : Int} {A Bb : Int} {q : Option Addr} {n cap : Nat} {s : List Int} {iq eq tq : Option Addr} {ia ea ta : Nat} {Es : List Em} {c : Cd} {e : En} {sq : Option Addr} {sc : Nat} {hi : Int} {kv ov : Value} (k : LS w h G a (7, A, Bb) q n cap s) (hn : n ≤ 1000) (P : Pce w h G B iq eq tq ia ea ta Es c e sq sc hi kv ov) : Calls Tryd.prog 54 #[.pointer (some ⟨h, 0, none⟩)] w fun z w' => Hid (Eff w h G a (7, A, Bb) (effS c e (7, A, Bb) s) z w') := by
  obtain ⟨R, HR⟩ : ∃ R, Hid (R = effS c e (7, A, Bb) s) := ⟨_, (rfl : effS c e (7, A, Bb) s = _)⟩
  rw [← HR.out]
  replace HR : Hid (R = tjS [if A = 2 then 2 else 1] s (gvS (if A = 2 then 2 else 1))) := HR.out
  obtain ⟨⟨x0, x1⟩, ⟨x2, x3, x4⟩, x5, y5⟩ := k.lk.cs
  obtain ⟨⟨p1, p2⟩, p7, p8⟩ := P.cs
  have c1 := unary_any k hn A
  clear k P p1 p2 p7 p8
  go_enter Tryd.func54, Tryd.ntmps54
  go_wp2_with fail
  refine (c1).mono ?_
  rintro z W9 h9
  have h3 : Eff w h G a (7, A, Bb) R z W9 := by rw [HR.out]; exact h9.out
  clear h9
  cases hRz : R with
  | error cz =>
    rw [hRz] at h3
    obtain ⟨rfl, kp⟩ := h3
    go_wp2
    refine ⟨rfl, ?_⟩
    rw [hRz]
    exact ⟨rfl, kp⟩
  | ok rz =>
    rw [hRz] at h3
    obtain ⟨rfl, hq, kp⟩ := h3
    go_wp2
    go_end0
    rw [hRz]
    exact ⟨rfl, hq, kp⟩
set_option maxRecDepth 100000 in
set_option maxHeartbeats 4000000 in
theorem eff_8 {w : World} {h G B : Nat} {a : Int} {A Bb : Int} {q : Option Addr} {n cap : Nat} {s : List Int} {iq eq tq : Option Addr} {ia ea ta : Nat} {Es : List Em} {c : Cd} {e : En} {sq : Option Addr} {sc : Nat} {hi : Int} {kv ov : Value} (k : LS w h G a (8, A, Bb) q n cap s) (hn : n ≤ 1000) (P : Pce w h G B iq eq tq ia ea ta Es c e sq sc hi kv ov) (hop : 3 ≤ A ∧ A ≤ 13) : Calls Tryd.prog 54 #[.pointer (some ⟨h, 0, none⟩)] w fun z w' => Hid (Eff w h G a (8, A, Bb) (effS c e (8, A, Bb) s) z w') := by
  obtain ⟨R, HR⟩ : ∃ R, Hid (R = effS c e (8, A, Bb) s) := ⟨_, (rfl : effS c e (8, A, Bb) s = _)⟩
  rw [← HR.out]
  replace HR : Hid (R = tkS 2 s fun r t => wtS (decide (t.getD 0 0 = t.getD 1 0) && opnd A (t.getD 0 0)) (gvS (if A ≤ 7 then t.getD 0 0 else 2) r)) := HR.out
  obtain ⟨⟨x0, x1⟩, ⟨x2, x3, x4⟩, x5, y5⟩ := k.lk.cs
  obtain ⟨⟨p1, p2⟩, p7, p8⟩ := P.cs
  have c1 := binary_any k hn A hop
  clear k P p1 p2 p7 p8 hop
  go_enter Tryd.func54, Tryd.ntmps54
  go_wp2_with fail
  refine (c1).mono ?_
  rintro z W9 h9
  have h3 : Eff w h G a (8, A, Bb) R z W9 := by rw [HR.out]; exact h9.out
  clear h9
  cases hRz : R with
  | error cz =>
    rw [hRz] at h3
    obtain ⟨rfl, kp⟩ := h3
    go_wp2
    refine ⟨rfl, ?_⟩
    rw [hRz]
    exact ⟨rfl, kp⟩
  | ok rz =>
    rw [hRz] at h3
    obtain ⟨rfl, hq, kp⟩ := h3
    go_wp2
    go_end0
    rw [hRz]
    exact ⟨rfl, hq, kp⟩
set_option maxRecDepth 100000 in
set_option maxHeartbeats 4000000 in
theorem eff_10 {w : World} {h G B : Nat} {a : Int} {A Bb : Int} {q : Option Addr} {n cap : Nat} {s : List Int} {iq eq tq : Option Addr} {ia ea ta : Nat} {Es : List Em} {c : Cd} {e : En} {sq : Option Addr} {sc : Nat} {hi : Int} {kv ov : Value} (k : LS w h G a (10, A, Bb) q n cap s) (hn : n ≤ 1000) (P : Pce w h G B iq eq tq ia ea ta Es c e sq sc hi kv ov) : Calls Tryd.prog 54 #[.pointer (some ⟨h, 0, none⟩)] w fun z w' => Hid (Eff w h G a (10, A, Bb) (effS c e (10, A, Bb) s) z w') := by
  obtain ⟨R, HR⟩ : ∃ R, Hid (R = effS c e (10, A, Bb) s) := ⟨_, (rfl : effS c e (10, A, Bb) s = _)⟩
  rw [← HR.out]
  replace HR : Hid (R = tjS [2] s .ok) := HR.out
  obtain ⟨⟨x0, x1⟩, ⟨x2, x3, x4⟩, x5, y5⟩ := k.lk.cs
  obtain ⟨⟨p1, p2⟩, p7, p8⟩ := P.cs
  have c1 := just_one k hn 2
  clear k P p1 p2 p7 p8
  go_enter Tryd.func54, Tryd.ntmps54
  go_wp2_with fail
  refine (c1).mono ?_
  rintro z W9 h9
  have h3 : Eff w h G a (10, A, Bb) R z W9 := by rw [HR.out]; exact h9.out
  clear h9
  cases hRz : R with
  | error cz =>
    rw [hRz] at h3
    obtain ⟨rfl, kp⟩ := h3
    go_wp2
    refine ⟨rfl, ?_⟩
    rw [hRz]
    exact ⟨rfl, kp⟩
  | ok rz =>
    rw [hRz] at h3
    obtain ⟨rfl, hq, kp⟩ := h3
    go_wp2
    go_end0
    rw [hRz]
    exact ⟨rfl, hq, kp⟩
set_option maxRecDepth 100000 in
set_option maxHeartbeats 4000000 in
theorem eff_12 {w : World} {h G B : Nat} {a : Int} {A Bb : Int} {q : Option Addr} {n cap : Nat} {s : List Int} {iq eq tq : Option Addr} {ia ea ta : Nat} {Es : List Em} {c : Cd} {e : En} {sq : Option Addr} {sc : Nat} {hi : Int} {kv ov : Value} (k : LS w h G a (12, A, Bb) q n cap s) (hn : n ≤ 1000) (P : Pce w h G B iq eq tq ia ea ta Es c e sq sc hi kv ov) : Calls Tryd.prog 54 #[.pointer (some ⟨h, 0, none⟩)] w fun z w' => Hid (Eff w h G a (12, A, Bb) (effS c e (12, A, Bb) s) z w') := by
  obtain ⟨R, HR⟩ : ∃ R, Hid (R = effS c e (12, A, Bb) s) := ⟨_, (rfl : effS c e (12, A, Bb) s = _)⟩
  rw [← HR.out]
  replace HR : Hid (R = tjS [e.result] s .ok) := HR.out
  obtain ⟨⟨x0, x1⟩, ⟨x2, x3, x4⟩, x5, y5⟩ := k.lk.cs
  obtain ⟨⟨p1, p2⟩, p7, p8⟩ := P.cs
  have c1 := just_one k hn e.result
  generalize e.result = er at *
  clear k P p1 p2 p7
  go_enter Tryd.func54, Tryd.ntmps54
  go_wp2_with fail
  refine (c1).mono ?_
  rintro z W9 h9
  have h3 : Eff w h G a (12, A, Bb) R z W9 := by rw [HR.out]; exact h9.out
  clear h9
  cases hRz : R with
  | error cz =>
    rw [hRz] at h3
    obtain ⟨rfl, kp⟩ := h3
    go_wp2
    refine ⟨rfl, ?_⟩
    rw [hRz]
    exact ⟨rfl, kp⟩
  | ok rz =>
    rw [hRz] at h3
    obtain ⟨rfl, hq, kp⟩ := h3
    go_wp2
    go_end0
    rw [hRz]
    exact ⟨rfl, hq, kp⟩
set_option maxRecDepth 100000 in
set_option maxHeartbeats 4000000 in
theorem eff_13 {w : World} {h G B : Nat} {a : Int} {A Bb : Int} {q : Option Addr} {n cap : Nat} {s : List Int} {iq eq tq : Option Addr} {ia ea ta : Nat} {Es : List Em} {c : Cd} {e : En} {sq : Option Addr} {sc : Nat} {hi : Int} {kv ov : Value} (k : LS w h G a (13, A, Bb) q n cap s) (_hn : n ≤ 1000) (P : Pce w h G B iq eq tq ia ea ta Es c e sq sc hi kv ov) : Calls Tryd.prog 54 #[.pointer (some ⟨h, 0, none⟩)] w fun z w' => Hid (Eff w h G a (13, A, Bb) (effS c e (13, A, Bb) s) z w') := by
  obtain ⟨R, HR⟩ : ∃ R, Hid (R = effS c e (13, A, Bb) s) := ⟨_, (rfl : effS c e (13, A, Bb) s = _)⟩
  rw [← HR.out]
  replace HR : Hid (R = wtS (decide (e.result = 0)) (.ok s)) := HR.out
  obtain ⟨⟨x0, x1⟩, ⟨x2, x3, x4⟩, x5, y5⟩ := k.lk.cs
  obtain ⟨⟨p1, p2⟩, p7, p8⟩ := P.cs
  have HK : Hid (LS w h G a (13, A, Bb) q n cap s) := k
  generalize e.result = er at *
  clear P p1 p2 p7
  by_cases h0 : er = 0
  · subst h0
    have c1 := want_yes k.lk
    have HE : Hid (R = .ok s) := HR.out
    clear k HR
    go_enter Tryd.func54, Tryd.ntmps54
    go_wp2_with fail
    refine c1.mono ?_
    rintro z W1 ⟨v1, rfl, rfl, rfl⟩
    go_wp2
    go_end0
    rw [HE.out]
    exact ⟨rfl, ⟨_, _, _, HK.out⟩, Kp.refl _ _⟩
  · have c1 := want_no k.lk
    have HE : Hid (R = .error 142) := by show R = _; rw [HR.out, decide_eq_false h0]; rfl
    have h01 : (er == 0) = false := by rw [beq_eq_false_iff_ne]; exact h0
    clear k HR
    go_enter Tryd.func54, Tryd.ntmps54
    go_wp2_with fail
    refine c1.mono ?_
    rintro z W1 ⟨rfl, rfl⟩
    go_wp2
    refine ⟨rfl, ?_⟩
    rw [HE.out]
    exact ⟨rfl, Kp.refl _ _⟩
end Go.Proofs.YtdcaonfnhdjibaaDoor
