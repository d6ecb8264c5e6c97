import Derived.Test.YtdcaonfnhdjibaaDoorVLf
import Derived.BigRegion
namespace Go.Proofs.YtdcaonfnhdjibaaDoor
open Go.RowKit

/-- What named answers. -/
def NmR (w : World) (a : Int) (b : Bool) (z : Ending) (w' : World) : Prop := (if b then z = .returned (.tuple #[]) else z = rfs 143 a) ∧ Below w.heap.size w w'
set_option maxRecDepth 100000 in
set_option maxHeartbeats 1000000 in
theorem nam_3 {w : World} {h G B : Nat} {a : Int} {A Bb : Int} {q : Option Addr} {n cap : Nat} {iq eq tq : Option Addr} {ia ea ta : Nat} {Es : List Em} {c : Cd} {e : En} {sq : Option Addr} {sc : Nat} {hi : Int} {kv ov : Value} (k : LkM w h G a (3, A, Bb) q n cap) (P : Pce w h G B iq eq tq ia ea ta Es c e sq sc hi kv ov) : Calls Tryd.prog 53 #[.pointer (some ⟨h, 0, none⟩)] w fun z w' => Hid (NmR w a (namedS c e (3, A, Bb)) z w') := by
  obtain ⟨⟨x0, x1⟩, ⟨x2, x3, x4⟩, -, -⟩ := k.cs
  obtain ⟨⟨p1, p2⟩, p7, -⟩ := P.cs
  have HR : Hid (namedS c e (3, A, Bb) = decide (A < (c.txs.length : Int))) := rfl
  rw [HR.out]
  have y1 : w.drew.cell? ⟨h, 1, none⟩ = some (.int .i64 a) := x1
  have r := refuse_any w.drew 143 a
  generalize c.txs.length = N at *
  clear k P HR
  by_cases hlt : A < (N : Int)
  · have hd : decide (A < (N : Int)) = true := decide_eq_true hlt
    rw [hd]
    clear r
    go_enter Tryd.func53, Tryd.ntmps53
    go_wp2_with fail
    go_region
    go_wp2
    go_end0
    exact ⟨rfl, (Below.refl _ w).drew⟩
  · have hd : decide (A < (N : Int)) = false := decide_eq_false hlt
    rw [hd]
    go_enter Tryd.func53, Tryd.ntmps53
    go_wp2_with fail
    go_region
    go_wp2_with fail
    refine r.mono ?_
    rintro z W1 ⟨rfl, rfl⟩
    go_wp2
    exact ⟨rfl, rfl, (Below.refl _ w).drew⟩
set_option maxRecDepth 100000 in
set_option maxHeartbeats 1000000 in
theorem nam_4 {w : World} {h G B : Nat} {a : Int} {A Bb : Int} {q : Option Addr} {n cap : Nat} {iq eq tq : Option Addr} {ia ea ta : Nat} {Es : List Em} {c : Cd} {e : En} {sq : Option Addr} {sc : Nat} {hi : Int} {kv ov : Value} (k : LkM w h G a (4, A, Bb) q n cap) (P : Pce w h G B iq eq tq ia ea ta Es c e sq sc hi kv ov) : Calls Tryd.prog 53 #[.pointer (some ⟨h, 0, none⟩)] w fun z w' => Hid (NmR w a (namedS c e (4, A, Bb)) z w') := by
  obtain ⟨⟨x0, x1⟩, ⟨x2, x3, x4⟩, -, -⟩ := k.cs
  obtain ⟨⟨p1, p2⟩, p7, -⟩ := P.cs
  have HR : Hid (namedS c e (4, A, Bb) = decide (A < (e.sorts.length : Int))) := rfl
  rw [HR.out]
  have y1 : w.drew.cell? ⟨h, 1, none⟩ = some (.int .i64 a) := x1
  have r := refuse_any w.drew 143 a
  generalize e.sorts.length = N at *
  clear k P HR
  by_cases hlt : A < (N : Int)
  · have hd : decide (A < (N : Int)) = true := decide_eq_true hlt
    rw [hd]
    clear r
    go_enter Tryd.func53, Tryd.ntmps53
    go_wp2_with fail
    go_region
    go_wp2
    go_end0
    exact ⟨rfl, (Below.refl _ w).drew⟩
  · have hd : decide (A < (N : Int)) = false := decide_eq_false hlt
    rw [hd]
    go_enter Tryd.func53, Tryd.ntmps53
    go_wp2_with fail
    go_region
    go_wp2_with fail
    refine r.mono ?_
    rintro z W1 ⟨rfl, rfl⟩
    go_wp2
    exact ⟨rfl, rfl, (Below.refl _ w).drew⟩
set_option maxRecDepth 100000 in
set_option maxHeartbeats 1000000 in
theorem nam_5 {w : World} {h G B : Nat} {a : Int} {A Bb : Int} {q : Option Addr} {n cap : Nat} {iq eq tq : Option Addr} {ia ea ta : Nat} {Es : List Em} {c : Cd} {e : En} {sq : Option Addr} {sc : Nat} {hi : Int} {kv ov : Value} (k : LkM w h G a (5, A, Bb) q n cap) (P : Pce w h G B iq eq tq ia ea ta Es c e sq sc hi kv ov) : Calls Tryd.prog 53 #[.pointer (some ⟨h, 0, none⟩)] w fun z w' => Hid (NmR w a (namedS c e (5, A, Bb)) z w') := by
  obtain ⟨⟨x0, x1⟩, ⟨x2, x3, x4⟩, -, -⟩ := k.cs
  obtain ⟨⟨p1, p2⟩, p7, -⟩ := P.cs
  have HR : Hid (namedS c e (5, A, Bb) = decide (A < (e.sorts.length : Int))) := rfl
  rw [HR.out]
  have y1 : w.drew.cell? ⟨h, 1, none⟩ = some (.int .i64 a) := x1
  have r := refuse_any w.drew 143 a
  generalize e.sorts.length = N at *
  clear k P HR
  by_cases hlt : A < (N : Int)
  · have hd : decide (A < (N : Int)) = true := decide_eq_true hlt
    rw [hd]
    clear r
    go_enter Tryd.func53, Tryd.ntmps53
    go_wp2_with fail
    go_region
    go_wp2
    go_end0
    exact ⟨rfl, (Below.refl _ w).drew⟩
  · have hd : decide (A < (N : Int)) = false := decide_eq_false hlt
    rw [hd]
    go_enter Tryd.func53, Tryd.ntmps53
    go_wp2_with fail
    go_region
    go_wp2_with fail
    refine r.mono ?_
    rintro z W1 ⟨rfl, rfl⟩
    go_wp2
    exact ⟨rfl, rfl, (Below.refl _ w).drew⟩
set_option maxRecDepth 100000 in
set_option maxHeartbeats 1000000 in
theorem nam_22 {w : World} {h G B : Nat} {a : Int} {A Bb : Int} {q : Option Addr} {n cap : Nat} {iq eq tq : Option Addr} {ia ea ta : Nat} {Es : List Em} {c : Cd} {e : En} {sq : Option Addr} {sc : Nat} {hi : Int} {kv ov : Value} (k : LkM w h G a (22, A, Bb) q n cap) (P : Pce w h G B iq eq tq ia ea ta Es c e sq sc hi kv ov) : Calls Tryd.prog 53 #[.pointer (some ⟨h, 0, none⟩)] w fun z w' => Hid (NmR w a (namedS c e (22, A, Bb)) z w') := by
  obtain ⟨⟨x0, x1⟩, ⟨x2, x3, x4⟩, -, -⟩ := k.cs
  obtain ⟨⟨p1, p2⟩, p7, -⟩ := P.cs
  have HR : Hid (namedS c e (22, A, Bb) = decide (Bb < (e.sorts.length : Int))) := rfl
  rw [HR.out]
  have y1 : w.drew.cell? ⟨h, 1, none⟩ = some (.int .i64 a) := x1
  have r := refuse_any w.drew 143 a
  generalize e.sorts.length = N at *
  clear k P HR
  by_cases hlt : Bb < (N : Int)
  · have hd : decide (Bb < (N : Int)) = true := decide_eq_true hlt
    rw [hd]
    clear r
    go_enter Tryd.func53, Tryd.ntmps53
    go_wp2_with fail
    go_region
    go_wp2
    go_end0
    exact ⟨rfl, (Below.refl _ w).drew⟩
  · have hd : decide (Bb < (N : Int)) = false := decide_eq_false hlt
    rw [hd]
    go_enter Tryd.func53, Tryd.ntmps53
    go_wp2_with fail
    go_region
    go_wp2_with fail
    refine r.mono ?_
    rintro z W1 ⟨rfl, rfl⟩
    go_wp2
    exact ⟨rfl, rfl, (Below.refl _ w).drew⟩
set_option maxRecDepth 100000 in
set_option maxHeartbeats 1000000 in
theorem nam_11 {w : World} {h G B : Nat} {a : Int} {A Bb : Int} {q : Option Addr} {n cap : Nat} {iq eq tq : Option Addr} {ia ea ta : Nat} {Es : List Em} {c : Cd} {e : En} {sq : Option Addr} {sc : Nat} {hi : Int} {kv ov : Value} (k : LkM w h G a (11, A, Bb) q n cap) (P : Pce w h G B iq eq tq ia ea ta Es c e sq sc hi kv ov) : Calls Tryd.prog 53 #[.pointer (some ⟨h, 0, none⟩)] w fun z w' => Hid (NmR w a (namedS c e (11, A, Bb)) z w') := by
  obtain ⟨⟨x0, x1⟩, ⟨x2, x3, x4⟩, -, -⟩ := k.cs
  obtain ⟨⟨p1, p2⟩, p7, -⟩ := P.cs
  have HR : Hid (namedS c e (11, A, Bb) = decide (A < (c.ens.length : Int))) := rfl
  rw [HR.out]
  have y1 : w.drew.cell? ⟨h, 1, none⟩ = some (.int .i64 a) := x1
  have r := refuse_any w.drew 143 a
  generalize c.ens.length = N at *
  clear k P HR
  by_cases hlt : A < (N : Int)
  · have hd : decide (A < (N : Int)) = true := decide_eq_true hlt
    rw [hd]
    clear r
    go_enter Tryd.func53, Tryd.ntmps53
    go_wp2_with fail
    go_region
    go_wp2
    go_end0
    exact ⟨rfl, (Below.refl _ w).drew⟩
  · have hd : decide (A < (N : Int)) = false := decide_eq_false hlt
    rw [hd]
    go_enter Tryd.func53, Tryd.ntmps53
    go_wp2_with fail
    go_region
    go_wp2_with fail
    refine r.mono ?_
    rintro z W1 ⟨rfl, rfl⟩
    go_wp2
    exact ⟨rfl, rfl, (Below.refl _ w).drew⟩
set_option maxRecDepth 100000 in
set_option maxHeartbeats 1000000 in
theorem nam_else {w : World} {h G B : Nat} {a : Int} {o A Bb : Int} {q : Option Addr} {n cap : Nat} {iq eq tq : Option Addr} {ia ea ta : Nat} {Es : List Em} {c : Cd} {e : En} {sq : Option Addr} {sc : Nat} {hi : Int} {kv ov : Value} (k : LkM w h G a (o, A, Bb) q n cap) (_P : Pce w h G B iq eq tq ia ea ta Es c e sq sc hi kv ov) (ho : o = 0 ∨ o = 1 ∨ o = 2 ∨ o = 6 ∨ o = 7 ∨ o = 8 ∨ o = 9 ∨ o = 10 ∨ o = 12 ∨ o = 13 ∨ o = 14 ∨ o = 15 ∨ o = 16 ∨ o = 17 ∨ o = 18 ∨ o = 19 ∨ o = 20 ∨ o = 21 ∨ o = 23) : Calls Tryd.prog 53 #[.pointer (some ⟨h, 0, none⟩)] w fun z w' => Hid (NmR w a (namedS c e (o, A, Bb)) z w') := by
  obtain ⟨⟨x0, x1⟩, ⟨x2, x3, x4⟩, -, -⟩ := k.cs
  have HR : Hid (namedS c e (o, A, Bb) = true) := by
    show namedS c e (o, A, Bb) = true
    unfold namedS
    rw [if_neg (show ¬ o = 3 by omega), if_neg (show ¬ (o = 4 ∨ o = 5) by omega), if_neg (show ¬ o = 22 by omega), if_neg (show ¬ o = 11 by omega)]
  rw [HR.out]
  clear k _P HR
  rcases ho with rfl | rfl | rfl | rfl | rfl | rfl | rfl | rfl | rfl | rfl | rfl | rfl | rfl | rfl | rfl | rfl | rfl | rfl | rfl
  all_goals go_enter Tryd.func53, Tryd.ntmps53
  all_goals go_wp2
  all_goals go_end0
  all_goals exact ⟨rfl, Below.refl _ w⟩
theorem named_any {w : World} {h G B : Nat} {a : Int} {x : In} {q : Option Addr} {n cap : Nat} {iq eq tq : Option Addr} {ia ea ta : Nat} {Es : List Em} {c : Cd} {e : En} {sq : Option Addr} {sc : Nat} {hi : Int} {kv ov : Value} (k : LkM w h G a x q n cap) (P : Pce w h G B iq eq tq ia ea ta Es c e sq sc hi kv ov) (hx : 0 ≤ x.1 ∧ x.1 < 24) : Calls Tryd.prog 53 #[.pointer (some ⟨h, 0, none⟩)] w fun z w' => Hid (NmR w a (namedS c e x) z w') := by
  obtain ⟨o, A, Bb⟩ := x
  simp only at hx
  by_cases h3 : o = 3
  · subst h3; exact nam_3 k P
  by_cases h4 : o = 4
  · subst h4; exact nam_4 k P
  by_cases h5 : o = 5
  · subst h5; exact nam_5 k P
  by_cases h22 : o = 22
  · subst h22; exact nam_22 k P
  by_cases h11 : o = 11
  · subst h11; exact nam_11 k P
  exact nam_else k P (by omega)
end Go.Proofs.YtdcaonfnhdjibaaDoor
