import Derived.Test.YtdcaonfnhdjibaaDoorVP1
import Derived.Test.YtdcaonfnhdjibaaDoorVLn
import Derived.Test.YtdcaonfnhdjibaaDoorVL3
import Derived.Test.YtdcaonfnhdjibaaDoorVM1
import Derived.Deep.LoopGhost
namespace Go.Proofs.YtdcaonfnhdjibaaDoor
open Go.RowKit

/-- The whole of effect, but for put, which is handed in. -/
theorem effect_any {w : World} {h G B : Nat} {a : Int} {x : In} {q : Option Addr} {n cap : Nat} {s : List Int} {iq eq tq : Option Addr} {ia ea ta : Nat} {Es : List Em} {c : Cd} {e : En} {sq : Option Addr} {sc : Nat} {hi : Int} {kv ov : Value} (k : LS w h G a x q n cap s) (hn : n ≤ 1000) (P : Pce w h G B iq eq tq ia ea ta Es c e sq sc hi kv ov) (hx : insS x = true) (hc : ∀ d ∈ c.ens, EntOk d) (hm : namedS c e x = true) (hs : ∀ v ∈ s, 1 ≤ v ∧ v < 20)
    (h16 : x.1 = 16 → Calls Tryd.prog 54 #[.pointer (some ⟨h, 0, none⟩)] w fun z w' => Hid (Eff w h G a x (effS c e x s) z w')) : Calls Tryd.prog 54 #[.pointer (some ⟨h, 0, none⟩)] w fun z w' => Hid (Eff w h G a x (effS c e x s) z w') := by
  obtain ⟨⟨x0, x1⟩, hA⟩ := ins_op hx
  have hl := may_lo hA
  obtain ⟨o, A, Bb⟩ := x
  simp only at x0 x1 hl h16
  have h24 : o = 0 ∨ o = 1 ∨ o = 2 ∨ o = 3 ∨ o = 4 ∨ o = 5 ∨ o = 6 ∨ o = 7 ∨ o = 8 ∨ o = 9 ∨ o = 10 ∨ o = 11 ∨ o = 12 ∨ o = 13 ∨ o = 14 ∨ o = 15 ∨ o = 16 ∨ o = 17 ∨ o = 18 ∨ o = 19 ∨ o = 20 ∨ o = 21 ∨ o = 22 ∨ o = 23 := by omega
  rcases h24 with rfl | rfl | rfl | rfl | rfl | rfl | rfl | rfl | rfl | rfl | rfl | rfl | rfl | rfl | rfl | rfl | rfl | rfl | rfl | rfl | rfl | rfl | rfl | rfl
  · exact eff_0 k hn P
  · exact eff_1 k hn P
  · exact eff_2 k hn P
  · exact eff_3 k hn P
  · exact eff_4 k hn P ⟨hl.1, of_decide_eq_true hm⟩
  · exact eff_5 k hn P ⟨hl.1, of_decide_eq_true hm⟩
  · exact eff_6 k hn P
  · exact eff_7 k hn P
  · exact eff_8 k hn P ⟨hl.1, hl.2.1⟩
  · exact eff_9 k hn P
  · exact eff_10 k hn P
  · have h1 : A < (c.ens.length : Int) := of_decide_eq_true hm
    have h2 : (0 : Int) ≤ A := hl.1
    have hd := hc _ (en_mem (c := c) (f := A.toNat) (by omega))
    exact eff_11 k hn P ⟨h2, h1⟩ ⟨hd.p0, hd.pl⟩
  · exact eff_12 k hn P
  · exact eff_13 k hn P
  · have h1 := sort_ok (hl.2.2 rfl)
    exact eff_14 k hn P ⟨hl.1, hl.2.1⟩
  · exact eff_15 k hn P hs
  · exact h16 rfl
  · exact eff_17 k hn P
  · exact eff_18 k hn P
  · have h1 : (1 : Int) ≤ A := hl.1
    exact eff_19 k hn P (by omega)
  · exact eff_20 k hn P
  · exact eff_21 k hn P
  · exact eff_22 k hn P
  · exact eff_23 k hn P
end Go.Proofs.YtdcaonfnhdjibaaDoor
