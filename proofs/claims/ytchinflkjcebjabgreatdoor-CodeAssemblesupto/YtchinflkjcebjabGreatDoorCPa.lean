import Derived.Test.YtchinflkjcebjabGreatDoorCRh
import Derived.Test.YtchinflkjcebjabGreatDoorShC
import Derived.Test.YtchinflkjcebjabGreatDoorQQuote
namespace Go.Proofs.YtchinflkjcebjabGreatDoor
open Go.RowKit

theorem hx_eq : ∀ n : Fin 16, Lx.hx n.val = hexD n.val := by decide +kernel
theorem pc_eq (c : UInt8) : Lx.pc c = pcS c := by
  have hc := c.toNat_lt
  unfold Lx.pc pcS
  rw [hx_eq ⟨c.toNat / 16, by omega⟩, hx_eq ⟨c.toNat % 16, by omega⟩]
theorem qt_eq (l : List UInt8) : Lx.qt l = qtS l := by
  unfold Lx.qt qtS Lx.pcs
  rw [show Lx.pc = pcS from funext pc_eq]
theorem quote_any (s : ByteArray) (w : World) (hs : s.size ≤ 68719476736) : Calls Tryz.prog 30 #[.string s] w fun e w' => e = .returned (.string (YtchinflkjcebjabGreatDoor.bk (qtS s.data.toList))) ∧ Below w.heap.size w w' :=
  Lx.quoted_any s _ w hs (by show YtchinflkjcebjabGreatDoor.bk _ = _; rw [qt_eq]; rfl)
theorem fmt_any (n : Int) (w : World) (h0 : -9223372036854775808 ≤ n) (h1 : n ≤ 9223372036854775807) (ht : Tabs w) :
    Calls Tryz.prog 60 #[.int .i64 n, .int .i64 10] w fun e w' => e = .returned (.string (YtchinflkjcebjabGreatDoor.bk (Lib.itoa n))) ∧ Below w.heap.size w w' := by
  refine (Tryz.strconv_FormatInt_10 n h0 h1 w ht.pow).mono ?_
  rintro e w' ⟨rfl, k, os, rfl⟩
  exact ⟨rfl, below_regrown w (w.drawn + k) os⟩
theorem may_rng {o : Nat} {n : Int} (h : mayS o n = true) : shLo.getD o 0 ≤ n ∧ n ≤ shHi.getD o 0 := by
  have := (may_iff o n).1 h
  exact ⟨this.1, this.2.1⟩
set_option maxRecDepth 100000 in
set_option maxHeartbeats 2000000 in
theorem word_any (o : Nat) (n : Int) (w : World) (ho : o < 13) (hm : mayS o n = true) (ht : Tabs w) (h0 : -9223372036854775808 ≤ n) (h1 : n ≤ 9223372036854775807) :
    Calls Tryz.prog 29 #[.int .i64 (o : Int), .int .i64 n] w fun e w' => e = .returned (.string (YtchinflkjcebjabGreatDoor.bk (opW o n))) ∧ Below w.heap.size w w' := by
  obtain ⟨r0, r1⟩ := may_rng hm
  by_cases k2 : o = 2
  · subst k2
    have hb := Tryz.strconv_FormatBool (n == 1) w
    have e : Lib.formatBool (n == 1) = opW 2 n := by
      unfold opW Lib.formatBool
      rw [if_pos rfl]
      by_cases q : n = 1
      · subst q; rfl
      · rw [beq_false_of_ne q, if_neg q]; rfl
    rw [e] at hb
    have hb' : Calls Tryz.prog 59 #[.bool (n == 1)] w fun e w' => e = .returned (.string (YtchinflkjcebjabGreatDoor.bk (opW 2 n))) ∧ w' = w := hb
    clear hb e
    generalize YtchinflkjcebjabGreatDoor.bk (opW 2 n) = R at *
    go_enter Tryz.func29, Tryz.ntmps29
    go_wp2_with fail
    refine hb'.mono ?_
    rintro e w1 ⟨rfl, hw⟩
    subst w1
    go_wp2
    go_ret
    exact ⟨rfl, Below.refl _ _⟩
  by_cases k5 : o = 5 ∨ o = 6
  · have e : opW o n = (sgT.getD n.toNat e0).data.toList := by
      unfold opW
      rw [if_neg k2, if_pos k5]
    have hr : 1 ≤ n ∧ n ≤ 13 := by
      rcases k5 with rfl | rfl
      · have a : shLo.getD 5 0 = 1 := rfl
        have b : shHi.getD 5 0 = 2 := rfl
        omega
      · have a : shLo.getD 6 0 = 3 := rfl
        have b : shHi.getD 6 0 = 13 := rfl
        omega
    rw [e, bk_all]
    obtain ⟨k, rfl⟩ : ∃ k : Nat, n = (k : Int) := ⟨n.toNat, by omega⟩
    have c := ht.sgn k (by omega)
    rw [Int.toNat_natCast]
    generalize sgT.getD k e0 = s at *
    have i0 : (0 : Int) ≤ (k : Int) := by omega
    have i1 : (k : Int) < 14 := by omega
    clear e hr r0 r1 hm
    rcases k5 with rfl | rfl
    · go_enter Tryz.func29, Tryz.ntmps29
      go_wp2
      go_ret
      exact ⟨rfl, Below.refl _ _⟩
    · go_enter Tryz.func29, Tryz.ntmps29
      go_wp2
      go_ret
      exact ⟨rfl, Below.refl _ _⟩
  by_cases k9 : o = 9
  · subst k9
    have e : opW 9 n = (tyT.getD n.toNat e0).data.toList := by
      unfold opW
      rw [if_neg k2, if_neg k5, if_pos rfl]
    have hr : 1 ≤ n ∧ n ≤ 15 := by
      have a : shLo.getD 9 0 = 1 := rfl
      have b : shHi.getD 9 0 = 15 := rfl
      omega
    rw [e, bk_all]
    obtain ⟨k, rfl⟩ : ∃ k : Nat, n = (k : Int) := ⟨n.toNat, by omega⟩
    have c := ht.typ k (by omega)
    rw [Int.toNat_natCast]
    generalize tyT.getD k e0 = s at *
    have i0 : (0 : Int) ≤ (k : Int) := by omega
    have i1 : (k : Int) < 20 := by omega
    clear e hr r0 r1 hm
    go_enter Tryz.func29, Tryz.ntmps29
    go_wp2
    go_ret
    exact ⟨rfl, Below.refl _ _⟩
  have e : opW o n = Lib.itoa n := by
    unfold opW
    rw [if_neg k2, if_neg k5, if_neg k9]
  rw [e]
  have hf := fmt_any n w h0 h1 ht
  generalize YtchinflkjcebjabGreatDoor.bk (Lib.itoa n) = R at *
  have q2 : ((o : Int) == 2) = false := by rw [beq_eq_false_iff_ne]; omega
  have q5 : ((o : Int) == 5) = false := by rw [beq_eq_false_iff_ne]; omega
  have q6 : ((o : Int) == 6) = false := by rw [beq_eq_false_iff_ne]; omega
  have q9 : ((o : Int) == 9) = false := by rw [beq_eq_false_iff_ne]; omega
  clear e k2 k5 k9 r0 r1
  go_enter Tryz.func29, Tryz.ntmps29
  go_wp2_with fail
  refine hf.mono ?_
  rintro e w1 ⟨rfl, hb⟩
  go_wp2
  go_ret
  exact ⟨rfl, hb⟩
end Go.Proofs.YtchinflkjcebjabGreatDoor
