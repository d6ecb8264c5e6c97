import Derived.Test.YtichbejmelkjeaaGreatDoorU08
import Derived.Test.YtichbejmelkjeaaGreatDoorU13
namespace Go.Proofs.YtichbejmelkjeaaGreatDoor.Vs
open Go.RowKit

set_option maxHeartbeats 400000 in
theorem clone_any (s : ByteArray) (w : World) (hs : s.size ≤ 281474976710656) : Calls Tryz.prog 31 #[.string s] w fun e w' => e = .returned (.string s) ∧ Below w.heap.size w w' := by
  go_enter Tryz.func31, Tryz.ntmps31
  go_wp2_with (go_at_call 59; refine (Tryz.stringslite_Clone s w hs).mono ?_; rintro e w1 ⟨rfl, hb1⟩)
  go_ret
  exact ⟨rfl, hb1⟩

/-- is tells whether a value may be and is of that kind. -/
def isS (k n : Int) (s : ByteArray) (K : Int) : Bool := k == K && okV k n s
end Go.Proofs.YtichbejmelkjeaaGreatDoor.Vs

namespace Go.Proofs.YtichbejmelkjeaaGreatDoor.Vs
open Go.RowKit

set_option maxRecDepth 100000 in
set_option maxHeartbeats 1000000 in
theorem rvalid_any (k n : Int) (s : ByteArray) (w : World) (hs : s.size ≤ 9223372036854775807) : Calls Tryz.prog 38 #[.agg #[.int .i64 k, .int .i64 n, .string s]] w fun e w' => e = .returned (.bool (okV k n s)) ∧ Below w.heap.size w w' := by
  have B1 : Below w.heap.size w (w.alloc (.cells #[.int .i64 k, .int .i64 n, .string s] 25)) := (Below.refl _ w).alloc (Nat.le_refl _) _
  by_cases h0 : k = 0
  · subst h0
    rw [show okV 0 n s = (n == 0 && s.toList == []) from rfl]
    by_cases n0 : n = 0
    · subst n0
      go_enter Tryz.func38, Tryz.ntmps38
      go_wp2
      go_ret
      exact ⟨by simp, B1⟩
    · have nb : (n == 0) = false := by simp [n0]
      go_enter Tryz.func38, Tryz.ntmps38
      go_wp2
      go_ret
      exact ⟨by simp [n0], B1⟩
  by_cases h1 : k = 1
  · subst h1
    rw [show okV 1 n s = (s.toList == []) from rfl]
    go_enter Tryz.func38, Tryz.ntmps38
    go_wp2
    go_ret
    exact ⟨by simp, B1⟩
  by_cases h2 : k = 2
  · subst h2
    rw [show okV 2 n s = ((n == 0 || n == 1) && s.toList == []) from rfl]
    by_cases hs0 : s.toList = []
    · obtain rfl := eq_e0 hs0
      by_cases n0 : n = 0
      · subst n0
        go_enter Tryz.func38, Tryz.ntmps38
        go_wp2
        go_ret
        exact ⟨by simp, B1⟩
      · have nb : (n == 0) = false := by simp [n0]
        go_enter Tryz.func38, Tryz.ntmps38
        go_wp2
        go_ret
        exact ⟨by simp [n0], B1⟩
    · have sb : (s.toList == []) = false := by simp [hs0]
      have sb2 : s.toList.isEmpty = false := by simp [hs0]
      go_enter Tryz.func38, Tryz.ntmps38
      go_wp2
      go_ret
      exact ⟨by simp [hs0], B1⟩
  by_cases h3 : k = 3
  · subst h3
    rw [show okV 3 n s = (n == 0 && decide (s.size ≤ 256)) from rfl]
    by_cases n0 : n = 0
    · subst n0
      go_enter Tryz.func38, Tryz.ntmps38
      go_wp2
      go_ret
      exact ⟨by simp; omega, B1⟩
    · have nb : (n == 0) = false := by simp [n0]
      go_enter Tryz.func38, Tryz.ntmps38
      go_wp2
      go_ret
      exact ⟨by simp [n0], B1⟩
  by_cases h4 : k = 4
  · subst h4
    rw [show okV 4 n s = (decide (0 ≤ n) && s.toList == []) from rfl]
    by_cases hs0 : s.toList = []
    · obtain rfl := eq_e0 hs0
      go_enter Tryz.func38, Tryz.ntmps38
      go_wp2
      go_ret
      exact ⟨by simp, B1⟩
    · have sb : (s.toList == []) = false := by simp [hs0]
      have sb2 : s.toList.isEmpty = false := by simp [hs0]
      go_enter Tryz.func38, Tryz.ntmps38
      go_wp2
      go_ret
      exact ⟨by simp [hs0], B1⟩
  have hk : okV k n s = false := by unfold okV; rw [if_neg h0, if_neg h1, if_neg h2, if_neg h3, if_neg h4]
  rw [hk]
  go_enter Tryz.func38, Tryz.ntmps38
  go_wp2
  go_ret
  exact ⟨rfl, B1⟩



set_option maxRecDepth 100000 in
set_option maxHeartbeats 1000000 in
theorem operand_any (k n : Int) (s : ByteArray) (K : Int) (w : World) (hs : s.size ≤ 9223372036854775807) : Calls Tryz.prog 63 #[.agg #[.int .i64 k, .int .i64 n, .string s], .int .i64 K] w fun e w' => e = .returned (.bool (isS k n s K)) ∧ Below w.heap.size w w' := by
  have B1 : Below w.heap.size w (w.alloc (.cells #[.int .i64 k, .int .i64 n, .string s] 25)) := (Below.refl _ w).alloc (Nat.le_refl _) _
  unfold isS
  by_cases h : k = K
  · subst h
    rw [show (k == k && okV k n s) = okV k n s by simp]
    go_enter Tryz.func63, Tryz.ntmps63
    go_wp2_with fail
    refine (rvalid_any k n s _ hs).mono ?_
    rintro e w1 ⟨rfl, hb⟩
    go_wp2
    go_ret
    exact ⟨rfl, B1.trans (hb.mono B1.size)⟩
  · rw [show (k == K && okV k n s) = false by simp [h]]
    go_enter Tryz.func63, Tryz.ntmps63
    go_wp2
    go_ret
    exact ⟨rfl, B1⟩
end Go.Proofs.YtichbejmelkjeaaGreatDoor.Vs
