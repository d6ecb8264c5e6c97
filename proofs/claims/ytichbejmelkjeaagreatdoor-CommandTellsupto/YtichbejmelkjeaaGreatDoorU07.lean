import Derived.Test.YtichbejmelkjeaaGreatDoorProg
import Derived.WalkKit
import Derived.ProofKit
import Derived.BigCall
import Derived.BigGuard
import Derived.Below
import Derived.ChangeArms
import Derived.Deep.Cut
import Derived.Laws.Strings3
import Derived.Lib.Walk
import Derived.Test.YtichbejmelkjeaaGreatDoorU01
namespace Go.Proofs.YtichbejmelkjeaaGreatDoor.Vs
open Go.RowKit

theorem eqlV (k n : Int) (s : ByteArray) (k' n' : Int) (s' : ByteArray) : ∀ w : World,
    (binOp BinOp.eql 25 (.agg #[.int .i64 k, .int .i64 n, .string s]) (.agg #[.int .i64 k', .int .i64 n', .string s'])).run Tryz.prog w = .ok (.bool ((k == k' && n == n') && s.toList == s'.toList)) w := by
  intro w
  cases h1 : (k == k') with
  | false => simp [go_sem, h1]
  | true =>
    cases h2 : (n == n') with
    | false => simp [go_sem, h1, h2]
    | true =>
      cases h3 : (s.toList == s'.toList) with
      | false => simp [go_sem, h1, h2, h3]
      | true => simp [go_sem, h1, h2, h3]

set_option maxRecDepth 100000 in
set_option maxHeartbeats 1000000 in
theorem valid_any (k n : Int) (s : ByteArray) (w : World) (hs : s.size ≤ 9223372036854775807) : Calls Tryz.prog 34 #[.agg #[.int .i64 k, .int .i64 n, .string s]] w fun e w' => e = .returned (.bool (okV k n s)) ∧ Below w.heap.size w w' := by
  have B1 : Below w.heap.size w (w.alloc (.cells #[.int .i64 k, .int .i64 n, .string s] 25)) := (Below.refl _ w).alloc (Nat.le_refl _) _
  by_cases h0 : k = 0
  · subst h0
    have he := eqlV 0 n s 0 0 e0
    rw [e0_list] at he
    rw [show okV 0 n s = (n == 0 && s.toList == []) from rfl]
    go_enter Tryz.func34, Tryz.ntmps34
    go_wp2
    go_ret
    exact ⟨by simp, B1⟩
  by_cases h1 : k = 1
  · subst h1
    rw [show okV 1 n s = (s.toList == []) from rfl]
    go_enter Tryz.func34, Tryz.ntmps34
    go_wp2
    go_ret
    exact ⟨by simp, B1⟩
  by_cases h2 : k = 2
  · subst h2
    rw [show okV 2 n s = ((n == 0 || n == 1) && s.toList == []) from rfl]
    by_cases n0 : n = 0
    · subst n0
      go_enter Tryz.func34, Tryz.ntmps34
      go_wp2
      go_ret
      exact ⟨by simp, B1⟩
    · by_cases n1 : n = 1
      · subst n1
        go_enter Tryz.func34, Tryz.ntmps34
        go_wp2
        go_ret
        exact ⟨by simp, B1⟩
      · go_enter Tryz.func34, Tryz.ntmps34
        go_wp2
        go_ret
        exact ⟨by simp [n0, n1], B1⟩
  by_cases h3 : k = 3
  · subst h3
    rw [show okV 3 n s = (n == 0 && decide (s.size ≤ 256)) from rfl]
    by_cases n0 : n = 0
    · subst n0
      go_enter Tryz.func34, Tryz.ntmps34
      go_wp2
      go_ret
      exact ⟨by simp; omega, B1⟩
    · go_enter Tryz.func34, Tryz.ntmps34
      go_wp2
      go_ret
      exact ⟨by simp [n0], B1⟩
  by_cases h4 : k = 4
  · subst h4
    rw [show okV 4 n s = (decide (0 ≤ n) && s.toList == []) from rfl]
    by_cases n0 : 0 ≤ n
    · go_enter Tryz.func34, Tryz.ntmps34
      go_wp2
      go_ret
      exact ⟨by simp [n0], B1⟩
    · go_enter Tryz.func34, Tryz.ntmps34
      go_wp2
      go_ret
      exact ⟨by simp; omega, B1⟩
  have hk : okV k n s = false := by unfold okV; rw [if_neg h0, if_neg h1, if_neg h2, if_neg h3, if_neg h4]
  rw [hk]
  go_enter Tryz.func34, Tryz.ntmps34
  go_wp2
  go_ret
  exact ⟨rfl, B1⟩
end Go.Proofs.YtichbejmelkjeaaGreatDoor.Vs
