import Derived.Test.YtnnglgolddhigaaDoorProg
import Derived.Test.YtnnglgolddhigaaDoorMath
import Derived.BigGuard
import Derived.Deep.Cut
import Derived.BigCall
import Derived.WalkKit
import Derived.Lib.Walk
import Derived.Lib.Strings
import Derived.Laws.Strings3
namespace Go.Proofs.YtnnglgolddhigaaDoor
open Go.RowKit

def preB (s p : ByteArray) : Bool := decide (p.size ≤ s.size) && ((s.extract 0 p.size).toList == p.toList)
def sufB (s p : ByteArray) : Bool := decide (p.size ≤ s.size) && ((s.extract (s.size - p.size) s.size).toList == p.toList)

set_option maxHeartbeats 1000000 in
theorem hasPrefix_any (s p : ByteArray) (w : World) : Calls Tryd.prog 12 #[.string s, .string p] w fun e w' => e = .returned (.bool (preB s p)) ∧ w' = w := by
  unfold preB
  go_enter Tryd.func12, Tryd.ntmps12
  go_wp2
  · rename_i h
    go_ret
    refine ⟨?_, rfl⟩
    show Ending.returned (Value.bool ((s.extract 0 p.size).toList == p.toList)) = _
    simp [h]
  · rename_i h
    go_ret
    refine ⟨?_, rfl⟩
    show Ending.returned (Value.bool false) = _
    simp [h]

set_option maxHeartbeats 1000000 in
theorem hasSuffix_any (s p : ByteArray) (w : World) (hs : s.size ≤ 9223372036854775807) : Calls Tryd.prog 13 #[.string s, .string p] w fun e w' => e = .returned (.bool (sufB s p)) ∧ w' = w := by
  unfold sufB
  have hlo : p.size ≤ s.size → ((s.size : Int) - (p.size : Int) + 9223372036854775808) % 18446744073709551616 - 9223372036854775808 = ((s.size - p.size : Nat) : Int) := fun _ => by omega
  go_enter Tryd.func13, Tryd.ntmps13
  go_wp2
  · have h : p.size ≤ s.size := by assumption
    go_ret
    refine ⟨?_, rfl⟩
    show Ending.returned (Value.bool ((s.extract (s.size - p.size) s.size).toList == p.toList)) = _
    simp [h]
  · have h : ¬ p.size ≤ s.size := by assumption
    go_ret
    refine ⟨?_, rfl⟩
    show Ending.returned (Value.bool false) = _
    simp [h]

set_option maxHeartbeats 1000000 in
theorem cutPrefixL_any (s p : ByteArray) (w : World) : Calls Tryd.prog 10 #[.string s, .string p] w fun e w' => e = .returned (.tuple #[.string (if preB s p then s.extract p.size s.size else s), .bool (preB s p)]) ∧ w' = w := by
  cases h : preB s p with
  | false =>
    go_enter Tryd.func10, Tryd.ntmps10
    go_wp2_with (first | (go_at_call 12; refine (hasPrefix_any s p _).mono ?_; rintro e w1 ⟨rfl, hw⟩; rw [hw, h]) | go_in)
    go_ret2
    exact ⟨rfl, rfl⟩
  | true =>
    have h1 : p.size ≤ s.size := by unfold preB at h; simp at h; exact h.1
    go_enter Tryd.func10, Tryd.ntmps10
    go_wp2_with (first | (go_at_call 12; refine (hasPrefix_any s p _).mono ?_; rintro e w1 ⟨rfl, hw⟩; rw [hw, h]) | go_in)
    go_ret2
    exact ⟨rfl, rfl⟩

set_option maxHeartbeats 1000000 in
theorem cutSuffixL_any (s p : ByteArray) (w : World) (hs : s.size ≤ 9223372036854775807) : Calls Tryd.prog 11 #[.string s, .string p] w fun e w' => e = .returned (.tuple #[.string (if sufB s p then s.extract 0 (s.size - p.size) else s), .bool (sufB s p)]) ∧ w' = w := by
  cases h : sufB s p with
  | false =>
    go_enter Tryd.func11, Tryd.ntmps11
    go_wp2_with (first | (go_at_call 13; refine (hasSuffix_any s p _ hs).mono ?_; rintro e w1 ⟨rfl, hw⟩; rw [hw, h]) | go_in)
    go_ret2
    exact ⟨rfl, rfl⟩
  | true =>
    have h1 : p.size ≤ s.size := by unfold sufB at h; simp at h; exact h.1
    have hlo : ((s.size : Int) - (p.size : Int) + 9223372036854775808) % 18446744073709551616 - 9223372036854775808 = ((s.size - p.size : Nat) : Int) := by omega
    have hlo2 : (s.size : Int) - (p.size : Int) = ((s.size - p.size : Nat) : Int) := by omega
    go_enter Tryd.func11, Tryd.ntmps11
    go_wp2_with (first | (go_at_call 13; refine (hasSuffix_any s p _ hs).mono ?_; rintro e w1 ⟨rfl, hw⟩; rw [hw, h]) | go_in)
    go_ret2
    exact ⟨rfl, rfl⟩

set_option maxHeartbeats 1000000 in
theorem cutPrefix_any (s p : ByteArray) (w : World) : Calls Tryd.prog 8 #[.string s, .string p] w fun e w' => e = .returned (.tuple #[.string (if preB s p then s.extract p.size s.size else s), .bool (preB s p)]) ∧ w' = w := by
  go_enter Tryd.func8, Tryd.ntmps8
  go_wp2_with (first | (go_at_call 10; refine (cutPrefixL_any s p _).mono ?_; rintro e w1 ⟨rfl, hw⟩; rw [hw]) | go_in)
  all_goals go_ret2
  all_goals exact ⟨rfl, rfl⟩

set_option maxHeartbeats 1000000 in
theorem cutSuffix_any (s p : ByteArray) (w : World) (hs : s.size ≤ 9223372036854775807) : Calls Tryd.prog 9 #[.string s, .string p] w fun e w' => e = .returned (.tuple #[.string (if sufB s p then s.extract 0 (s.size - p.size) else s), .bool (sufB s p)]) ∧ w' = w := by
  go_enter Tryd.func9, Tryd.ntmps9
  go_wp2_with (first | (go_at_call 11; refine (cutSuffixL_any s p _ hs).mono ?_; rintro e w1 ⟨rfl, hw⟩; rw [hw]) | go_in)
  all_goals go_ret2
  all_goals exact ⟨rfl, rfl⟩
end Go.Proofs.YtnnglgolddhigaaDoor
