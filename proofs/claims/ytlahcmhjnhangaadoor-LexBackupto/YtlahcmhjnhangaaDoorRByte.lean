import Derived.BigGuard
import Derived.BigCall
import Derived.Test.YtlahcmhjnhangaaDoorGap
namespace Go.Proofs.YtlahcmhjnhangaaDoor
open Go.RowKit

theorem refLetter_any (c : UInt8) (w : World) : Calls Tryd.prog 40 #[.int .u8 (c.toNat : Int)] w fun e w' => e = .returned (.bool (letterB c)) ∧ w = w' := by
  have hc := UInt8.toNat_lt c
  unfold letterB
  go_enter Tryd.func40, Tryd.ntmps40
  go_wp2
  all_goals go_ret
  all_goals (refine ⟨?_, rfl⟩; simp_all; try omega)
theorem refDigit_any (c : UInt8) (w : World) : Calls Tryd.prog 42 #[.int .u8 (c.toNat : Int)] w fun e w' => e = .returned (.bool (digitB c)) ∧ w = w' := by
  have hc := UInt8.toNat_lt c
  unfold digitB
  go_enter Tryd.func42, Tryd.ntmps42
  go_wp2
  all_goals go_ret
  all_goals (refine ⟨?_, rfl⟩; simp_all; try omega)
theorem refInner_any (c : UInt8) (w : World) : Calls Tryd.prog 52 #[.int .u8 (c.toNat : Int)] w fun e w' => e = .returned (.bool (innerB c)) ∧ w = w' := by
  have hc := UInt8.toNat_lt c
  unfold innerB
  go_enter Tryd.func52, Tryd.ntmps52
  go_wp2_with (first
    | (go_at_call 40; refine (refLetter_any c _).mono ?_; rintro e w1 ⟨rfl, rfl⟩)
    | (go_at_call 42; refine (refDigit_any c _).mono ?_; rintro e w1 ⟨rfl, rfl⟩)
    | go_in)
  all_goals go_ret
  all_goals (refine ⟨?_, rfl⟩; simp_all)

theorem nib_digit_all : ∀ n : Fin 256, 48 ≤ n.val → n.val ≤ 57 → Lib.indexByte hexs.data.toList (UInt8.ofNat n.val) = ((n.val : Nat) : Int) - 48 := by decide +kernel
theorem nib_hex_all : ∀ n : Fin 256, 97 ≤ n.val → n.val ≤ 102 → Lib.indexByte hexs.data.toList (UInt8.ofNat n.val) = ((n.val : Nat) : Int) - 87 := by decide +kernel
theorem nib_no_all : ∀ n : Fin 256, ¬ (48 ≤ n.val ∧ n.val ≤ 57) → ¬ (97 ≤ n.val ∧ n.val ≤ 102) → Lib.indexByte hexs.data.toList (UInt8.ofNat n.val) = -1 := by decide +kernel
theorem u8_of (c : UInt8) : UInt8.ofNat c.toNat = c := by simp

set_option maxHeartbeats 1000000 in
theorem nibble_any (c : UInt8) (w : World) : Calls Tryd.prog 62 #[.int .u8 (c.toNat : Int)] w fun e w' => e = .returned (.int .i64 (Lib.indexByte hexs.data.toList c)) ∧ w = w' := by
  have hc := UInt8.toNat_lt c
  have HD : Hid (∀ (w : World), Calls Tryd.prog 42 #[.int .u8 (c.toNat : Int)] w fun e w' => e = .returned (.bool (digitB c)) ∧ w = w') := fun w => refDigit_any c w
  by_cases h1 : 48 ≤ c.toNat ∧ c.toNat ≤ 57
  · have e := nib_digit_all ⟨c.toNat, hc⟩ h1.1 h1.2
    simp only [u8_of] at e
    rw [e]
    rw [show digitB c = true from by simp [digitB]; omega] at HD
    obtain ⟨h2, h3⟩ := h1
    have q1 : (48 : Int) ≤ (c.toNat : Int) := by omega
    have q2 : (c.toNat : Int) ≤ 57 := by omega
    clear e
    go_enter Tryd.func62, Tryd.ntmps62
    go_wp2_with (first
      | (go_at_call 42; refine (HD.out _).mono ?_; rintro e w1 ⟨rfl, rfl⟩)
      | go_in)
    go_ret
    exact ⟨by go_num, rfl⟩
  · rw [show digitB c = false from by simp [digitB]; omega] at HD
    by_cases h2 : 97 ≤ c.toNat ∧ c.toNat ≤ 102
    · have e := nib_hex_all ⟨c.toNat, hc⟩ h2.1 h2.2
      simp only [u8_of] at e
      rw [e]
      have q1 : (97 : Int) ≤ (c.toNat : Int) := by omega
      have q2 : (c.toNat : Int) ≤ 102 := by omega
      clear e h1 h2
      go_enter Tryd.func62, Tryd.ntmps62
      go_wp2_with (first
        | (go_at_call 42; refine (HD.out _).mono ?_; rintro e w1 ⟨rfl, rfl⟩)
        | go_in)
      go_ret
      exact ⟨by go_num, rfl⟩
    · have e := nib_no_all ⟨c.toNat, hc⟩ h1 h2
      simp only [u8_of] at e
      rw [e]
      have q : ¬ (97 : Int) ≤ (c.toNat : Int) ∨ ((97 : Int) ≤ (c.toNat : Int) ∧ ¬ (c.toNat : Int) ≤ 102) := by omega
      clear e h1 h2
      rcases q with q1 | ⟨q1, q2⟩
      all_goals
        go_enter Tryd.func62, Tryd.ntmps62
        go_wp2_with (first
          | (go_at_call 42; refine (HD.out _).mono ?_; rintro e w1 ⟨rfl, rfl⟩)
          | go_in)
        go_ret
        exact ⟨rfl, rfl⟩
end Go.Proofs.YtlahcmhjnhangaaDoor
