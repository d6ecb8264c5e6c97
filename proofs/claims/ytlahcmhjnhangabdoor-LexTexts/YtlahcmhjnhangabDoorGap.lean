import Derived.BigGuard
import Derived.BigCall
import Derived.Deep.CutRange
import Derived.Test.YtlahcmhjnhangabDoorCovMath
import Derived.Test.YtlahcmhjnhangabDoorScan
namespace Go.Proofs.YtlahcmhjnhangabDoor
open Go.RowKit

theorem refBlank_any (c : UInt8) (w : World) : Calls Tryd.prog 30 #[.int .u8 (c.toNat : Int)] w fun e w' => e = .returned (.bool (blankB c)) ∧ w = w' := by
  have hc := UInt8.toNat_lt c
  unfold blankB
  generalize (c.toNat : Int) = n
  go_enter Tryd.func30, Tryd.ntmps30
  go_wp2
  all_goals go_ret
  all_goals (refine ⟨?_, rfl⟩; simp_all)
  all_goals (generalize (n == 9) = a; generalize (n == 10) = b; generalize (n == 13) = c; generalize (n == 32) = d; cases a <;> cases b <;> cases c <;> cases d <;> rfl)

set_option maxRecDepth 100000 in
set_option maxHeartbeats 2000000 in
theorem refGap_any (t : ByteArray) (k : Nat) (w : World) (ht : t.size ≤ 140737488355328) (hk : k ≤ t.size) :
    Calls Tryd.prog 21 #[.string t, .int .i64 (k : Int)] w fun e w' => e = .returned (.int .i64 ((k + gpS false (t.data.toList.drop k) : Nat) : Int)) ∧ w = w' := by
  obtain ⟨R, hR⟩ : ∃ R, k + gpS false (t.data.toList.drop k) = R := ⟨_, rfl⟩
  rw [hR]
  have HR : Hid (k + gpS false (t.data.toList.drop k) = R) := hR
  clear hR
  go_enter Tryd.func21, Tryd.ntmps21
  go_wp2
  go_loop [1, 5] (fun i b => ∃ (j : Nat) (q : Bool), j ≤ t.size ∧ i = .int .i64 (j : Int) ∧ b = .bool q ∧ Hid (j + gpS q (t.data.toList.drop j) = R)) (fun i _ => t.size - (intOf i).toNat)
  case atStart => exact ⟨k, false, hk, rfl, rfl, HR⟩
  case round =>
    clear HR
    obtain ⟨j, q, hj, rfl, rfl, hx⟩ := hrel
    by_cases hlt : j < t.size
    · obtain ⟨c, hc⟩ : ∃ c, t[j]'hlt = c := ⟨_, rfl⟩
      have hdr := drop_at t j hlt
      rw [hc] at hdr
      have hx' := hx.out
      rw [hdr] at hx'
      clear hx hdr
      have HB : Hid (∀ (w : World), Calls Tryd.prog 30 #[.int .u8 (c.toNat : Int)] w fun e w' => e = .returned (.bool (blankB c)) ∧ w = w') := fun w => refBlank_any c w
      cases q with
      | true =>
        simp only [gpS] at hx'
        by_cases h10 : c = 10
        · subst h10
          rw [if_pos rfl] at hx'
          have HX : Hid (j + 1 + gpS false (t.data.toList.drop (j + 1)) = R) := by show _ = _; omega
          clear hx'
          go_wp2
          exact ⟨⟨j + 1, false, by omega, by go_num, rfl, HX⟩, by simp [intOf]; omega⟩
        · rw [if_neg h10] at hx'
          have b10 := u8ne (n := 10) (by omega) h10
          have HX : Hid (j + 1 + gpS true (t.data.toList.drop (j + 1)) = R) := by show _ = _; omega
          clear hx' h10
          go_wp2
          exact ⟨⟨j + 1, true, by omega, by go_num, rfl, HX⟩, by simp [intOf]; omega⟩
      | false =>
        simp only [gpS] at hx'
        by_cases h35 : c = 35
        · subst h35
          rw [if_pos rfl] at hx'
          have HX : Hid (j + 1 + gpS true (t.data.toList.drop (j + 1)) = R) := by show _ = _; omega
          clear hx'
          go_wp2
          exact ⟨⟨j + 1, true, by omega, by go_num, rfl, HX⟩, by simp [intOf]; omega⟩
        · rw [if_neg h35] at hx'
          have b35 := u8ne (n := 35) (by omega) h35
          by_cases hb : blankB c = true
          · rw [if_pos hb] at hx'
            rw [hb] at HB
            have HX : Hid (j + 1 + gpS false (t.data.toList.drop (j + 1)) = R) := by show _ = _; omega
            clear hx' h35 hb
            go_wp2_with (first
              | (go_at_call 30; refine (HB.out _).mono ?_; rintro e w2 ⟨rfl, hw2⟩; subst hw2)
              | go_in)
            exact ⟨⟨j + 1, false, by omega, by go_num, rfl, HX⟩, by simp [intOf]; omega⟩
          · rw [if_neg hb] at hx'
            rw [show blankB c = false from by simpa using hb] at HB
            have HX : Hid (R = j) := by show _ = _; omega
            clear hx' h35 hb
            go_wp2_with (first
              | (go_at_call 30; refine (HB.out _).mono ?_; rintro e w2 ⟨rfl, hw2⟩; subst hw2)
              | go_in)
            go_ret
            exact ⟨by rw [HX.out]; rfl, rfl⟩
    · obtain rfl : j = t.size := by omega
      have HX : Hid (R = t.size) := by
        have := hx.out
        rw [List.drop_eq_nil_of_le (by rw [← Lib.size_eq]; omega)] at this
        show _ = _
        cases q <;> simp [gpS] at this <;> omega
      clear hx
      go_wp2
      go_ret
      exact ⟨by rw [HX.out]; rfl, rfl⟩

end Go.Proofs.YtlahcmhjnhangabDoor
