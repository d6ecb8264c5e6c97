import Derived.Test.YtichbejmelkjeaaDoorLxFive
namespace Go.Proofs.YtichbejmelkjeaaDoor.Lx
open Go.RowKit

theorem u8ne {c : UInt8} {n : Nat} (hn : n < 256) (h : c ≠ UInt8.ofNat n) : ((c.toNat : Int) == (n : Int)) = false := by
  rw [beq_eq_false_iff_ne]
  intro e
  apply h
  apply UInt8.toNat_inj.1
  rw [UInt8.toNat_ofNat_of_lt' (by simpa using hn)]
  omega

def pcV (x : UInt8 × Nat) : Value := .tuple #[.int .u8 (x.1.toNat : Int), .int .i64 (x.2 : Int)]

section
variable (r : ByteArray) (w : World)

theorem pre_calls (p : ByteArray) (b : Bool) (h : Lib.hasPrefix r.data.toList p.data.toList = b) : Hid (Calls Tryd.prog 69 #[.string r, .string p] w fun e w' => e = .returned (.bool b) ∧ w' = w) := by
  have := Tryd.strings_HasPrefix r p w
  rw [h] at this
  exact this

set_option maxRecDepth 100000 in
set_option maxHeartbeats 2000000 in
theorem first_plain (c : UInt8) (h0 : 0 < r.size) (hc : r[0]'h0 = c) (h92 : c ≠ 92) :
    Calls Tryd.prog 68 #[.string r] w fun e w' => e = .returned (pcV (if plainB c = true then (c, 1) else (0, 0))) ∧ w = w' := by
  have b1 := u8ne (n := 92) (by omega) h92
  have HP : Hid (Calls Tryd.prog 73 #[.int .u8 (c.toNat : Int)] w fun e w' => e = .returned (.bool (plainB c)) ∧ w = w') := isPlain_any c w
  clear h92
  have i0 : (0 : Int) < (r.size : Int) := by omega
  by_cases hp : plainB c = true
  · rw [hp] at HP
    rw [if_pos hp]
    clear hp
    go_enter Tryd.func68, Tryd.ntmps68
    go_wp2_with (first
      | (go_at_call 73; refine HP.out.mono ?_; rintro e w2 ⟨rfl, rfl⟩)
      | go_in)
    go_ret2
    exact ⟨rfl, rfl⟩
  · rw [show plainB c = false from by simpa using hp] at HP
    rw [if_neg hp]
    clear hp
    go_enter Tryd.func68, Tryd.ntmps68
    go_wp2_with (first
      | (go_at_call 73; refine HP.out.mono ?_; rintro e w2 ⟨rfl, rfl⟩)
      | go_in)
    go_ret2
    exact ⟨rfl, rfl⟩

set_option maxRecDepth 100000 in
set_option maxHeartbeats 2000000 in
theorem first_n (h0 : 0 < r.size) (hc : r[0]'h0 = 92) (p1 : Lib.hasPrefix r.data.toList [92, 110] = true) :
    Calls Tryd.prog 68 #[.string r] w fun e w' => e = .returned (pcV (10, 2)) ∧ w = w' := by
  have H1 := pre_calls r w ⟨#[92, 110]⟩ true p1
  have i0 : (0 : Int) < (r.size : Int) := by omega
  clear p1
  go_enter Tryd.func68, Tryd.ntmps68
  go_wp2_with (first
    | (go_at_call 69; refine H1.out.mono ?_; rintro e w2 ⟨rfl, hw⟩; subst hw)
    | go_in)
  go_ret2
  exact ⟨rfl, rfl⟩

set_option maxRecDepth 100000 in
set_option maxHeartbeats 2000000 in
theorem first_self (d : UInt8) (h0 : 1 < r.size) (hc : r[0]'(by omega) = 92) (hd : r[1]'h0 = d) (p1 : Lib.hasPrefix r.data.toList [92, 110] = false) (p2 : Lib.hasPrefix r.data.toList [92, 34] = true ∨ (Lib.hasPrefix r.data.toList [92, 34] = false ∧ Lib.hasPrefix r.data.toList [92, 92] = true)) :
    Calls Tryd.prog 68 #[.string r] w fun e w' => e = .returned (pcV (d, 2)) ∧ w = w' := by
  have H1 := pre_calls r w ⟨#[92, 110]⟩ false p1
  have i0 : (0 : Int) < (r.size : Int) := by omega
  have i1 : (1 : Int) < (r.size : Int) := by omega
  have hz : 0 < r.size := by omega
  clear p1
  rcases p2 with p2 | ⟨p2, p3⟩
  · have H2 := pre_calls r w ⟨#[92, 34]⟩ true p2
    clear p2
    go_enter Tryd.func68, Tryd.ntmps68
    go_wp2_with (first
      | (go_at_call 69; first | (refine H1.out.mono ?_; rintro e w2 ⟨rfl, hw⟩; subst hw) | (refine H2.out.mono ?_; rintro e w2 ⟨rfl, hw⟩; subst hw))
      | go_in)
    go_ret2
    exact ⟨rfl, rfl⟩
  · have H2 := pre_calls r w ⟨#[92, 34]⟩ false p2
    have H3 := pre_calls r w ⟨#[92, 92]⟩ true p3
    clear p2 p3
    go_enter Tryd.func68, Tryd.ntmps68
    go_wp2_with (first
      | (go_at_call 69; first | (refine H1.out.mono ?_; rintro e w2 ⟨rfl, hw⟩; subst hw) | (refine H2.out.mono ?_; rintro e w2 ⟨rfl, hw⟩; subst hw) | (refine H3.out.mono ?_; rintro e w2 ⟨rfl, hw⟩; subst hw))
      | go_in)
    go_ret2
    exact ⟨rfl, rfl⟩

set_option maxRecDepth 100000 in
set_option maxHeartbeats 2000000 in
theorem first_none (h0 : 0 < r.size) (hc : r[0]'h0 = 92) (p1 : Lib.hasPrefix r.data.toList [92, 110] = false) (p2 : Lib.hasPrefix r.data.toList [92, 34] = false) (p3 : Lib.hasPrefix r.data.toList [92, 92] = false)
    (p4 : Lib.hasPrefix r.data.toList [92, 120] = false ∨ (Lib.hasPrefix r.data.toList [92, 120] = true ∧ r.size < 4)) :
    Calls Tryd.prog 68 #[.string r] w fun e w' => e = .returned (pcV (0, 0)) ∧ w = w' := by
  have H1 := pre_calls r w ⟨#[92, 110]⟩ false p1
  have H2 := pre_calls r w ⟨#[92, 34]⟩ false p2
  have H3 := pre_calls r w ⟨#[92, 92]⟩ false p3
  have i0 : (0 : Int) < (r.size : Int) := by omega
  clear p1 p2 p3
  rcases p4 with p4 | ⟨p4, h4⟩
  · have H4 := pre_calls r w ⟨#[92, 120]⟩ false p4
    clear p4
    go_enter Tryd.func68, Tryd.ntmps68
    go_wp2_with (first
      | (go_at_call 69; first | (refine H1.out.mono ?_; rintro e w2 ⟨rfl, hw⟩; subst hw) | (refine H2.out.mono ?_; rintro e w2 ⟨rfl, hw⟩; subst hw) | (refine H3.out.mono ?_; rintro e w2 ⟨rfl, hw⟩; subst hw) | (refine H4.out.mono ?_; rintro e w2 ⟨rfl, hw⟩; subst hw))
      | go_in)
    go_ret2
    exact ⟨rfl, rfl⟩
  · have H4 := pre_calls r w ⟨#[92, 120]⟩ true p4
    have h4' : ¬ (4 : Int) ≤ (r.size : Int) := by omega
    clear p4
    go_enter Tryd.func68, Tryd.ntmps68
    go_wp2_with (first
      | (go_at_call 69; first | (refine H1.out.mono ?_; rintro e w2 ⟨rfl, hw⟩; subst hw) | (refine H2.out.mono ?_; rintro e w2 ⟨rfl, hw⟩; subst hw) | (refine H3.out.mono ?_; rintro e w2 ⟨rfl, hw⟩; subst hw) | (refine H4.out.mono ?_; rintro e w2 ⟨rfl, hw⟩; subst hw))
      | go_in)
    go_ret2
    exact ⟨rfl, rfl⟩

end
end Go.Proofs.YtichbejmelkjeaaDoor.Lx
