import Derived.Test.YtichbejmelkjeaaDoorLxFirst
namespace Go.Proofs.YtichbejmelkjeaaDoor.Lx
open Go.RowKit

theorem or_all : ∀ m n : Fin 16, bits BinOp.or IntKind.i64 (((m.val : Nat) : Int) * 16) ((n.val : Nat) : Int) % 256 = (((UInt8.ofNat (16 * m.val + n.val)).toNat : Nat) : Int) := by decide +kernel
theorem or_at (x y : Int) (hx : 0 ≤ x) (hx1 : x < 16) (hy : 0 ≤ y) (hy1 : y < 16) : bits BinOp.or IntKind.i64 (x * 16) y % 256 = ((UInt8.ofNat (16 * x.toNat + y.toNat)).toNat : Int) := by
  have h := or_all ⟨x.toNat, by omega⟩ ⟨y.toNat, by omega⟩
  rw [show ((x.toNat : Nat) : Int) = x from by omega, show ((y.toNat : Nat) : Int) = y from by omega] at h
  exact h

section
variable (r : ByteArray) (w : World)

set_option maxRecDepth 100000 in
set_option maxHeartbeats 2000000 in
theorem first_hex (a b : UInt8) (h0 : 3 < r.size) (hc : r[0]'(by omega) = 92) (ha : r[2]'(by omega) = a) (hb : r[3]'h0 = b) (p1 : Lib.hasPrefix r.data.toList [92, 110] = false) (p2 : Lib.hasPrefix r.data.toList [92, 34] = false) (p3 : Lib.hasPrefix r.data.toList [92, 92] = false)
    (p4 : Lib.hasPrefix r.data.toList [92, 120] = true) (x y : Int) (hx : Lib.indexByte hexs.data.toList a = x) (hy : Lib.indexByte hexs.data.toList b = y) (hx1 : x < 16) (hy1 : y < 16) (hx0 : -1 ≤ x) (hy0 : -1 ≤ y) :
    Calls Tryd.prog 68 #[.string r] w fun e w' => e = .returned (pcV (if 0 ≤ x ∧ 0 ≤ y then (UInt8.ofNat (16 * x.toNat + y.toNat), 4) else (0, 0))) ∧ w = w' := by
  have H1 := pre_calls r w ⟨#[92, 110]⟩ false p1
  have H2 := pre_calls r w ⟨#[92, 34]⟩ false p2
  have H3 := pre_calls r w ⟨#[92, 92]⟩ false p3
  have H4 := pre_calls r w ⟨#[92, 120]⟩ true p4
  have HX : Hid (Calls Tryd.prog 57 #[.string hexs, .int .u8 (a.toNat : Int)] w fun e w' => e = .returned (.int .i64 x) ∧ w' = w) := by
    have h := Tryd.strings_IndexByte hexs (a.toNat : Int) w
    rw [show ((a.toNat : Int).toNat.toUInt8) = a from by simp, hx] at h
    exact h
  have HY : Hid (Calls Tryd.prog 57 #[.string hexs, .int .u8 (b.toNat : Int)] w fun e w' => e = .returned (.int .i64 y) ∧ w' = w) := by
    have h := Tryd.strings_IndexByte hexs (b.toNat : Int) w
    rw [show ((b.toNat : Int).toNat.toUInt8) = b from by simp, hy] at h
    exact h
  have i0 : (0 : Int) < (r.size : Int) := by omega
  have i2 : (2 : Int) < (r.size : Int) := by omega
  have i3 : (3 : Int) < (r.size : Int) := by omega
  have i4 : (4 : Int) ≤ (r.size : Int) := by omega
  have z0 : 0 < r.size := by omega
  have z2 : 2 < r.size := by omega
  clear p1 p2 p3 p4 hx hy
  by_cases hok : 0 ≤ x ∧ 0 ≤ y
  · rw [if_pos hok]
    obtain ⟨o1, o2⟩ := hok
    go_enter Tryd.func68, Tryd.ntmps68
    go_wp2_with (first
      | (go_at_call 69; first | (refine H1.out.mono ?_; rintro e w2 ⟨rfl, hw⟩; subst hw) | (refine H2.out.mono ?_; rintro e w2 ⟨rfl, hw⟩; subst hw) | (refine H3.out.mono ?_; rintro e w2 ⟨rfl, hw⟩; subst hw) | (refine H4.out.mono ?_; rintro e w2 ⟨rfl, hw⟩; subst hw))
      | (go_at_call 57; first | (refine HX.out.mono ?_; rintro e w2 ⟨rfl, hw⟩; subst hw) | (refine HY.out.mono ?_; rintro e w2 ⟨rfl, hw⟩; subst hw))
      | go_in)
    have HE : Hid (bits BinOp.or IntKind.i64 (x * 16) y % 256 = ((UInt8.ofNat (16 * x.toNat + y.toNat)).toNat : Int)) := or_at x y o1 hx1 o2 hy1
    refine bodyPost_ret (v := .tuple #[.int .u8 (bits BinOp.or IntKind.i64 (x * 16) y % 256), .int .i64 4]) (by simp [results, Tryd.results68, go_sem]) rfl ⟨?_, rfl⟩
    rw [HE.out]
    rfl
  · rw [if_neg hok]
    have hno : ¬ 0 ≤ x ∨ (0 ≤ x ∧ ¬ 0 ≤ y) := by omega
    clear hok
    rcases hno with o1 | ⟨o1, o2⟩
    all_goals
      go_enter Tryd.func68, Tryd.ntmps68
      go_wp2_with (first
        | (go_at_call 69; first | (refine H1.out.mono ?_; rintro e w2 ⟨rfl, hw⟩; subst hw) | (refine H2.out.mono ?_; rintro e w2 ⟨rfl, hw⟩; subst hw) | (refine H3.out.mono ?_; rintro e w2 ⟨rfl, hw⟩; subst hw) | (refine H4.out.mono ?_; rintro e w2 ⟨rfl, hw⟩; subst hw))
        | (go_at_call 57; first | (refine HX.out.mono ?_; rintro e w2 ⟨rfl, hw⟩; subst hw) | (refine HY.out.mono ?_; rintro e w2 ⟨rfl, hw⟩; subst hw))
        | go_in)
      go_ret2
      exact ⟨rfl, rfl⟩
end
end Go.Proofs.YtichbejmelkjeaaDoor.Lx
