import Derived.Test.YtfghajokmmlijaaDoorOfs
namespace Go.Proofs.YtfghajokmmlijaaDoor
open Go.RowKit

theorem ret_u {a b : Int} (h : a = b) : Ending.returned (Value.int .u64 a) = .returned (.int .u64 b) := by rw [h]
theorem ret_i {a b : Int} (h : a = b) : Ending.returned (Value.int .i64 a) = .returned (.int .i64 b) := by rw [h]

set_option maxRecDepth 100000 in
set_option maxHeartbeats 1000000 in
theorem plus_any (a b : Int) (w : World) (ha : 0 ≤ a ∧ a < 18446744073709551616) (hb : 0 ≤ b ∧ b < 18446744073709551616) :
    Calls Tryd.prog 47 #[.int .u64 a, .int .u64 b] w fun e w' => e = .returned (.int .u64 ((a + b) % 18446744073709551616)) ∧ w' = w := by
  obtain ⟨ha0, ha1⟩ := ha
  obtain ⟨hb0, hb1⟩ := hb
  go_enter Tryd.func47, Tryd.ntmps47
  go_wp2
  go_ret
  exact ⟨ret_u (by omega), rfl⟩

set_option maxRecDepth 100000 in
set_option maxHeartbeats 1000000 in
theorem minus_any (a : Int) (w : World) (ha : 0 ≤ a ∧ a < 18446744073709551616) :
    Calls Tryd.prog 37 #[.int .u64 a] w fun e w' => e = .returned (.int .u64 ((-a) % 18446744073709551616)) ∧ w' = w := by
  obtain ⟨ha0, ha1⟩ := ha
  go_enter Tryd.func37, Tryd.ntmps37
  go_wp2_with fail
  refine (plus_any (18446744073709551615 - a) 1 _ (by omega) (by omega)).mono ?_
  rintro e _ ⟨rfl, rfl⟩
  go_wp2
  go_ret
  exact ⟨ret_u (by omega), rfl⟩

theorem mod_step (o a b : Int) : ((o + a) % 18446744073709551616 + (a + a) % 18446744073709551616 * b) % 18446744073709551616 = (o + a * (2 * b + 1)) % 18446744073709551616 := by
  rw [Int.add_emod, Int.mul_emod, Int.emod_emod_of_dvd _ (Int.dvd_refl _), Int.emod_emod_of_dvd _ (Int.dvd_refl _), ← Int.mul_emod, ← Int.add_emod]
  congr 1
  rw [Int.mul_add, Int.mul_one, show (a + a) * b = a * (2 * b) by rw [Int.add_mul, ← Int.two_mul, ← Int.mul_assoc, ← Int.mul_assoc, Int.mul_comm a 2]]
  omega
theorem mod_step0 (o a b : Int) : (o + (a + a) % 18446744073709551616 * b) % 18446744073709551616 = (o + a * (2 * b)) % 18446744073709551616 := by
  rw [Int.add_emod, Int.mul_emod, Int.emod_emod_of_dvd _ (Int.dvd_refl _), ← Int.mul_emod, ← Int.add_emod]
  congr 2
  rw [Int.add_mul, ← Int.two_mul, ← Int.mul_assoc, ← Int.mul_assoc, Int.mul_comm a 2]

set_option maxRecDepth 100000 in
set_option maxHeartbeats 1000000 in
theorem times_any (a b : Int) (w : World) (ha : 0 ≤ a ∧ a < 18446744073709551616) (hb : 0 ≤ b ∧ b < 18446744073709551616) :
    Calls Tryd.prog 48 #[.int .u64 a, .int .u64 b] w fun e w' => e = .returned (.int .u64 ((a * b) % 18446744073709551616)) ∧ w' = w := by
  obtain ⟨M, hM⟩ : ∃ M, (a * b) % 18446744073709551616 = M := ⟨_, rfl⟩
  have HM : Hid ((0 + a * b) % 18446744073709551616 = M) := by show _ = _; rw [Int.zero_add]; exact hM
  rw [hM]
  clear hM
  go_enter Tryd.func48, Tryd.ntmps48
  go_wp2_with fail
  go_loopw [0, 1, 5] (fun s0 s1 s5 wr => ∃ x y o : Int, s0 = .int .u64 x ∧ s1 = .int .u64 y ∧ s5 = .int .u64 o ∧ (0 ≤ x ∧ x < 18446744073709551616) ∧ (0 ≤ y ∧ y < 18446744073709551616) ∧ (0 ≤ o ∧ o < 18446744073709551616) ∧ Hid ((o + x * y) % 18446744073709551616 = M) ∧ wr = w) (fun _ s1 _ _ => (intOf s1).toNat)
  case atStart => exact ⟨a, b, 0, rfl, rfl, rfl, ha, hb, by omega, HM, rfl⟩
  case round =>
    clear HM ha hb
    obtain ⟨x, y, o, rfl, rfl, rfl, hx, hy, ho, hinv, rfl⟩ := hrel
    obtain ⟨hx0, hx1⟩ := id hx
    obtain ⟨hy0, hy1⟩ := id hy
    by_cases hp : 0 < y
    · by_cases hodd : y % 2 = 1
      · have HI : Hid (((o + x) % 18446744073709551616 + (x + x) % 18446744073709551616 * (y / 2)) % 18446744073709551616 = M) := by
          show _ = _
          rw [mod_step, show 2 * (y / 2) + 1 = y by omega]
          exact hinv.out
        clear hinv
        go_wp2_with (go_at_call 47; first | (with_reducible refine (plus_any o x _ ho hx).mono ?_; rintro e _ ⟨rfl, rfl⟩) | (with_reducible refine (plus_any x x _ hx hx).mono ?_; rintro e _ ⟨rfl, rfl⟩))
        exact ⟨⟨(x + x) % 18446744073709551616, y / 2, (o + x) % 18446744073709551616, rfl, rfl, rfl, by omega, by omega, by omega, HI, by first | rfl | trivial⟩, by simp [intOf]; omega⟩
      · have HI : Hid ((o + (x + x) % 18446744073709551616 * (y / 2)) % 18446744073709551616 = M) := by
          show _ = _
          rw [mod_step0, show 2 * (y / 2) = y by omega]
          exact hinv.out
        clear hinv
        have he : (y % 2 == 1) = false := by simp; omega
        go_wp2_with (go_at_call 47; refine (plus_any x x _ hx hx).mono ?_; rintro e _ ⟨rfl, rfl⟩)
        exact ⟨⟨(x + x) % 18446744073709551616, y / 2, o, rfl, rfl, rfl, by omega, by omega, ho, HI, by first | rfl | trivial⟩, by simp [intOf]; omega⟩
    · obtain rfl : y = 0 := by omega
      have hM2 : o = M := by have := hinv.out; rw [Int.mul_zero, Int.add_zero] at this; omega
      clear hinv
      subst hM2
      go_wp2
      go_ret
      exact ⟨rfl, by first | rfl | trivial⟩

set_option maxRecDepth 100000 in
set_option maxHeartbeats 1000000 in
theorem size_any (n : Int) (w : World) (hn : -9223372036854775808 ≤ n ∧ n ≤ 9223372036854775807) :
    Calls Tryd.prog 56 #[.int .i64 n] w fun e w' => e = .returned (.int .u64 (n.natAbs : Int)) ∧ w' = w := by
  obtain ⟨h0, h1⟩ := hn
  by_cases h : n < 0
  · go_enter Tryd.func56, Tryd.ntmps56
    go_wp2_with fail
    have hw : IntKind.u64.wrap n = n % 18446744073709551616 := IntKind.wrap_u64 n
    refine (minus_any _ _ (by omega)).mono ?_
    rintro e _ ⟨rfl, rfl⟩
    go_wp2
    go_ret
    exact ⟨ret_u (by omega), rfl⟩
  · go_enter Tryd.func56, Tryd.ntmps56
    go_wp2
    go_ret
    exact ⟨ret_u (by omega), rfl⟩

theorem quo_math {a b : Int} (hb : b ≠ 0) : ((a < 0) ≠ (b < 0) → a.tdiv b = -((a.natAbs / b.natAbs : Nat) : Int)) ∧ (¬ ((a < 0) ≠ (b < 0)) → a.tdiv b = ((a.natAbs / b.natAbs : Nat) : Int)) := by
  have key : ∀ x y : Nat, ((x : Int)).tdiv (y : Int) = ((x / y : Nat) : Int) := fun x y => by rw [Int.tdiv_eq_ediv_of_nonneg (by omega)]; rfl
  rcases Int.natAbs_eq a with ha | ha <;> rcases Int.natAbs_eq b with hb' | hb'
  all_goals
    generalize a.natAbs = x at ha
    generalize b.natAbs = y at hb'
    subst ha hb'
  · refine ⟨fun h => ?_, fun _ => key x y⟩
    exfalso; apply h; apply propext; constructor <;> intro h2 <;> omega
  · rw [Int.tdiv_neg, key]
    refine ⟨fun _ => rfl, fun h => ?_⟩
    by_cases hx : x = 0
    · subst hx; simp
    · exfalso; apply h; intro e; have h2 : (-(y : Int) < 0) := by omega
      rw [← e] at h2; omega
  · rw [Int.neg_tdiv, key]
    refine ⟨fun _ => rfl, fun h => ?_⟩
    by_cases hx : x = 0
    · subst hx; simp
    · exfalso; apply h; intro e; have h2 : (-(x : Int) < 0) := by omega
      rw [e] at h2; omega
  · rw [Int.tdiv_neg, Int.neg_tdiv, Int.neg_neg, key]
    refine ⟨fun h => ?_, fun _ => rfl⟩
    by_cases hx : x = 0
    · subst hx; simp
    · exfalso; apply h; apply propext; constructor <;> intro h2 <;> omega

set_option maxRecDepth 100000 in
set_option maxHeartbeats 1000000 in
theorem quotient_any (a b : Int) (w : World) (ha : -9223372036854775808 ≤ a ∧ a ≤ 9223372036854775807) (hb : -9223372036854775808 ≤ b ∧ b ≤ 9223372036854775807) (hz : b ≠ 0) :
    Calls Tryd.prog 49 #[.int .i64 a, .int .i64 b] w fun e w' => e = .returned (.int .i64 (wrap64 (a.tdiv b))) ∧ w' = w := by
  obtain ⟨m1, m2⟩ := quo_math (a := a) hz
  obtain ⟨q, hq⟩ : ∃ q : Int, ((a.natAbs / b.natAbs : Nat) : Int) = q := ⟨_, rfl⟩
  have hq0 : 0 ≤ q ∧ q ≤ 9223372036854775808 := by
    have h1 : a.natAbs / b.natAbs ≤ a.natAbs := Nat.div_le_self _ _
    have h2 : a.natAbs ≤ 9223372036854775808 := by omega
    rw [← hq]
    generalize a.natAbs / b.natAbs = z at h1
    omega
  have hqd : ((a.natAbs : Nat) : Int) / ((b.natAbs : Nat) : Int) = q := by rw [← hq]; rfl
  rw [hq] at m1 m2
  clear hq
  have ca := fun W : World => size_any a W ha
  have cb := fun W : World => size_any b W hb
  have hx : (0 : Int) ≤ (a.natAbs : Int) ∧ (a.natAbs : Int) ≤ 9223372036854775808 := by omega
  have hy : (0 : Int) < (b.natAbs : Int) ∧ (b.natAbs : Int) ≤ 9223372036854775808 := by omega
  generalize (a.natAbs : Int) = x at ca hqd hx
  generalize (b.natAbs : Int) = y at cb hqd hy
  obtain ⟨hx0, hx1⟩ := hx
  obtain ⟨hy0, hy1⟩ := hy
  obtain ⟨hq0, hq1⟩ := hq0
  have hyne : y ≠ 0 := by omega
  have cm := fun W : World => minus_any q W (by omega)
  by_cases h1 : a < 0
  · by_cases h2 : b < 0
    · have e := m2 (by simp [h1, h2])
      rw [e]
      have d1 : decide (a < 0) = true := by simp [h1]
      have d2 : decide (b < 0) = true := by simp [h2]
      clear cm
      clear m1 m2 e
      go_enter Tryd.func49, Tryd.ntmps49
      go_wp2_with fail
      refine (ca _).mono ?_
      rintro e _ ⟨rfl, rfl⟩
      go_wp2_with fail
      refine (cb _).mono ?_
      rintro e _ ⟨rfl, rfl⟩
      go_wp2
      go_ret
      exact ⟨rfl, rfl⟩
    · have e := m1 (by simp [h1, h2])
      rw [e]
      have d1 : decide (a < 0) = true := by simp [h1]
      have d2 : decide (b < 0) = false := by simpa using h2
      clear m1 m2 e
      go_enter Tryd.func49, Tryd.ntmps49
      go_wp2_with fail
      refine (ca _).mono ?_
      rintro e _ ⟨rfl, rfl⟩
      go_wp2_with fail
      refine (cb _).mono ?_
      rintro e _ ⟨rfl, rfl⟩
      go_wp2_with fail
      refine (cm _).mono ?_
      rintro e _ ⟨rfl, rfl⟩
      go_wp2
      go_ret
      exact ⟨ret_i (wrap_eq (by omega)), rfl⟩
  · by_cases h2 : b < 0
    · have e := m1 (by simp [h1, h2])
      rw [e]
      have d1 : decide (a < 0) = false := by simpa using h1
      have d2 : decide (b < 0) = true := by simp [h2]
      clear m1 m2 e
      go_enter Tryd.func49, Tryd.ntmps49
      go_wp2_with fail
      refine (ca _).mono ?_
      rintro e _ ⟨rfl, rfl⟩
      go_wp2_with fail
      refine (cb _).mono ?_
      rintro e _ ⟨rfl, rfl⟩
      go_wp2_with fail
      refine (cm _).mono ?_
      rintro e _ ⟨rfl, rfl⟩
      go_wp2
      go_ret
      exact ⟨ret_i (wrap_eq (by omega)), rfl⟩
    · have e := m2 (by simp [h1, h2])
      rw [e]
      have d1 : decide (a < 0) = false := by simpa using h1
      have d2 : decide (b < 0) = false := by simpa using h2
      clear cm
      clear m1 m2 e
      go_enter Tryd.func49, Tryd.ntmps49
      go_wp2_with fail
      refine (ca _).mono ?_
      rintro e _ ⟨rfl, rfl⟩
      go_wp2_with fail
      refine (cb _).mono ?_
      rintro e _ ⟨rfl, rfl⟩
      go_wp2
      go_ret
      exact ⟨rfl, rfl⟩
end Go.Proofs.YtfghajokmmlijaaDoor
