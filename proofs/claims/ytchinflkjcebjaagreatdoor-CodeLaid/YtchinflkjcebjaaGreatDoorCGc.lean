import Derived.Test.YtchinflkjcebjaaGreatDoorCGb
import Derived.Test.YtchinflkjcebjaaGreatDoorCS1
namespace Go.Proofs.YtchinflkjcebjaaGreatDoor
open Go.RowKit

theorem catB (x y : List UInt8) (h : x.length + y.length ≤ 9223372036854775807) : Op.stringOp .add (YtchinflkjcebjaaGreatDoor.bk x) (YtchinflkjcebjaaGreatDoor.bk y) = pure (.string (YtchinflkjcebjaaGreatDoor.bk (x ++ y))) := by
  have e : YtchinflkjcebjaaGreatDoor.bk (x ++ y) = YtchinflkjcebjaaGreatDoor.bk x ++ YtchinflkjcebjaaGreatDoor.bk y := by
    apply ByteArray.ext
    apply Array.ext'
    simp [YtchinflkjcebjaaGreatDoor.bk]
  rw [e]
  unfold Op.stringOp
  simp only
  have e2 : IntKind.i64.max = 9223372036854775807 := by decide
  rw [e2, if_neg (by
    have h1 : (YtchinflkjcebjaaGreatDoor.bk x).size = x.length := by unfold YtchinflkjcebjaaGreatDoor.bk; simp [ByteArray.size]
    have h2 : (YtchinflkjcebjaaGreatDoor.bk y).size = y.length := by unfold YtchinflkjcebjaaGreatDoor.bk; simp [ByteArray.size]
    omega)]
theorem slOne (s : ByteArray) (i : Nat) (hi : i < s.size) (k : IntKind) : ∀ w : World, (Instr.slice 9 (.string s) (some (.int k (i : Int))) (some (.int k ((i : Int) + 1))) none).run Tryz.prog w = .ok (.string (YtchinflkjcebjaaGreatDoor.bk [(lt s).getD i 0])) w := fun w => by
  have e : YtchinflkjcebjaaGreatDoor.bk [(lt s).getD i 0] = s.extract i (i + 1) := by
    rw [cut_mid, drop_c s i hi, show i + 1 - i = 1 by omega]
    rfl
  rw [e]
  have h1 : (i : Int) + 1 ≤ (s.size : Int) := by omega
  have h2 : ((i : Int) + 1).toNat = i + 1 := by omega
  have hu : Tryz.prog.underlying 9 = some .string := Tryz.underlying9.trans (by kernel_rfl)
  rw [run_slice_string (h := hu) (h0 := by omega) (h1 := by omega) (h2 := h1), h2, Int.toNat_natCast]
theorem slTwo (s : ByteArray) (i : Nat) (hi : i + 1 < s.size) (k : IntKind) : ∀ w : World, (Instr.slice 9 (.string s) (some (.int k (i : Int))) (some (.int k ((i : Int) + 2))) none).run Tryz.prog w = .ok (.string (YtchinflkjcebjaaGreatDoor.bk [(lt s).getD i 0, (lt s).getD (i + 1) 0])) w := fun w => by
  have e : YtchinflkjcebjaaGreatDoor.bk [(lt s).getD i 0, (lt s).getD (i + 1) 0] = s.extract i (i + 2) := by
    rw [cut_mid, drop_c s i (by omega), drop_c s (i + 1) hi, show i + 2 - i = 2 by omega]
    rfl
  rw [e]
  have h1 : (i : Int) + 2 ≤ (s.size : Int) := by omega
  have h2 : ((i : Int) + 2).toNat = i + 2 := by omega
  have hu : Tryz.prog.underlying 9 = some .string := Tryz.underlying9.trans (by kernel_rfl)
  rw [run_slice_string (h := hu) (h0 := by omega) (h1 := by omega) (h2 := h1), h2, Int.toNat_natCast]
def blB (c : UInt8) : UInt8 := if c.toNat % 2 = 0 then 9 else 32
theorem blS_eq (l : Bs) : blS l = 32 :: (l.take 16).map blB := rfl
set_option maxRecDepth 100000 in
set_option maxHeartbeats 4000000 in
theorem blanks_any (s : ByteArray) (w : World) (hs : s.size ≤ 140737488351232) : Calls Tryz.prog 32 #[.string s] w fun e w' => e = .returned (.string (YtchinflkjcebjaaGreatDoor.bk (blS (lt s)))) ∧ Below w.heap.size w w' := by
  have hsi : (s.size : Int) ≤ 140737488351232 := by omega
  obtain ⟨R, HR⟩ : ∃ R, Hid (R = YtchinflkjcebjaaGreatDoor.bk (blS (lt s))) := ⟨_, (rfl : YtchinflkjcebjaaGreatDoor.bk (blS (lt s)) = _)⟩
  rw [← HR.out]
  have HLL : Hid ((lt s).length = s.size) := lt_len s
  have HPl : Hid (∀ j, j ≤ 16 → ((32 : UInt8) :: ((lt s).take j).map blB).length ≤ 17) := fun j hj => by
    rw [List.length_cons, List.length_map, List.length_take]
    omega
  go_enter Tryz.func32, Tryz.ntmps32
  go_wp2_with fail
  go_loopw [3, 4] (fun v i wr => ∃ (S : ByteArray) (j : Nat), v = .string S ∧ j ≤ s.size ∧ j ≤ 16 ∧ i = .int .i64 (j : Int) ∧ Hid (S = YtchinflkjcebjaaGreatDoor.bk (32 :: ((lt s).take j).map blB)) ∧ Hid (Below w.heap.size w wr)) (fun _ i _ => 16 - (intOf i).toNat)
  case atStart => exact ⟨_, 0, rfl, Nat.zero_le _, Nat.zero_le _, rfl, (rfl : (⟨#[32]⟩ : ByteArray) = YtchinflkjcebjaaGreatDoor.bk (32 :: ((lt s).take 0).map blB)), Below.refl _ _⟩
  case round =>
    obtain ⟨S, j, rfl, hj, hj16, rfl, hS, hb⟩ := hrel
    have hln := HPl.out j hj16
    by_cases hlt : j < s.size
    case neg =>
      obtain rfl : j = s.size := by omega
      have p1 : ¬ (s.size : Int) < (s.size : Int) := by omega
      have HF : Hid (S = R) := by
        show _ = R
        rw [hS.out, HR.out, blS_eq, ← HLL.out, List.take_length, List.take_of_length_le (by rw [HLL.out]; exact hj16)]
      rw [HF.out]
      clear hS HF hln HR
      go_wp2
      first | (change bodyPost Tryz.prog Tryz.f32 _ Exit.ret _ _) | (simp only [Exit.noGoto])
      go_ret
      exact ⟨rfl, hb.out⟩
    have j1 : (j : Int) < (s.size : Int) := by omega
    by_cases hlt2 : j < 16
    case neg =>
      obtain rfl : j = 16 := by omega
      have HF : Hid (S = R) := by
        show _ = R
        rw [hS.out, HR.out, blS_eq]
      rw [HF.out]
      clear hS HF hln HR
      have p2 : ¬ ((16 : Nat) : Int) < 16 := by omega
      go_wp2
      first | (change bodyPost Tryz.prog Tryz.f32 _ Exit.ret _ _) | (simp only [Exit.noGoto])
      go_ret
      exact ⟨rfl, hb.out⟩
    have p3 : (j : Int) < 16 := by omega
    have ixj := ix_lt s j hlt
    have j0 : (0 : Int) ≤ (j : Int) := by omega
    have hnx : ((lt s).take (j + 1)).map blB = ((lt s).take j).map blB ++ [blB ((lt s).getD j 0)] := by
      have hj' : j < (lt s).length := by rw [HLL.out]; exact hlt
      rw [List.take_succ_eq_append_getElem hj', List.map_append, List.getD_eq_getElem?_getD, List.getElem?_eq_getElem hj']
      simp
    have HN : Hid (∀ l, [blB ((lt s).getD j 0)] = l → YtchinflkjcebjaaGreatDoor.bk (32 :: ((lt s).take j).map blB ++ l) = YtchinflkjcebjaaGreatDoor.bk (32 :: ((lt s).take (j + 1)).map blB)) := fun l hl => by rw [hnx, ← hl]; rfl
    clear hnx
    generalize (lt s).getD j 0 = c at *
    generalize 32 :: ((lt s).take j).map blB = A at *
    rw [hS.out]
    clear hS S HR
    have hcl := c.toNat_lt
    obtain ⟨S2, HS2⟩ : ∃ S2, Hid (S2 = YtchinflkjcebjaaGreatDoor.bk (32 :: ((lt s).take (j + 1)).map blB)) := ⟨_, (rfl : YtchinflkjcebjaaGreatDoor.bk (32 :: ((lt s).take (j + 1)).map blB) = _)⟩
    by_cases hev : c.toNat % 2 = 0
    · have kc := catB A [9] (by rw [List.length_singleton]; omega)
      rw [HN.out [9] (by unfold blB; rw [if_pos hev]), ← HS2.out] at kc
      have kc' : Op.stringOp .add (YtchinflkjcebjaaGreatDoor.bk A) ⟨#[9]⟩ = pure (.string S2) := kc
      have e1 : (c.toNat : Int) % 2 = 0 := by omega
      have e2 : ((c.toNat : Int) % 2 == 0) = true := by rw [beq_iff_eq]; exact e1
      generalize YtchinflkjcebjaaGreatDoor.bk A = SA at kc' ⊢
      clear kc HN hev
      generalize c.toNat = cn at *
      go_wp2
      exact ⟨⟨S2, j + 1, rfl, by omega, by omega, by go_num, HS2, hb⟩, by simp [intOf]; omega⟩
    · have kc := catB A [32] (by rw [List.length_singleton]; omega)
      rw [HN.out [32] (by unfold blB; rw [if_neg hev]), ← HS2.out] at kc
      have kc' : Op.stringOp .add (YtchinflkjcebjaaGreatDoor.bk A) ⟨#[32]⟩ = pure (.string S2) := kc
      have e1 : ¬ (c.toNat : Int) % 2 = 0 := by omega
      have e2 : ((c.toNat : Int) % 2 == 0) = false := by rw [beq_eq_false_iff_ne]; exact e1
      generalize YtchinflkjcebjaaGreatDoor.bk A = SA at kc' ⊢
      clear kc HN hev
      generalize c.toNat = cn at *
      go_wp2
      exact ⟨⟨S2, j + 1, rfl, by omega, by omega, by go_num, HS2, hb⟩, by simp [intOf]; omega⟩
set_option maxRecDepth 100000 in
set_option maxHeartbeats 4000000 in
theorem behind_any (s : ByteArray) (w : World) (hs : s.size ≤ 140737488351232) : Calls Tryz.prog 34 #[.string s] w fun e w' => e = .returned (.string (YtchinflkjcebjaaGreatDoor.bk (bhS (lt s)))) ∧ Below w.heap.size w w' := by
  have hsi : (s.size : Int) ≤ 140737488351232 := by omega
  obtain ⟨R, HR⟩ : ∃ R, Hid (R = YtchinflkjcebjaaGreatDoor.bk (bhS (lt s))) := ⟨_, (rfl : YtchinflkjcebjaaGreatDoor.bk (bhS (lt s)) = _)⟩
  rw [← HR.out]
  have HLL : Hid ((lt s).length = s.size) := lt_len s
  have HPl : Hid (∀ j, j ≤ 16 → (((lt s).take j).flatMap pcB).length ≤ 80) := fun j hj => by
    have := pcs_le ((lt s).take j)
    rw [List.length_take] at this
    omega
  go_enter Tryz.func34, Tryz.ntmps34
  go_wp2_with fail
  go_loopw [3, 4] (fun v i wr => ∃ (S : ByteArray) (j : Nat), v = .string S ∧ j ≤ s.size ∧ j ≤ 16 ∧ i = .int .i64 (j : Int) ∧ Hid (S = YtchinflkjcebjaaGreatDoor.bk (((lt s).take j).flatMap pcB)) ∧ Hid (Below w.heap.size w wr)) (fun _ i _ => 16 - (intOf i).toNat)
  case atStart => exact ⟨_, 0, rfl, Nat.zero_le _, Nat.zero_le _, rfl, (rfl : (⟨#[]⟩ : ByteArray) = YtchinflkjcebjaaGreatDoor.bk (((lt s).take 0).flatMap pcB)), Below.refl _ _⟩
  case round =>
    obtain ⟨S, j, rfl, hj, hj16, rfl, hS, hb⟩ := hrel
    have hln := HPl.out j hj16
    by_cases hlt : j < s.size
    case neg =>
      obtain rfl : j = s.size := by omega
      have p1 : ¬ (s.size : Int) < (s.size : Int) := by omega
      have HF : Hid (S = R) := by
        show _ = R
        rw [hS.out, HR.out]
        unfold bhS
        rw [← HLL.out, List.take_length, List.take_of_length_le (by rw [HLL.out]; exact hj16)]
      rw [HF.out]
      clear hS HF hln HR
      go_wp2
      first | (change bodyPost Tryz.prog Tryz.f34 _ Exit.ret _ _) | (simp only [Exit.noGoto])
      go_ret
      exact ⟨rfl, hb.out⟩
    have j1 : (j : Int) < (s.size : Int) := by omega
    by_cases hlt2 : j < 16
    case neg =>
      obtain rfl : j = 16 := by omega
      have HF : Hid (S = R) := by
        show _ = R
        rw [hS.out, HR.out]
        rfl
      rw [HF.out]
      clear hS HF hln HR
      have p2 : ¬ ((16 : Nat) : Int) < 16 := by omega
      go_wp2
      first | (change bodyPost Tryz.prog Tryz.f34 _ Exit.ret _ _) | (simp only [Exit.noGoto])
      go_ret
      exact ⟨rfl, hb.out⟩
    have p3 : (j : Int) < 16 := by omega
    have ixj := ix_lt s j hlt
    have j0 : (0 : Int) ≤ (j : Int) := by omega
    have hnx : ((lt s).take (j + 1)).flatMap pcB = ((lt s).take j).flatMap pcB ++ pcB ((lt s).getD j 0) := by
      have hj' : j < (lt s).length := by rw [HLL.out]; exact hlt
      rw [List.take_succ_eq_append_getElem hj', List.flatMap_append, List.getD_eq_getElem?_getD, List.getElem?_eq_getElem hj']
      simp
    have HN : Hid (∀ l, pcB ((lt s).getD j 0) = l → YtchinflkjcebjaaGreatDoor.bk (((lt s).take j).flatMap pcB ++ l) = YtchinflkjcebjaaGreatDoor.bk (((lt s).take (j + 1)).flatMap pcB)) := fun l hl => by rw [hnx, ← hl]
    clear hnx
    generalize (lt s).getD j 0 = c at *
    generalize ((lt s).take j).flatMap pcB = A at *
    rw [hS.out]
    clear hS S HR
    have hcl := c.toNat_lt
    obtain ⟨S2, HS2⟩ : ∃ S2, Hid (S2 = YtchinflkjcebjaaGreatDoor.bk (((lt s).take (j + 1)).flatMap pcB)) := ⟨_, (rfl : YtchinflkjcebjaaGreatDoor.bk (((lt s).take (j + 1)).flatMap pcB) = _)⟩
    by_cases h0 : c.toNat % 4 = 0
    · have kc := catB A [32] (by rw [show ([32] : List UInt8).length = 1 from rfl]; omega)
      rw [HN.out [32] (by unfold pcB; rw [if_pos h0]), ← HS2.out] at kc
      have kc' : Op.stringOp .add (YtchinflkjcebjaaGreatDoor.bk A) ⟨#[32]⟩ = pure (.string S2) := kc
      have e1 : (c.toNat : Int) % 4 = 0 := by omega
      generalize YtchinflkjcebjaaGreatDoor.bk A = SA at kc' ⊢
      clear kc HN h0
      generalize c.toNat = cn at *
      go_wp2
      exact ⟨⟨S2, j + 1, rfl, by omega, by omega, by go_num, HS2, hb⟩, by simp [intOf]; omega⟩
    have m0 : ¬ (c.toNat : Int) % 4 = 0 := by omega
    have b0 : ((c.toNat : Int) % 4 == 0) = false := by rw [beq_eq_false_iff_ne]; exact m0
    by_cases h1 : c.toNat % 4 = 1
    · have kc := catB A [32, 35, 32, 34, 120] (by rw [show ([32, 35, 32, 34, 120] : List UInt8).length = 5 from rfl]; omega)
      rw [HN.out [32, 35, 32, 34, 120] (by unfold pcB; rw [if_neg h0, if_pos h1]), ← HS2.out] at kc
      have kc' : Op.stringOp .add (YtchinflkjcebjaaGreatDoor.bk A) ⟨#[32, 35, 32, 34, 120]⟩ = pure (.string S2) := kc
      have e1 : (c.toNat : Int) % 4 = 1 := by omega
      generalize YtchinflkjcebjaaGreatDoor.bk A = SA at kc' ⊢
      clear kc HN h0 h1
      generalize c.toNat = cn at *
      go_wp2
      exact ⟨⟨S2, j + 1, rfl, by omega, by omega, by go_num, HS2, hb⟩, by simp [intOf]; omega⟩
    have m1 : ¬ (c.toNat : Int) % 4 = 1 := by omega
    have b1 : ((c.toNat : Int) % 4 == 1) = false := by rw [beq_eq_false_iff_ne]; exact m1
    by_cases h2 : c.toNat % 4 = 2
    · have kc := catB A [10] (by rw [show ([10] : List UInt8).length = 1 from rfl]; omega)
      rw [HN.out [10] (by unfold pcB; rw [if_neg h0, if_neg h1, if_pos h2]), ← HS2.out] at kc
      have kc' : Op.stringOp .add (YtchinflkjcebjaaGreatDoor.bk A) ⟨#[10]⟩ = pure (.string S2) := kc
      have e1 : (c.toNat : Int) % 4 = 2 := by omega
      generalize YtchinflkjcebjaaGreatDoor.bk A = SA at kc' ⊢
      clear kc HN h0 h1 h2
      generalize c.toNat = cn at *
      go_wp2
      exact ⟨⟨S2, j + 1, rfl, by omega, by omega, by go_num, HS2, hb⟩, by simp [intOf]; omega⟩
    have m2 : ¬ (c.toNat : Int) % 4 = 2 := by omega
    have b2 : ((c.toNat : Int) % 4 == 2) = false := by rw [beq_eq_false_iff_ne]; exact m2
    have kc : YtchinflkjcebjaaGreatDoor.bk A = S2 := by
      have := HN.out [] (by unfold pcB; rw [if_neg h0, if_neg h1, if_neg h2])
      rw [List.append_nil] at this
      rw [this, HS2.out]
    rw [kc]
    clear kc HN h0 h1 h2
    generalize c.toNat = cn at *
    go_wp2
    exact ⟨⟨S2, j + 1, rfl, by omega, by omega, by go_num, HS2, hb⟩, by simp [intOf]; omega⟩
end Go.Proofs.YtchinflkjcebjaaGreatDoor
