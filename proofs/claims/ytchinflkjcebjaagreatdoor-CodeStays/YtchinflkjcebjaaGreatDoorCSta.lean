import Derived.Test.YtchinflkjcebjaaGreatDoorCS1
import Derived.Test.YtchinflkjcebjaaGreatDoorCXe
namespace Go.Proofs.YtchinflkjcebjaaGreatDoor
open Go.RowKit

theorem lineP_c (c : UInt8) (r : Bs) (n : Int) : lineP (c :: r) n = if c = 10 then (if n = 1 then some 1 else (lineP r (n - 1)).map (· + 1)) else (lineP r n).map (· + 1) := rfl
theorem map_map1 (o : Option Nat) (k : Nat) : (o.map (· + 1)).map (· + k) = o.map (· + (k + 1)) := by
  cases o with
  | none => rfl
  | some v => simp only [Option.map_some]; congr 1; omega
/-- What line answers. -/
def LineP (R : Option Nat) (s : ByteArray) (w : World) (e : Ending) (w' : World) : Prop := ∃ T b, e = .returned (.tuple #[.string T, .bool b]) ∧ Hid (((∃ j, R = some j ∧ T = YtchinflkjcebjaaGreatDoor.bk ((lt s).take j) ∧ b = true) ∨ (R = none ∧ b = false)) ∧ w' = w)
set_option maxRecDepth 100000 in
set_option maxHeartbeats 2000000 in
theorem lineL_any (s : ByteArray) (n : Int) (w : World) (hs : s.size ≤ 281474976710656) (h0 : 0 ≤ n) (h1 : n ≤ 300000000000000) :
    Calls Tryz.prog 8 #[.string s, .int .i64 n] w (LineP (lineP (lt s) n) s w) := by
  obtain ⟨R, HR⟩ : ∃ R, Hid (R = lineP (lt s) n) := ⟨_, rfl⟩
  rw [← HR.out]
  have hsi : (s.size : Int) ≤ 281474976710656 := by omega
  go_enter Tryz.func8, Tryz.ntmps8
  go_wp2
  go_loopw [1, 6] (fun nv iv wr => ∃ (k : Nat) (m : Int), nv = .int .i64 m ∧ iv = .int .i64 (k : Int) ∧ k ≤ s.size ∧ Hid (n - (k : Int) ≤ m ∧ m ≤ n) ∧ Hid (R = (lineP ((lt s).drop k) m).map (· + k)) ∧ wr = w) (fun _ i _ => s.size - (intOf i).toNat)
  case atStart => exact ⟨0, n, rfl, rfl, Nat.zero_le _, ⟨by omega, by omega⟩, by show R = _; rw [HR.out, List.drop_zero]; cases lineP (lt s) n <;> rfl, rfl⟩
  case round =>
    obtain ⟨k, m, rfl, rfl, hk, hM, hI, hw⟩ := hrel
    subst wr
    by_cases hlt : k < s.size
    case neg =>
      have HF : Hid (R = none) := by show R = _; rw [hI.out, drop_nil s k (by omega)]; rfl
      have p1 : ¬ (k : Int) < (s.size : Int) := by omega
      clear hI HR
      go_wp2
      first | (change bodyPost Tryz.prog Tryz.f8 _ Exit.ret _ _) | (simp only [Exit.noGoto])
      exact bodyPost_ret (v := .tuple #[.string s, .bool false]) (by simp [results, Tryz.results8, go_sem]) rfl ⟨_, _, rfl, .inr ⟨HF.out, rfl⟩, rfl⟩
    have ixk := ix_lt s k hlt
    have p0 : (0 : Int) ≤ (k : Int) := by omega
    have p1 : (k : Int) < (s.size : Int) := by omega
    have HJ : Hid (R = (lineP ((lt s).getD k 0 :: (lt s).drop (k + 1)) m).map (· + k)) := by show R = _; rw [← drop_c s k hlt]; exact hI.out
    have m0 : (-281474976710656 : Int) ≤ m := by have := hM.out.1; omega
    have m1 : m ≤ 300000000000000 := by have := hM.out.2; omega
    by_cases q : (lt s).getD k 0 = 10
    · have c1 := b_eq (n := 10) (by decide) q
      by_cases qm : m = 1
      · subst qm
        have HF : Hid (R = some (k + 1)) := by
          show R = _
          rw [HJ.out, lineP_c, if_pos q, if_pos rfl, Option.map_some, Nat.add_comm]
        generalize (lt s).getD k 0 = d at *
        clear HJ hI HR
        go_wp2
        first | (change bodyPost Tryz.prog Tryz.f8 _ Exit.ret _ _) | (simp only [Exit.noGoto])
        refine bodyPost_ret (v := .tuple #[.string (s.extract 0 (k + 1)), .bool true]) (by simp [results, Tryz.results8, go_sem]) rfl ⟨_, _, rfl, .inl ⟨k + 1, HF.out, ?_, rfl⟩, rfl⟩
        have := cut_mid s 0 (k + 1)
        rwa [List.drop_zero, Nat.sub_zero] at this
      · have qn : ¬ (m - 1 = 0) := by omega
        have qb : (m - 1 == 0) = false := by rw [beq_eq_false_iff_ne]; omega
        have HF : Hid (R = (lineP ((lt s).drop (k + 1)) (m - 1)).map (· + (k + 1))) := by
          show R = _
          rw [HJ.out, lineP_c, if_pos q, if_neg qm, map_map1]
        generalize (lt s).getD k 0 = d at *
        have HM : Hid (n - ((k + 1 : Nat) : Int) ≤ m - 1 ∧ m - 1 ≤ n) := by obtain ⟨a, b⟩ := hM.out; exact ⟨by omega, by omega⟩
        clear HJ hI HR hM
        go_wp2
        exact ⟨⟨k + 1, m - 1, by go_num, by go_num, by omega, HM, HF, trivial⟩, by simp [intOf]; omega⟩
    · have c1 := b_ne (n := 10) (by decide) q
      have HF : Hid (R = (lineP ((lt s).drop (k + 1)) m).map (· + (k + 1))) := by
        show R = _
        rw [HJ.out, lineP_c, if_neg q, map_map1]
      generalize (lt s).getD k 0 = d at *
      have HM : Hid (n - ((k + 1 : Nat) : Int) ≤ m ∧ m ≤ n) := by obtain ⟨a, b⟩ := hM.out; exact ⟨by omega, by omega⟩
      clear HJ hI HR hM
      go_wp2
      exact ⟨⟨k + 1, m, by go_num, by go_num, by omega, HM, HF, trivial⟩, by simp [intOf]; omega⟩
end Go.Proofs.YtchinflkjcebjaaGreatDoor
