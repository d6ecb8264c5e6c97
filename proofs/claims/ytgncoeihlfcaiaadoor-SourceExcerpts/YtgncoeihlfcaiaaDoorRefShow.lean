import Derived.Laws.DeepStrings4
import Derived.Test.YtgncoeihlfcaiaaDoorRow
namespace Go.Proofs.YtgncoeihlfcaiaaDoor
open Go.RowKit Go.Shelf

theorem ba_append (a b : List UInt8) : (⟨a.toArray⟩ : ByteArray) ++ ⟨b.toArray⟩ = ⟨(a ++ b).toArray⟩ := by
  apply ByteArray.ext
  apply Array.ext'
  show ((⟨a.toArray⟩ : ByteArray) ++ (⟨b.toArray⟩ : ByteArray)).data.toList = _
  simp

theorem bl_succ (k : Nat) : bl k ++ ⟨#[32]⟩ = bl (k + 1) := by
  have h := ba_append (List.replicate k 32) [32]
  have e : List.replicate k (32 : UInt8) ++ [32] = List.replicate (k + 1) 32 := by rw [List.replicate_succ']
  rw [e] at h
  exact h

set_option maxHeartbeats 400000 in
theorem rblanks_any (c : Nat) (n : Int) (b : ByteArray) (w : World) (hc : c ≤ 140737488355328) (hn : Hid (n = (c : Int))) (hb : Hid (b = bl c)) :
    Calls Tryd.prog 17 #[.int .i64 n] w fun e w' => e = .returned (.string b) ∧ w' = w := by
  rw [hn.out, hb.out]
  clear hn hb
  go_enter Tryd.func17, Tryd.ntmps17
  go_wp2
  go_loop [3, 4] (fun s3 s4 => ∃ (k : Nat) (x : ByteArray), k ≤ c ∧ s3 = .string x ∧ s4 = .int .i64 (k : Int) ∧ Hid (x = bl k)) (fun _ s4 => c - (intOf s4).toNat)
  case atStart => exact ⟨0, _, Nat.zero_le _, rfl, rfl, rfl⟩
  case round =>
    obtain ⟨k, x, hk, rfl, rfl, hx⟩ := hrel
    have hxs : x.size = k := by rw [hx.out, bl_size]
    have hxs1 : x.size ≤ k := by omega
    clear hxs
    by_cases hlt : k < c
    · go_wp2
      go_round
      case rel => exact ⟨k + 1, _, by omega, rfl, by go_num, by show x ++ ⟨#[32]⟩ = bl (k + 1); rw [hx.out]; exact bl_succ k⟩
      case measure => simp [intOf]; omega
    · have e : k = c := by omega
      subst e
      go_wp2
      go_ret
      exact ⟨by rw [← hx.out]; rfl, rfl⟩

/-- What has been shown when k bytes are over. -/
def shT (s : ByteArray) (k : Nat) : ByteArray := ⟨((s.data.toList.take k).map sh).toArray⟩
theorem shT_succ (s : ByteArray) (k : Nat) (hk : k < s.size) : shT s k ++ ⟨#[sh s[k]]⟩ = shT s (k + 1) := by
  have h := ba_append ((s.data.toList.take k).map sh) [sh s[k]]
  have e : (s.data.toList.take k).map sh ++ [sh s[k]] = (s.data.toList.take (k + 1)).map sh := by
    rw [List.take_succ_eq_append_getElem (by rw [← Lib.size_eq]; exact hk), List.map_append]
    rfl
  rw [e] at h
  exact h
theorem shT_size (s : ByteArray) (k : Nat) (hk : k ≤ s.size) : (shT s k).size = k := by
  rw [Lib.size_eq]
  simp [shT]
  omega

theorem one_byte (s : ByteArray) (k : Nat) (hk : k < s.size) : s.extract k (k + 1) = ⟨#[s[k]]⟩ := by
  rw [Lib.extract_eq, show k + 1 - k = 1 from by omega, List.drop_eq_getElem_cons (by rw [← Lib.size_eq]; exact hk)]
  rfl

set_option maxRecDepth 100000 in
set_option maxHeartbeats 1000000 in
theorem rshown_any (s b : ByteArray) (w : World) (hs : s.size ≤ 140737488355328) (hb : Hid (b = shB s)) :
    Calls Tryd.prog 18 #[.string s] w fun e w' => e = .returned (.string b) ∧ w' = w := by
  go_enter Tryd.func18, Tryd.ntmps18
  go_wp2
  go_loop [3, 4] (fun s3 s4 => ∃ (k : Nat) (x : ByteArray), k ≤ s.size ∧ s3 = .string x ∧ s4 = .int .i64 (k : Int) ∧ Hid (x = shT s k)) (fun _ s4 => s.size - (intOf s4).toNat)
  case atStart => exact ⟨0, _, Nat.zero_le _, rfl, rfl, rfl⟩
  case round =>
    obtain ⟨k, x, hk, rfl, rfl, hx⟩ := hrel
    have hxs : x.size ≤ k := by rw [hx.out, shT_size s k hk]; exact Nat.le_refl _
    by_cases hlt : k < s.size
    · have hstep := shT_succ s k hlt
      rw [← hx.out] at hstep
      have hone := one_byte s k hlt
      have HO : Hid (s.extract k (k + 1) = ⟨#[s[k]]⟩) := hone
      obtain ⟨c, hc⟩ : ∃ c : UInt8, s[k] = c := ⟨_, rfl⟩
      have HC : Hid (s[k] = c) := hc
      rw [hc] at hstep
      have HS : Hid (x ++ ⟨#[sh c]⟩ = shT s (k + 1)) := hstep
      clear hstep hone
      have hc9 := UInt8.toNat_lt c
      by_cases h9 : c = 9
      · subst h9
        go_wp2
        go_round
        case rel => exact ⟨k + 1, _, by omega, rfl, by go_num, HS.out⟩
        case measure => simp [intOf]; omega
      · have b9 : ((c.toNat : Int) == 9) = false := by
          rw [beq_eq_false_iff_ne]
          intro e
          exact h9 (UInt8.toNat_inj.1 (by show c.toNat = 9; omega))
        by_cases ho : (c.toNat : Int) < 32 ∨ 126 < (c.toNat : Int)
        · have e : sh c = 46 := by unfold sh; rw [if_neg h9, if_pos (by omega)]
          have HS2 : Hid (x ++ ⟨#[46]⟩ = shT s (k + 1)) := by have h := HS.out; rw [e] at h; exact h
          clear e h9 HS
          have ho2 : (c.toNat : Int) < 32 ∨ (¬ (c.toNat : Int) < 32 ∧ 126 < (c.toNat : Int)) := by omega
          clear ho
          rcases ho2 with h1 | ⟨h1, h2⟩
          all_goals
            go_wp2
            go_round
            case rel => exact ⟨k + 1, _, by omega, rfl, by go_num, HS2.out⟩
            case measure => simp [intOf]; omega
        · have e : sh c = c := by unfold sh; rw [if_neg h9, if_neg (by omega)]
          have HS2 : Hid (x ++ s.extract k (k + 1) = shT s (k + 1)) := by have h := HS.out; rw [e, ← HC.out, ← HO.out] at h; exact h
          clear e h9 HS
          have h1 : ¬ (c.toNat : Int) < 32 := by omega
          have h2 : ¬ 126 < (c.toNat : Int) := by omega
          have hes : (s.extract k (k + 1)).size ≤ 1 := by rw [HO.out]; exact Nat.le_refl _
          clear ho
          go_wp2
          go_round
          case rel => exact ⟨k + 1, _, by omega, rfl, by go_num, HS2.out⟩
          case measure => simp [intOf]; omega
    · have e : k = s.size := by omega
      subst e
      go_wp2
      go_ret
      refine ⟨?_, rfl⟩
      have e2 : x = b := by rw [hx.out, hb.out]; unfold shT shB; rw [List.take_of_length_le (by rw [← Lib.size_eq]; exact Nat.le_refl _)]
      rw [← e2]
      rfl

end Go.Proofs.YtgncoeihlfcaiaaDoor
