import Derived.Test.YtnecnchdffmhbaaDoorE03
import Derived.Test.YtnecnchdffmhbaaDoorO19
namespace Go.Proofs.YtnecnchdffmhbaaDoor
open Go.RowKit

set_option maxRecDepth 100000 in
set_option maxHeartbeats 1000000 in
theorem rnum_any (W : World) (n : Nat) (hn : n < 18446744073709551616) :
    Calls Tryd.prog 81 #[.int .u64 (n : Int)] W fun e w' => e = .returned (.string ⟨(numS n).toArray⟩) ∧ Below W.heap.size W w' := by
  go_enter Tryd.func81, Tryd.ntmps81
  go_wp2_with fail
  go_loopw [0, 3] (fun x b wr => ∃ (m : Nat) (s : ByteArray), x = .int .u64 (m : Int) ∧ b = .string s ∧ m < 18446744073709551616 ∧ Hid (s.data.toList ++ numS m = numS n ∧ Below W.heap.size W wr)) (fun x _ _ => (intOf x).toNat)
  case atStart => exact ⟨n, ⟨#[]⟩, rfl, rfl, hn, rfl, Below.refl _ _⟩
  case round =>
    obtain ⟨m, s, rfl, rfl, hm, HI⟩ := hrel
    have hs : s.size ≤ 10 := by
      have h1 := congrArg List.length HI.out.1
      rw [List.length_append] at h1
      have h2 := numS_le10 n hn
      rw [Lib.size_eq]
      omega
    by_cases hend : m < 128
    · have x1 : ¬ 128 ≤ (m : Int) := by omega
      obtain ⟨c, hc⟩ : ∃ c, UInt8.ofNat m = c := ⟨_, rfl⟩
      have hcn : (m : Int) = (c.toNat : Int) := by rw [← hc, UInt8.toNat_ofNat']; omega
      obtain ⟨s1, hs1⟩ : ∃ s1, (⟨#[c]⟩ : ByteArray) = s1 := ⟨_, rfl⟩
      have z1 : s1.size = 1 := by rw [← hs1]; rfl
      have y1 : ¬ 9223372036854775807 < s.size + s1.size := by omega
      have RC := convB wr (m : Int) c hcn
      rw [hs1] at RC
      have HN : Hid (s ++ s1 = ⟨(numS n).toArray⟩ ∧ Below W.heap.size W (wr.alloc (.cells #[.int .u8 (m : Int)] 5))) := by
        refine ⟨ba_of ?_, ?_⟩
        · rw [cat_list, ← hs1, ← HI.out.1, numS_small hend, hc]
        · exact HI.out.2.trans (((Below.refl _ wr).alloc (Nat.le_refl _) _).mono HI.out.2.size)
      clear HI hc hs1 hcn
      go_wp2
      go_ret
      exact ⟨congrArg (fun x => Ending.returned (.string x)) HN.out.1, HN.out.2⟩
    · have x1 : 128 ≤ (m : Int) := by omega
      obtain ⟨r, hr⟩ : ∃ r, m % 128 = r := ⟨_, rfl⟩
      have hri : (m : Int) % 128 = (r : Int) := by omega
      have hrl : r < 128 := by omega
      obtain ⟨c, hc⟩ : ∃ c, UInt8.ofNat (r + 128) = c := ⟨_, rfl⟩
      have hcn : 128 + (r : Int) = (c.toNat : Int) := by rw [← hc, UInt8.toNat_ofNat']; omega
      obtain ⟨s1, hs1⟩ : ∃ s1, (⟨#[c]⟩ : ByteArray) = s1 := ⟨_, rfl⟩
      have z1 : s1.size = 1 := by rw [← hs1]; rfl
      have y1 : ¬ 9223372036854775807 < s.size + s1.size := by omega
      have RC := convB wr (128 + (r : Int)) c hcn
      rw [hs1] at RC
      have HN : Hid ((s ++ s1).data.toList ++ numS (m / 128) = numS n ∧ Below W.heap.size W (wr.alloc (.cells #[.int .u8 (128 + (r : Int))] 5))) := by
        refine ⟨?_, ?_⟩
        · rw [cat_list, ← hs1, ← HI.out.1, numS_big hend, hr, hc, List.append_assoc]
          rfl
        · exact HI.out.2.trans (((Below.refl _ wr).alloc (Nat.le_refl _) _).mono HI.out.2.size)
      clear HI hc hs1 hcn hr
      go_wp2
      exact ⟨⟨m / 128, s ++ s1, by go_num, rfl, by omega, HN⟩, by simp [intOf]; omega⟩
set_option maxRecDepth 100000 in
set_option maxHeartbeats 1000000 in
theorem rsgn_any (W : World) (n : Int) (hn : -9223372036854775808 ≤ n ∧ n ≤ 9223372036854775807) :
    Calls Tryd.prog 79 #[.int .i64 n] W fun e w' => e = .returned (.string ⟨(sgnS n).toArray⟩) ∧ Below W.heap.size W w' := by
  have HC : ∀ x : Int, x = (zz n : Int) → Calls Tryd.prog 81 #[.int .u64 x] W fun e w' => e = .returned (.string ⟨(sgnS n).toArray⟩) ∧ Below W.heap.size W w' := by
    rintro x rfl
    exact rnum_any W (zz n) (zz_lt n hn)
  have hn0 := hn.1
  have hn1 := hn.2
  have hzz : (zz n : Int) = if n < 0 then 2 * (-(n + 1)) + 1 else 2 * n := by unfold zz; split <;> omega
  go_enter Tryd.func79, Tryd.ntmps79
  by_cases h0 : n < 0
  · rw [if_pos h0] at hzz
    go_wp2_with fail
    refine (HC _ (by rw [hzz]; first | done | omega | (simp only [IntKind.wrap_i64, IntKind.wrap_u64]; omega))).mono ?_
    rintro e w3 ⟨rfl, hb3⟩
    clear HC
    go_wp2_with fail
    go_ret
    exact ⟨rfl, hb3⟩
  · rw [if_neg h0] at hzz
    go_wp2_with fail
    refine (HC _ (by rw [hzz]; first | done | omega | (simp only [IntKind.wrap_i64, IntKind.wrap_u64]; omega))).mono ?_
    rintro e w3 ⟨rfl, hb3⟩
    clear HC
    go_wp2_with fail
    go_ret
    exact ⟨rfl, hb3⟩
end Go.Proofs.YtnecnchdffmhbaaDoor
