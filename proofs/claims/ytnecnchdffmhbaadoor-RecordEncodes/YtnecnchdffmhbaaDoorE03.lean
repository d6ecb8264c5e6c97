import Derived.Test.YtnecnchdffmhbaaDoorO11
namespace Go.Proofs.YtnecnchdffmhbaaDoor
open Go.RowKit

theorem convB (X : World) (a : Int) (c : UInt8) (ha : a = (c.toNat : Int)) : (convert 44 9 (.slice (some ⟨X.heap.size, 0, none⟩) 1 1)).run Tryd.prog (X.alloc (.cells #[.int .u8 a] 5)) = .ok (.string ⟨#[c]⟩) (X.alloc (.cells #[.int .u8 a] 5)) := by
  subst ha
  exact Lx.conv_own (base := X.heap.size) (n := 1) (l := [c]) ⟨rfl, Or.inr ⟨X.heap.size, 1, _, rfl, Nat.le_refl _, heap_alloc_new X _, Nat.le_refl _, by unfold maxLen; omega, rfl, rfl⟩⟩
theorem ofList_data (b : ByteArray) (l : List UInt8) (h : b.data.toList = l) : b = ⟨l.toArray⟩ := by
  subst h
  rfl
set_option maxRecDepth 100000 in
set_option maxHeartbeats 1000000 in
theorem wide_any (W : World) (n k : Nat) (hn : n < 18446744073709551616) (hk : k ≤ 8) :
    Calls Tryd.prog 48 #[.int .u64 (n : Int), .int .i64 (k : Int)] W fun e w' => e = .returned (.string ⟨(fxS n k).toArray⟩) ∧ Below W.heap.size W w' := by
  go_enter Tryd.func48, Tryd.ntmps48
  go_wp2_with fail
  go_loopw [0, 5, 6] (fun x b j wr => ∃ (i m : Nat) (s : ByteArray), x = .int .u64 (m : Int) ∧ b = .string s ∧ j = .int .i64 (i : Int) ∧ i ≤ k ∧ m < 18446744073709551616 ∧ Hid (m = n / 256 ^ i ∧ s.data.toList = fxS n i ∧ Below W.heap.size W wr)) (fun _ _ j _ => k - (intOf j).toNat)
  case atStart => exact ⟨0, n, ⟨#[]⟩, rfl, rfl, rfl, Nat.zero_le _, hn, by simp, rfl, Below.refl _ _⟩
  case round =>
    obtain ⟨i, m, s, rfl, rfl, rfl, hi, hm, HI⟩ := hrel
    by_cases hend : i = k
    · have HF : Hid (s = ⟨(fxS n k).toArray⟩ ∧ Below W.heap.size W wr) := ⟨ofList_data s _ (hend ▸ HI.out.2.1), HI.out.2.2⟩
      subst hend
      clear HI
      go_wp2
      go_ret
      exact ⟨by rw [← HF.out.1]; rfl, HF.out.2⟩
    · have hlt : (i : Int) < (k : Int) := by omega
      have hs : s.size = i := by rw [Lib.size_eq, HI.out.2.1, fxS_len]
      obtain ⟨c, hc⟩ : ∃ c, UInt8.ofNat m = c := ⟨_, rfl⟩
      have hcn : ((m : Int) % 256) = (c.toNat : Int) := by rw [← hc, UInt8.toNat_ofNat']; omega
      have hct := UInt8.toNat_lt c
      have y1 : ¬ 9223372036854775807 < (⟨#[c]⟩ : ByteArray).size + s.size := by
        show ¬ 9223372036854775807 < 1 + s.size
        omega
      obtain ⟨s1, hs1⟩ : ∃ s1, (⟨#[c]⟩ : ByteArray) = s1 := ⟨_, rfl⟩
      obtain ⟨s2, hs2⟩ : ∃ s2, s1 ++ s = s2 := ⟨_, rfl⟩
      have RC := convB wr ((c.toNat : Int)) c rfl
      rw [hs1] at RC y1
      have HN : Hid (m / 256 = n / 256 ^ (i + 1) ∧ s2.data.toList = fxS n (i + 1) ∧ Below W.heap.size W (wr.alloc (.cells #[.int .u8 (c.toNat : Int)] 5))) := by
        refine ⟨?_, ?_, ?_⟩
        · rw [HI.out.1, Nat.div_div_eq_div_mul, Nat.pow_succ]
        · rw [← hs2, ← hs1, ByteArray.data_append, Array.toList_append, HI.out.2.1]
          show c :: fxS n i = UInt8.ofNat (n / 256 ^ i) :: fxS n i
          rw [← hc, HI.out.1]
        · exact HI.out.2.2.trans (((Below.refl _ wr).alloc (Nat.le_refl _) _).mono HI.out.2.2.size)
      clear HI hc hs1
      go_wp2
      exact ⟨⟨i + 1, m / 256, s2, by go_num, rfl, by go_num, by omega, by omega, HN⟩, by simp [intOf]; omega⟩
end Go.Proofs.YtnecnchdffmhbaaDoor
