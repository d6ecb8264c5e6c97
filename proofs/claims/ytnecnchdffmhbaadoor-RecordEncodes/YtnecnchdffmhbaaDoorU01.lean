import Derived.Test.YtnecnchdffmhbaaDoorO20
namespace Go.Proofs.YtnecnchdffmhbaaDoor
open Go.RowKit

set_option maxRecDepth 100000 in
set_option maxHeartbeats 1000000 in
theorem rv_any (W : World) (vk vn : Int) (vs : ByteArray) (hz : vs.size ≤ 140737488355328) : Calls Tryd.prog 46 #[.agg #[.int .i64 vk, .int .i64 vn, .string vs]] W fun e w' => e = .returned (.bool (valOk vk vn vs.data.toList)) ∧ Below W.heap.size W w' := by
  have hsz : vs.size = vs.toList.length := by rw [toL]; exact Lib.size_eq vs
  have hq : (vs.size : Int) ≤ 140737488355328 := by omega
  have hk : vk = 0 ∨ vk = 1 ∨ vk = 2 ∨ vk = 3 ∨ vk = 4 ∨ (vk ≠ 0 ∧ vk ≠ 1 ∧ vk ≠ 2 ∧ vk ≠ 3 ∧ vk ≠ 4) := by omega
  clear hz
  rcases hk with rfl | rfl | rfl | rfl | rfl | ⟨k0, k1, k2, k3, k4⟩
  all_goals
    go_enter Tryd.func46, Tryd.ntmps46
    go_wp2_with fail
    all_goals
      go_ret
      refine ⟨congrArg (fun b => Ending.returned (.bool b)) ?_, (Below.refl _ W).alloc (Nat.le_refl _) _⟩
      rw [Bool.eq_iff_iff]
      unfold valOk
      rw [← toL]
      simp_all
      try omega
set_option maxRecDepth 100000 in
set_option maxHeartbeats 1000000 in
theorem rev_any (W : World) (k n vk vn : Int) (nm vs : ByteArray) (hn : nm.size ≤ 140737488355328) (hz : vs.size ≤ 140737488355328) : Calls Tryd.prog 30 #[.agg #[.int .i64 k, .int .i64 n, .string nm, .int .i64 vk, .int .i64 vn, .string vs]] W fun e w' => e = .returned (.bool (evOk ⟨k, n, nm.data.toList, vk, vn, vs.data.toList⟩)) ∧ Below W.heap.size W w' := by
  obtain ⟨X, hX⟩ : ∃ X, W.alloc (.cells #[.int .i64 k, .int .i64 n, .string nm, .int .i64 vk, .int .i64 vn, .string vs] 54) = X := ⟨_, rfl⟩
  obtain ⟨A, hA⟩ : ∃ A, W.heap.size = A := ⟨_, rfl⟩
  have fX : Full X A 54 [.int .i64 k, .int .i64 n, .string nm, .int .i64 vk, .int .i64 vn, .string vs] := by rw [← hX, ← hA]; exact Full.new W _ _
  have bX : Below W.heap.size W X := by rw [← hX]; exact (Below.refl _ W).alloc (Nat.le_refl _) _
  have HF : Hid (Full X A 54 [.int .i64 k, .int .i64 n, .string nm, .int .i64 vk, .int .i64 vn, .string vs] ∧ Below W.heap.size W X ∧ W.heap.size = A) := ⟨fX, bX, hA⟩
  have HC := rv_any X vk vn vs hz
  have HSz : Hid (nm.size = nm.data.toList.length) := Lib.size_eq nm
  have hq : (nm.size : Int) ≤ 140737488355328 := by omega
  have HE : Hid (evOk ⟨k, n, nm.data.toList, vk, vn, vs.data.toList⟩ = (valOk vk vn vs.data.toList && decide (1 ≤ k) && decide (k ≤ 8) && decide (0 ≤ n) && decide (n < 40000) && decide (nm.data.toList.length ≤ 24))) := rfl
  obtain ⟨-, -, -, e3, e4, e5⟩ := fX.six
  generalize valOk vk vn vs.data.toList = m at HC HE
  clear fX bX hn hz
  go_enter Tryd.func30, Tryd.ntmps30
  go_wp2_with fail
  refine HC.mono ?_
  rintro e w2 ⟨rfl, hb2⟩
  have H2 : Hid (Full w2 A 54 [.int .i64 k, .int .i64 n, .string nm, .int .i64 vk, .int .i64 vn, .string vs] ∧ Below W.heap.size W w2) := ⟨HF.out.1.next hb2, HF.out.2.1.trans (hb2.mono HF.out.2.1.size)⟩
  clear HC hb2 e3 e4 e5 hX
  obtain ⟨e0, e1, e2, -, -, -⟩ := H2.out.1.six
  cases m with
  | false =>
    go_wp2_with fail
    go_ret
    exact ⟨congrArg (fun b => Ending.returned (.bool b)) (by rw [HE.out]; rfl), (by first | exact H2.out.2 | (rw [← HF.out.2.2]; exact H2.out.2))⟩
  | true =>
    have hcase : k < 1 ∨ (1 ≤ k ∧ 8 < k) ∨ (1 ≤ k ∧ k ≤ 8 ∧ n < 0) ∨ (1 ≤ k ∧ k ≤ 8 ∧ 0 ≤ n ∧ 40000 ≤ n) ∨ (1 ≤ k ∧ k ≤ 8 ∧ 0 ≤ n ∧ n < 40000 ∧ 24 < (nm.size : Int)) ∨ (1 ≤ k ∧ k ≤ 8 ∧ 0 ≤ n ∧ n < 40000 ∧ (nm.size : Int) ≤ 24) := by omega
    rcases hcase with y1 | ⟨y1, y2⟩ | ⟨y1, y2, y3⟩ | ⟨y1, y2, y3, y4⟩ | ⟨y1, y2, y3, y4, y5⟩ | ⟨y1, y2, y3, y4, y5⟩
    all_goals
      go_wp2
      go_ret
      refine ⟨congrArg (fun b => Ending.returned (.bool b)) ?_, (by first | exact H2.out.2 | (rw [← HF.out.2.2]; exact H2.out.2))⟩
      have hsz := HSz.out
      rw [HE.out, Bool.eq_iff_iff]
      simp
      try omega
end Go.Proofs.YtnecnchdffmhbaaDoor
