import Derived.Test.YtnecnchdffmhbaaDoorE04
namespace Go.Proofs.YtnecnchdffmhbaaDoor
open Go.RowKit

theorem fxS_one (n : Nat) : fxS n 1 = [UInt8.ofNat n] := by simp [fxS]
set_option maxRecDepth 100000 in
set_option maxHeartbeats 1000000 in
theorem rval_any (W : World) (vk vn : Int) (vs : ByteArray) (hok : valOk vk vn vs.data.toList = true) (hvn : -9223372036854775808 ≤ vn ∧ vn ≤ 9223372036854775807) :
    Calls Tryd.prog 82 #[.agg #[.int .i64 vk, .int .i64 vn, .string vs]] W fun e w' => e = .returned (.string ⟨(vlS vk vn vs.data.toList).toArray⟩) ∧ Below W.heap.size W w' := by
  have hb1 : Below W.heap.size W (W.alloc (.cells #[.int .i64 vk, .int .i64 vn, .string vs] 52)) := (Below.refl _ W).alloc (Nat.le_refl _) _
  have hsz : vs.size = vs.data.toList.length := Lib.size_eq vs
  have hk := valOk_kind hok
  have hk : vk = 0 ∨ vk = 1 ∨ vk = 2 ∨ vk = 3 ∨ vk = 4 := by omega
  have HB1 : Hid (Below W.heap.size W (W.alloc (.cells #[.int .i64 vk, .int .i64 vn, .string vs] 52))) := hb1
  rcases hk with rfl | rfl | rfl | rfl | rfl
  · clear hb1
    go_enter Tryd.func82, Tryd.ntmps82
    go_wp2_with fail
    go_ret
    exact ⟨rfl, HB1.out⟩
  · have HC := rsgn_any (W.alloc (.cells #[.int .i64 1, .int .i64 vn, .string vs] 52)) vn hvn
    clear hb1
    go_enter Tryd.func82, Tryd.ntmps82
    go_wp2_with fail
    refine HC.mono ?_
    rintro e w3 ⟨rfl, hb3⟩
    have HB3 : Hid (Below W.heap.size W w3) := below2 HB1.out hb3
    clear HC hb3 HB1
    go_wp2_with fail
    go_ret
    exact ⟨rfl, HB3.out⟩
  · have hv : vn = 0 ∨ vn = 1 := by
      unfold valOk at hok
      simp at hok
      omega
    have HC := wide_any (W.alloc (.cells #[.int .i64 2, .int .i64 vn, .string vs] 52)) vn.toNat 1 (by omega) (by decide)
    rw [fxS_one, Int.toNat_of_nonneg (by omega)] at HC
    have hv0 : 0 ≤ vn := by omega
    have hv1 : vn ≤ 1 := by omega
    clear hb1 hok hv
    go_enter Tryd.func82, Tryd.ntmps82
    go_wp2_with fail
    refine HC.mono ?_
    rintro e w3 ⟨rfl, hb3⟩
    have HB3 : Hid (Below W.heap.size W w3) := below2 HB1.out hb3
    clear HC hb3 HB1
    go_wp2_with fail
    go_ret
    exact ⟨rfl, HB3.out⟩
  · have hv : vs.size ≤ 256 := by
      unfold valOk at hok
      simp at hok
      omega
    have HC := fun os d => rnum_any (Sort.grow (redrawn (W.alloc (.cells #[.int .i64 3, .int .i64 vn, .string vs] 52)) d) os) vs.size (by omega)
    obtain ⟨s1, hs1⟩ : ∃ s1, (⟨(numS vs.size).toArray⟩ : ByteArray) = s1 := ⟨_, rfl⟩
    rw [hs1] at HC
    have z1 : s1.size ≤ 10 := by rw [← hs1, ba_size]; exact numS_le10 _ (by omega)
    have qv : (vs.size : Int) ≤ 256 := by omega
    have qv0 : (0 : Int) ≤ (vs.size : Int) := by omega
    have y1 : s1.size + vs.size ≤ 9223372036854775807 := by omega
    have HV : Hid (s1 ++ vs = ⟨(vlS 3 vn vs.data.toList).toArray⟩) := by
      apply ba_of
      rw [cat_list, ← hs1, hsz]
      rfl
    have p1 : ∀ d os, Calls Tryd.prog 81 #[.int .u64 (vs.size : Int)] (Sort.grow (redrawn (W.alloc (.cells #[.int .i64 3, .int .i64 vn, .string vs] 52)) d) os) fun e w'' => e = .returned (.string s1) ∧ ∃ p : Regrown, w'' = Sort.grow (redrawn (W.alloc (.cells #[.int .i64 3, .int .i64 vn, .string vs] 52)) p.d) p.os := fun d os => Calls.regrown_of (HC os d)
    have f1 : Full (W.alloc (.cells #[.int .i64 3, .int .i64 vn, .string vs] 52)) W.heap.size 52 [.int .i64 3, .int .i64 vn, .string vs] := Full.new W _ _
    obtain ⟨X, hX⟩ : ∃ X, W.alloc (.cells #[.int .i64 3, .int .i64 vn, .string vs] 52) = X := ⟨_, rfl⟩
    rw [hX] at p1 f1 HB1
    have i2 := cell_regrown (f1.cell 2 _ rfl).1
    have c0 := (f1.cell 0 _ rfl).1
    clear hb1 hok HC hs1 z1 f1 hsz
    go_enter Tryd.func82, Tryd.ntmps82
    go_upto_region 7 with fail
    refine wp_region_quiet_below (by kernel_rfl) (by kernel_rfl) ?_
    repeat (first | go_big_quiet_step (first | with_reducible exact p1 _ _) | quiet_step (first | with_reducible exact p1 _ _))
    refine wpQuiet_nil ?_
    intro _ hw'
    obtain ⟨⟨dq, osq⟩, hw''⟩ := hw'
    subst hw''
    have hY := below_regrown X dq osq
    first | (change Exit.then _ _ Exit.normal _ (Sort.grow (redrawn X dq) osq)) | skip
    generalize Sort.grow (redrawn X dq) osq = Y8 at hY ⊢
    clear p1 i2 c0
    go_wp2
    go_ret
    exact ⟨congrArg (fun x => Ending.returned (.string x)) HV.out, HB1.out.trans (hY.mono HB1.out.size)⟩
  · have hv : 0 ≤ vn := by
      unfold valOk at hok
      simp at hok
      omega
    have HC := rnum_any (W.alloc (.cells #[.int .i64 4, .int .i64 vn, .string vs] 52)) vn.toNat (by omega)
    rw [Int.toNat_of_nonneg (by omega)] at HC
    clear hb1 hok
    go_enter Tryd.func82, Tryd.ntmps82
    go_wp2_with fail
    refine HC.mono ?_
    rintro e w3 ⟨rfl, hb3⟩
    have HB3 : Hid (Below W.heap.size W w3) := below2 HB1.out hb3
    clear HC hb3 HB1
    go_wp2_with fail
    go_ret
    exact ⟨rfl, HB3.out⟩
end Go.Proofs.YtnecnchdffmhbaaDoor
