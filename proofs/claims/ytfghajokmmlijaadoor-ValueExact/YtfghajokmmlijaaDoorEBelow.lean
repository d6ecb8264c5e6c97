import Derived.Test.YtfghajokmmlijaaDoorCmp
import Derived.Test.YtfghajokmmlijaaDoorOMath
import Derived.Lib.QuietBelow
import Derived.BigQuiet
namespace Go.Proofs.YtfghajokmmlijaaDoor
open Go.RowKit

theorem ix_run (a : ByteArray) (j : Nat) (h : j < a.size) : ∀ w : World, (Instr.index 9 (.string a) (.int .i64 (j : Int))).run Tryd.prog w = .ok (.int .u8 ((a[j]).toNat : Int)) w := by
  intro w
  have h1 : (j : Int) < (a.size : Int) := by omega
  simp [Instr.index, asIntOf, go_sem, h]
theorem drop_at (a : ByteArray) (j : Nat) (h : j < a.size) : a.data.toList.drop j = a[j] :: a.data.toList.drop (j + 1) := by
  rw [List.drop_eq_getElem_cons (by rw [Array.length_toList]; exact h)]
  rfl

set_option maxRecDepth 100000 in
set_option maxHeartbeats 2000000 in
theorem below_any (a b : ByteArray) (w : World) (ha : a.size ≤ 256) (_hb : b.size ≤ 256) : Calls Tryd.prog 32 #[.string a, .string b] w fun e w' => e = .returned (.bool (Op.bytesLess a.toList b.toList)) ∧ Below w.heap.size w w' := by
  obtain ⟨R, hR⟩ : ∃ R, Op.bytesLess a.toList b.toList = R := ⟨_, rfl⟩
  have HR : Hid (Op.bytesLess (a.data.toList.drop 0) (b.data.toList.drop 0) = R) := by show _ = _; rw [List.drop_zero, List.drop_zero, ← ByteArray.toList_eq, ← ByteArray.toList_eq]; exact hR
  rw [hR]
  clear hR
  go_enter Tryd.func32, Tryd.ntmps32
  go_wp2_with fail
  go_loopw [5] (fun i wr => ∃ j : Nat, j ≤ a.size ∧ j ≤ b.size ∧ i = .int .i64 (j : Int) ∧ Hid (Op.bytesLess (a.data.toList.drop j) (b.data.toList.drop j) = R) ∧ Hid (Below w.heap.size w wr)) (fun i _ => a.size - (intOf i).toNat)
  case atStart => exact ⟨0, Nat.zero_le _, Nat.zero_le _, rfl, HR, Below.refl _ w⟩
  case round =>
    clear HR
    obtain ⟨j, ja, jb, rfl, hinv, hB⟩ := hrel
    by_cases la : j < a.size
    · by_cases lb : j < b.size
      · have e1 := drop_at a j la
        have e2 := drop_at b j lb
        have hinv2 := hinv.out
        rw [e1, e2] at hinv2
        clear hinv e1 e2
        have hixa := ix_run a j la
        have hixb := ix_run b j lb
        have hxe : (((a[j]).toNat : Int) = ((b[j]).toNat : Int)) ↔ a[j] = b[j] := ⟨fun h => UInt8.toNat_inj.1 (by omega), fun h => by rw [h]⟩
        have hx1 : (0 : Int) ≤ ((a[j]).toNat : Int) ∧ ((a[j]).toNat : Int) ≤ 255 := by have := (a[j]).toNat_lt; omega
        have hy1 : (0 : Int) ≤ ((b[j]).toNat : Int) ∧ ((b[j]).toNat : Int) ≤ 255 := by have := (b[j]).toNat_lt; omega
        have hlt : Op.bytesLess (a[j] :: a.data.toList.drop (j + 1)) (b[j] :: b.data.toList.drop (j + 1)) = (decide (((a[j]).toNat : Int) < ((b[j]).toNat : Int)) || (decide (((a[j]).toNat : Int) = ((b[j]).toNat : Int)) && Op.bytesLess (a.data.toList.drop (j + 1)) (b.data.toList.drop (j + 1)))) := by
          rw [Op.bytesLess]
          congr 1
          · rw [decide_eq_decide, UInt8.lt_iff_toNat_lt]; omega
          · congr 1
            cases hq : (a[j] == b[j]) with
            | true => simp at hq; simp [hq]
            | false => simp at hq; symm; rw [decide_eq_false_iff_not, hxe]; exact hq
        rw [hlt] at hinv2
        clear hlt hxe
        generalize ((a[j]).toNat : Int) = x at hixa hx1 hinv2
        generalize ((b[j]).toNat : Int) = y at hixb hy1 hinv2
        obtain ⟨hx0, hx1⟩ := hx1
        obtain ⟨hy0, hy1⟩ := hy1
        have hja : (j : Int) < (a.size : Int) := by omega
        have hjb : (j : Int) < (b.size : Int) := by omega
        by_cases hxy : x = y
        · subst hxy
          have H2 : Hid (Op.bytesLess (a.data.toList.drop (j + 1)) (b.data.toList.drop (j + 1)) = R) := by show _ = _; simpa using hinv2
          clear hinv2
          go_wp2_with fail
          refine wp_region_quiet_below (by kernel_rfl) (by kernel_rfl) ?_
          repeat (first | go_big_quiet_step (fail) | quiet_step (fail))
          refine wpQuiet_nil ?_
          intro _ hw'
          obtain ⟨⟨dq, osq⟩, hw''⟩ := hw'
          subst hw''
          have hY := below_regrown wr dq osq
          change Exit.then _ _ Exit.normal _ (Sort.grow (redrawn wr dq) osq)
          generalize Sort.grow (redrawn wr dq) osq = Y at hY ⊢
          have HB : Hid (Below w.heap.size w Y) := hB.out.trans (hY.mono hB.out.size)
          clear hB hY
          go_wp2
          exact ⟨⟨j + 1, by omega, by omega, by go_num, H2, HB⟩, by simp [intOf]; omega⟩
        · have hne : (x == y) = false := by simp [hxy]
          have H2 : Hid (decide (x < y) = R) := by show _ = _; simpa [hxy] using hinv2
          clear hinv2
          go_wp2_with fail
          refine wp_region_quiet_below (by kernel_rfl) (by kernel_rfl) ?_
          repeat (first | go_big_quiet_step (fail) | quiet_step (fail))
          refine wpQuiet_nil ?_
          intro _ hw'
          obtain ⟨⟨dq, osq⟩, hw''⟩ := hw'
          subst hw''
          have hY := below_regrown wr dq osq
          change Exit.then _ _ Exit.normal _ (Sort.grow (redrawn wr dq) osq)
          generalize Sort.grow (redrawn wr dq) osq = Y at hY ⊢
          have HB : Hid (Below w.heap.size w Y) := hB.out.trans (hY.mono hB.out.size)
          clear hB hY
          go_wp2_with fail
          refine wp_region_quiet_below (by kernel_rfl) (by kernel_rfl) ?_
          repeat (first | go_big_quiet_step (fail) | quiet_step (fail))
          refine wpQuiet_nil ?_
          intro _ hw'
          obtain ⟨⟨dq, osq⟩, hw''⟩ := hw'
          subst hw''
          have hY := below_regrown Y dq osq
          change Exit.then _ _ Exit.normal _ (Sort.grow (redrawn Y dq) osq)
          generalize Sort.grow (redrawn Y dq) osq = Z at hY ⊢
          have B9 : Below w.heap.size w Z := HB.out.trans (hY.mono HB.out.size)
          go_wp2
          go_ret
          exact ⟨by rw [← H2.out]; rfl, B9⟩
      · obtain rfl : j = b.size := by omega
        have hR2 : R = false := by
          have h := hinv.out
          rw [drop_at a _ la, show b.data.toList.drop b.size = [] by rw [List.drop_eq_nil_iff, Array.length_toList]; exact Nat.le_refl _] at h
          rw [← h]; rfl
        subst hR2
        have n1 : ((b.size : Int) < (a.size : Int)) := by omega
        have n2 : ¬ ((b.size : Int) < (b.size : Int)) := by omega
        have n3 : ¬ ((a.size : Int) < (b.size : Int)) := by omega
        clear hinv
        go_wp2
        go_ret
        exact ⟨by simp, hB.out⟩
    · obtain rfl : j = a.size := by omega
      have hR2 : R = decide ((a.size : Int) < (b.size : Int)) := by
        have h := hinv.out
        rw [show a.data.toList.drop a.size = [] by rw [List.drop_eq_nil_iff, Array.length_toList]; exact Nat.le_refl _] at h
        by_cases l2 : a.size < b.size
        · rw [drop_at b _ l2] at h
          rw [← h]; simp [Op.bytesLess]; omega
        · rw [show b.data.toList.drop a.size = [] by rw [List.drop_eq_nil_iff, Array.length_toList]; show b.size ≤ a.size; omega] at h
          rw [← h]; simp [Op.bytesLess]; omega
      subst hR2
      clear hinv
      have n1 : ¬ ((a.size : Int) < (a.size : Int)) := by omega
      go_wp2
      go_ret
      exact ⟨rfl, hB.out⟩
end Go.Proofs.YtfghajokmmlijaaDoor
