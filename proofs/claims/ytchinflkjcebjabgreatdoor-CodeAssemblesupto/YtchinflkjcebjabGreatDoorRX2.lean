import Derived.Test.YtchinflkjcebjabGreatDoorRX1
import Derived.Test.YtchinflkjcebjabGreatDoorRPa
import Derived.Test.YtchinflkjcebjabGreatDoorCOp
namespace Go.Proofs.YtchinflkjcebjabGreatDoor
open Go.RowKit

/-! Numbers, sorts, operands. -/
def rnumT (t : Tk) : Option Int := if t.2 = true then none else rnumS t.1
theorem wrap_i64r (n : Int) : i64 (wrap64 n) := by
  unfold i64 wrap64
  omega
theorem wrap_pos (V : Nat) (h : V ≤ 9223372036854775807) : wrap64 (V : Int) = (V : Int) := by
  unfold wrap64
  omega
theorem wrap_neg (V : Nat) (h : V ≤ 9223372036854775808) : wrap64 (IntKind.u64.wrap (-(V : Int))) = -(V : Int) := by
  have e : IntKind.u64.wrap (-(V : Int)) = (-(V : Int)) % 18446744073709551616 := by simp [IntKind.wrap, IntKind.signed, IntKind.bits]
  rw [e]
  unfold wrap64
  omega
set_option maxRecDepth 100000 in
set_option maxHeartbeats 16000000 in
theorem rnumber_any (s : ByteArray) (q : Bool) (hs : s.size ≤ 1048576) (w : World) : Calls Tryz.prog 87 #[.agg #[.string s, .bool q]] w fun e w' => ∃ n : Int, e = .returned (.tuple #[.int .i64 n, .bool (rnumT (lt s, q)).isSome]) ∧ (∀ v, rnumT (lt s, q) = some v → n = v) ∧ i64 n ∧ Below w.heap.size w w' := by
  obtain ⟨R, HR⟩ : ∃ R, Hid (R = rnumT (lt s, q)) := ⟨_, rfl⟩
  rw [← HR.out]
  have hz : (s.size : Int) ≤ 1048576 := by omega
  obtain ⟨W1, hW1⟩ : ∃ W1, W1 = w.alloc (.cells #[.string s, .bool q] 125) := ⟨_, rfl⟩
  have HB1 : Hid (Below w.heap.size w W1) := by rw [hW1]; exact (Below.refl _ w).alloc (Nat.le_refl _) _
  have hc : W1.heap[w.heap.size]? = some (.cells #[.string s, .bool q] 125) := by rw [hW1]; exact World.alloc_heap_new w _
  obtain ⟨x0, -⟩ := blk_cell hc 0 (.string s) rfl
  obtain ⟨x1, -⟩ := blk_cell hc 1 (.bool q) rfl
  clear hc
  go_enter Tryz.func87, Tryz.ntmps87
  go_upto_region 1 with fail
  rw [← hW1]
  clear hW1
  by_cases h0 : 0 < s.size
  case neg =>
    have hz0 : s.size = 0 := by omega
    have z1 : ¬ (0 : Int) < (s.size : Int) := by omega
    have z2 : (s.size : Int) < 1 := by omega
    have HNO : Hid (R = none) := by
      show R = _
      have hl : lt s = [] := List.length_eq_zero_iff.1 (by rw [lt_len]; exact hz0)
      rw [HR.out]
      unfold rnumT
      rw [hl]
      cases q <;> rfl
    clear HR hz0
    cases q with
    | true =>
      go_wp2
      first | (change bodyPost Tryz.prog Tryz.f87 _ Exit.ret _ _) | (simp only [Exit.noGoto]) | skip
      refine bodyPost_ret (v := .tuple #[.int .i64 0, .bool false]) (by simp [results, Tryz.results87, go_sem]) rfl ⟨0, by rw [HNO.out]; rfl, ?_, by unfold i64; omega, HB1.out⟩
      intro v hv
      rw [HNO.out] at hv
      cases hv
    | false =>
      go_wp2
      first | (change bodyPost Tryz.prog Tryz.f87 _ Exit.ret _ _) | (simp only [Exit.noGoto]) | skip
      refine bodyPost_ret (v := .tuple #[.int .i64 0, .bool false]) (by simp [results, Tryz.results87, go_sem]) rfl ⟨0, by rw [HNO.out]; rfl, ?_, by unfold i64; omega, HB1.out⟩
      intro v hv
      rw [HNO.out] at hv
      cases hv
  have hdc : lt s = (lt s).getD 0 0 :: (lt s).drop 1 := by have := drop_c s 0 h0; simpa using this
  have ix0 : ∀ w : World, (Instr.index 9 (.string s) (.int .i64 0)).run Tryz.prog w = .ok (.int .u8 (((lt s).getD 0 0).toNat : Int)) w := ix_lt s 0 h0
  have z1 : (0 : Int) < (s.size : Int) := by omega
  have HHd : Hid ((lt s).headD 0 = (lt s).getD 0 0) := congrArg (fun l : Bs => l.headD 0) hdc
  clear hdc
  by_cases h45 : (lt s).getD 0 0 = 45
  · have k45 : ((((lt s).getD 0 0).toNat : Int) == 45) = true := by rw [h45]; rfl
    have k45' : (((lt s).getD 0 0).toNat : Int) = 45 := by rw [h45]; rfl
    obtain ⟨u, hu⟩ : ∃ u, u = (lt s).drop 1 := ⟨_, rfl⟩
    obtain ⟨S, hSS⟩ : ∃ S, S = YtchinflkjcebjabGreatDoor.bk u := ⟨_, rfl⟩
    have e2 : s.extract 1 s.size = S := by rw [hSS, hu]; exact cut_lt s 1
    have HSU : Hid (lt S = u) := by rw [hSS]; exact bk_data u
    have HLU : Hid (u.length = S.size) := by show _ = _; rw [← HSU.out, lt_len]
    have hSz : S.size ≤ 1048576 := by rw [← HLU.out, hu, List.length_drop, lt_len]; omega
    have HRU : Hid (R = if q = true then none else if u.length < 1 ∨ 19 < u.length ∨ (u.headD 0 = 48 ∧ (1 < u.length ∨ True)) then none else if u.all digB = true then (if dv 0 u ≤ 9223372036854775808 then some (-(dv 0 u : Int)) else none) else none) := by
      show R = _
      rw [HR.out]
      unfold rnumT rnumS
      simp only [HHd.out, h45, hu, beq_self_eq_true, if_true]
    have z3 : (1 : Int) ≤ (s.size : Int) := by omega
    have hSi : (S.size : Int) ≤ 1048576 := by omega
    clear HR HHd hSS hu h45
    generalize (lt s).getD 0 0 = c0 at *
    cases q with
    | true =>
      have HNO : Hid (R = none) := by show R = _; rw [HRU.out, if_pos rfl]
      clear HRU
      go_wp2
      first | (change bodyPost Tryz.prog Tryz.f87 _ Exit.ret _ _) | (simp only [Exit.noGoto]) | skip
      refine bodyPost_ret (v := .tuple #[.int .i64 0, .bool false]) (by simp [results, Tryz.results87, go_sem]) rfl ⟨0, by rw [HNO.out]; rfl, ?_, by unfold i64; omega, HB1.out⟩
      intro v hv
      rw [HNO.out] at hv
      cases hv
    | false =>
      rw [if_neg (by simp)] at HRU
      by_cases hl1 : S.size < 1
      · have HNO : Hid (R = none) := by show R = _; rw [HRU.out, if_pos (.inl (by rw [HLU.out]; exact hl1))]
        have z4 : (S.size : Int) < 1 := by omega
        clear HRU
        go_wp2
        first | (change bodyPost Tryz.prog Tryz.f87 _ Exit.ret _ _) | (simp only [Exit.noGoto]) | skip
        refine bodyPost_ret (v := .tuple #[.int .i64 0, .bool false]) (by simp [results, Tryz.results87, go_sem]) rfl ⟨0, by rw [HNO.out]; rfl, ?_, by unfold i64; omega, HB1.out⟩
        intro v hv
        rw [HNO.out] at hv
        cases hv
      by_cases hl19 : 19 < S.size
      · have HNO : Hid (R = none) := by show R = _; rw [HRU.out, if_pos (.inr (.inl (by rw [HLU.out]; exact hl19)))]
        have z4 : ¬ (S.size : Int) < 1 := by omega
        have z5 : (19 : Int) < (S.size : Int) := by omega
        clear HRU
        go_wp2
        first | (change bodyPost Tryz.prog Tryz.f87 _ Exit.ret _ _) | (simp only [Exit.noGoto]) | skip
        refine bodyPost_ret (v := .tuple #[.int .i64 0, .bool false]) (by simp [results, Tryz.results87, go_sem]) rfl ⟨0, by rw [HNO.out]; rfl, ?_, by unfold i64; omega, HB1.out⟩
        intro v hv
        rw [HNO.out] at hv
        cases hv
      have z4 : ¬ (S.size : Int) < 1 := by omega
      have z5 : ¬ (19 : Int) < (S.size : Int) := by omega
      have hS19 : S.size ≤ 19 := by omega
      have h0S : 0 < S.size := by omega
      have z6 : (0 : Int) < (S.size : Int) := by omega
      have ixS : ∀ w : World, (Instr.index 9 (.string S) (.int .i64 0)).run Tryz.prog w = .ok (.int .u8 (((lt S).getD 0 0).toNat : Int)) w := ix_lt S 0 h0S
      have HHd : Hid (u.headD 0 = (lt S).getD 0 0) := by show _ = _; rw [HSU.out]; cases u <;> rfl
      rw [HHd.out] at HRU
      clear HHd
      by_cases h48 : (lt S).getD 0 0 = 48
      · have HNO : Hid (R = none) := by show R = _; rw [HRU.out, if_pos (.inr (.inr ⟨h48, .inr trivial⟩))]
        have k48 : ((((lt S).getD 0 0).toNat : Int) == 48) = true := by rw [h48]; rfl
        have k48' : (((lt S).getD 0 0).toNat : Int) = 48 := by rw [h48]; rfl
        clear HRU h48
        generalize (lt S).getD 0 0 = c1 at *
        by_cases hl2 : 1 < S.size
        · have z7 : (1 : Int) < (S.size : Int) := by omega
          go_wp2
          first | (change bodyPost Tryz.prog Tryz.f87 _ Exit.ret _ _) | (simp only [Exit.noGoto]) | skip
          refine bodyPost_ret (v := .tuple #[.int .i64 0, .bool false]) (by simp [results, Tryz.results87, go_sem]) rfl ⟨0, by rw [HNO.out]; rfl, ?_, by unfold i64; omega, HB1.out⟩
          intro v hv
          rw [HNO.out] at hv
          cases hv
        · have z7 : ¬ (1 : Int) < (S.size : Int) := by omega
          go_wp2
          first | (change bodyPost Tryz.prog Tryz.f87 _ Exit.ret _ _) | (simp only [Exit.noGoto]) | skip
          refine bodyPost_ret (v := .tuple #[.int .i64 0, .bool false]) (by simp [results, Tryz.results87, go_sem]) rfl ⟨0, by rw [HNO.out]; rfl, ?_, by unfold i64; omega, HB1.out⟩
          intro v hv
          rw [HNO.out] at hv
          cases hv
      have k48 : ((((lt S).getD 0 0).toNat : Int) == 48) = false := b_ne (n := 48) (by decide) h48
      have HRT : Hid (R = if u.all digB = true then (if dv 0 u ≤ 9223372036854775808 then some (-(dv 0 u : Int)) else none) else none) := by
        show R = _
        rw [HRU.out, if_neg]
        rintro (x | x | x)
        · rw [HLU.out] at x; omega
        · rw [HLU.out] at x; omega
        · exact h48 x.1
      clear HRU h48
      generalize (lt S).getD 0 0 = c1 at *
      generalize c1.toNat = n1 at *
      go_wp2_with fail
      go_loopw [6, 7] (fun v i wr => ∃ (j V : Nat), j ≤ S.size ∧ v = .int .u64 (V : Int) ∧ i = .int .i64 (j : Int) ∧ Hid (V = dv 0 (u.take j) ∧ (∀ c ∈ u.take j, digB c = true)) ∧ Hid (V < 10 ^ j) ∧ Hid (wr = W1)) (fun _ i _ => S.size - (intOf i).toNat)
      case atStart => exact ⟨0, 0, Nat.zero_le _, rfl, rfl, ⟨rfl, by simp⟩, by show 0 < 10 ^ 0; decide, rfl⟩
      case round =>
        obtain ⟨j, V, hj, rfl, rfl, hI, hV, hwr⟩ := hrel
        have hwr' := hwr.out
        subst hwr'
        by_cases hlt : j < S.size
        case neg =>
          obtain rfl : j = S.size := by omega
          have p1 : ¬ (S.size : Int) < (S.size : Int) := by omega
          have HFin : Hid (R = if V ≤ 9223372036854775808 then some (-(V : Int)) else none) := by
            show R = _
            have h1 := hI.out
            rw [← HLU.out, List.take_length] at h1
            rw [HRT.out, if_pos (List.all_eq_true.2 h1.2), h1.1]
          have hVb : V < 10000000000000000000 := Nat.lt_of_lt_of_le hV.out (Nat.le_trans (Nat.pow_le_pow_right (by omega) hS19) (by decide))
          clear hI hV HRT HLU hwr
          by_cases hle : V ≤ 9223372036854775808
          · have HN : Hid (R = some (-(V : Int))) := by show R = _; rw [HFin.out, if_pos hle]
            have l1 : (V : Int) ≤ 9223372036854775808 := by omega
            clear HFin hle
            go_wp2
            first | (change bodyPost Tryz.prog Tryz.f87 _ Exit.ret _ _) | (simp only [Exit.noGoto]) | skip
            refine bodyPost_ret (v := .tuple #[.int .i64 (wrap64 (IntKind.u64.wrap (-(V : Int)))), .bool true]) (by simp [results, Tryz.results87, go_sem]) rfl ⟨_, by rw [HN.out]; rfl, ?_, wrap_i64r _, HB1.out⟩
            intro v hv
            rw [HN.out] at hv
            rw [← Option.some.inj hv]; exact wrap_neg V (by omega)
          · have HN : Hid (R = none) := by show R = _; rw [HFin.out, if_neg hle]
            have l1 : ¬ (V : Int) ≤ 9223372036854775808 := by omega
            clear HFin hle
            go_wp2
            first | (change bodyPost Tryz.prog Tryz.f87 _ Exit.ret _ _) | (simp only [Exit.noGoto]) | skip
            refine bodyPost_ret (v := .tuple #[.int .i64 (wrap64 (IntKind.u64.wrap (-(V : Int)))), .bool false]) (by simp [results, Tryz.results87, go_sem]) rfl ⟨_, by rw [HN.out]; rfl, ?_, wrap_i64r _, HB1.out⟩
            intro v hv
            rw [HN.out] at hv
            cases hv
        have ixj := ix_lt S j hlt
        have j0 : (0 : Int) ≤ (j : Int) := by omega
        have j1 : (j : Int) < (S.size : Int) := by omega
        rw [HSU.out] at ixj
        have hjl : j < u.length := by rw [HLU.out]; exact hlt
        have htk : u.take (j + 1) = u.take j ++ [u.getD j 0] := by
          rw [List.take_succ_eq_append_getElem hjl, List.getD_eq_getElem?_getD, List.getElem?_eq_getElem hjl]
          rfl
        have HTK : Hid (u.take (j + 1) = u.take j ++ [u.getD j 0]) := htk
        have HMM : Hid (u.getD j 0 ∈ u) := by show _; rw [List.getD_eq_getElem?_getD, List.getElem?_eq_getElem hjl]; exact List.getElem_mem hjl
        clear htk hjl
        generalize u.getD j 0 = c at *
        have hcl := c.toNat_lt
        by_cases hd : 48 ≤ c.toNat ∧ c.toNat ≤ 57
        case neg =>
          have HNO : Hid (R = none) := by
            show R = _
            rw [HRT.out, if_neg]
            intro h
            have := dig_to (List.all_eq_true.1 h c HMM.out)
            exact hd this
          clear HRT HTK HMM hI hV HLU hwr
          generalize c.toNat = n at *
          by_cases h48 : n < 48
          · have q1 : (n : Int) < 48 := by omega
            go_wp2
            first | (change bodyPost Tryz.prog Tryz.f87 _ Exit.ret _ _) | (simp only [Exit.noGoto]) | skip
            refine bodyPost_ret (v := .tuple #[.int .i64 0, .bool false]) (by simp [results, Tryz.results87, go_sem]) rfl ⟨0, by rw [HNO.out]; rfl, ?_, by unfold i64; omega, HB1.out⟩
            intro v hv
            rw [HNO.out] at hv
            cases hv
          · have q1 : ¬ (n : Int) < 48 := by omega
            have q2 : (57 : Int) < (n : Int) := by omega
            go_wp2
            first | (change bodyPost Tryz.prog Tryz.f87 _ Exit.ret _ _) | (simp only [Exit.noGoto]) | skip
            refine bodyPost_ret (v := .tuple #[.int .i64 0, .bool false]) (by simp [results, Tryz.results87, go_sem]) rfl ⟨0, by rw [HNO.out]; rfl, ?_, by unfold i64; omega, HB1.out⟩
            intro v hv
            rw [HNO.out] at hv
            cases hv
        have hVb : V < 1000000000000000000 := Nat.lt_of_lt_of_le hV.out (Nat.le_trans (Nat.pow_le_pow_right (by omega) (show j ≤ 18 by omega)) (by decide))
        have HI2 : Hid (V * 10 + (c.toNat - 48) = dv 0 (u.take (j + 1)) ∧ (∀ d ∈ u.take (j + 1), digB d = true)) := by
          show _ ∧ _
          rw [HTK.out, dv_snoc, ← hI.out.1]
          refine ⟨rfl, fun d hdd => ?_⟩
          rcases List.mem_append.1 hdd with x | x
          · exact hI.out.2 d x
          · rw [List.mem_singleton.1 x]; exact dig_of hd
        have HV2 : Hid (V * 10 + (c.toNat - 48) < 10 ^ (j + 1)) := by
          show _ < _
          have := hV.out
          rw [Nat.pow_succ]
          omega
        clear HTK HMM hI hV
        generalize c.toNat = n at *
        have q1 : (48 : Int) ≤ (n : Int) := by omega
        have q2 : (n : Int) ≤ 57 := by omega
        have g0 : IntKind.u8.wrap ((n : Int) - 48) = (n : Int) - 48 := by rw [IntKind.wrap_u8']; omega
        have HG : Hid ((10 * (V : Int) + ((n : Int) - 48)) = ((V * 10 + (n - 48) : Nat) : Int)) := by show _ = _; omega
        go_wp2
        exact ⟨⟨j + 1, V * 10 + (n - 48), by omega, by rw [← HG.out], by go_num, HI2, HV2, by first | exact hwr | (show True; trivial)⟩, by simp [intOf]; omega⟩
  have k45 : ((((lt s).getD 0 0).toNat : Int) == 45) = false := b_ne (n := 45) (by decide) h45
  have HRU : Hid (R = if q = true then none else if 19 < s.size ∨ ((lt s).getD 0 0 = 48 ∧ 1 < s.size) then none else if (lt s).all digB = true then (if dv 0 (lt s) ≤ 9223372036854775807 then some (dv 0 (lt s) : Int) else none) else none) := by
    show R = _
    rw [HR.out]
    unfold rnumT rnumS
    have hb : ((lt s).getD 0 0 == 45) = false := by rw [beq_eq_false_iff_ne]; exact h45
    simp only [HHd.out, hb, Bool.false_eq_true, if_false, or_false, lt_len]
    congr 1
    have : ¬ s.size < 1 := by omega
    simp only [this, false_or]
  clear HR HHd h45
  cases q with
  | true =>
    have HNO : Hid (R = none) := by show R = _; rw [HRU.out, if_pos rfl]
    clear HRU
    generalize (lt s).getD 0 0 = c0 at *
    generalize c0.toNat = n0 at *
    go_wp2
    first | (change bodyPost Tryz.prog Tryz.f87 _ Exit.ret _ _) | (simp only [Exit.noGoto]) | skip
    refine bodyPost_ret (v := .tuple #[.int .i64 0, .bool false]) (by simp [results, Tryz.results87, go_sem]) rfl ⟨0, by rw [HNO.out]; rfl, ?_, by unfold i64; omega, HB1.out⟩
    intro v hv
    rw [HNO.out] at hv
    cases hv
  | false =>
    rw [if_neg (by simp)] at HRU
    have z4 : ¬ (s.size : Int) < 1 := by omega
    by_cases hl19 : 19 < s.size
    · have HNO : Hid (R = none) := by show R = _; rw [HRU.out, if_pos (.inl hl19)]
      have z5 : (19 : Int) < (s.size : Int) := by omega
      clear HRU
      generalize (lt s).getD 0 0 = c0 at *
      generalize c0.toNat = n0 at *
      go_wp2
      first | (change bodyPost Tryz.prog Tryz.f87 _ Exit.ret _ _) | (simp only [Exit.noGoto]) | skip
      refine bodyPost_ret (v := .tuple #[.int .i64 0, .bool false]) (by simp [results, Tryz.results87, go_sem]) rfl ⟨0, by rw [HNO.out]; rfl, ?_, by unfold i64; omega, HB1.out⟩
      intro v hv
      rw [HNO.out] at hv
      cases hv
    have z5 : ¬ (19 : Int) < (s.size : Int) := by omega
    have hS19 : s.size ≤ 19 := by omega
    have HLU : Hid ((lt s).length = s.size) := lt_len s
    obtain ⟨u, hu⟩ : ∃ u, lt s = u := ⟨_, rfl⟩
    have HSU : Hid (lt s = u) := hu
    rw [hu] at HRU HLU k45 ix0
    clear hu
    by_cases h48 : u.getD 0 0 = 48
    · have k48 : (((u.getD 0 0).toNat : Int) == 48) = true := by rw [h48]; rfl
      have k48' : ((u.getD 0 0).toNat : Int) = 48 := by rw [h48]; rfl
      by_cases hl2 : 1 < s.size
      · have HNO : Hid (R = none) := by show R = _; rw [HRU.out, if_pos (.inr ⟨h48, hl2⟩)]
        have z7 : (1 : Int) < (s.size : Int) := by omega
        clear HRU h48
        generalize u.getD 0 0 = c0 at *
        generalize c0.toNat = n0 at *
        go_wp2
        first | (change bodyPost Tryz.prog Tryz.f87 _ Exit.ret _ _) | (simp only [Exit.noGoto]) | skip
        refine bodyPost_ret (v := .tuple #[.int .i64 0, .bool false]) (by simp [results, Tryz.results87, go_sem]) rfl ⟨0, by rw [HNO.out]; rfl, ?_, by unfold i64; omega, HB1.out⟩
        intro v hv
        rw [HNO.out] at hv
        cases hv
      have z7 : ¬ (1 : Int) < (s.size : Int) := by omega
      have HRT : Hid (R = if u.all digB = true then (if dv 0 u ≤ 9223372036854775807 then some (dv 0 u : Int) else none) else none) := by
        show R = _
        rw [HRU.out, if_neg]
        rintro (x | x)
        · omega
        · exact hl2 x.2
      clear HRU h48
      have HK : Hid ((u.getD 0 0).toNat = 48) := by show _ = _; omega
      generalize u.getD 0 0 = c0 at *
      generalize c0.toNat = n0 at *
      have hn0 := HK.out
      subst hn0
      clear k48'
      go_wp2_with fail
      go_loopw [6, 7] (fun v i wr => ∃ (j V : Nat), j ≤ s.size ∧ v = .int .u64 (V : Int) ∧ i = .int .i64 (j : Int) ∧ Hid (V = dv 0 (u.take j) ∧ (∀ c ∈ u.take j, digB c = true)) ∧ Hid (V < 10 ^ j) ∧ Hid (wr = W1)) (fun _ i _ => s.size - (intOf i).toNat)
      case atStart => exact ⟨0, 0, Nat.zero_le _, rfl, rfl, ⟨rfl, by simp⟩, by show 0 < 10 ^ 0; decide, rfl⟩
      case round =>
        obtain ⟨j, V, hj, rfl, rfl, hI, hV, hwr⟩ := hrel
        have hwr' := hwr.out
        subst hwr'
        by_cases hlt : j < s.size
        case neg =>
          obtain rfl : j = s.size := by omega
          have p1 : ¬ (s.size : Int) < (s.size : Int) := by omega
          have HFin : Hid (R = if V ≤ 9223372036854775807 then some (V : Int) else none) := by
            show R = _
            have h1 := hI.out
            rw [← HLU.out, List.take_length] at h1
            rw [HRT.out, if_pos (List.all_eq_true.2 h1.2), h1.1]
          have hVb : V < 10000000000000000000 := Nat.lt_of_lt_of_le hV.out (Nat.le_trans (Nat.pow_le_pow_right (by omega) hS19) (by decide))
          clear hI hV HRT HLU hwr
          by_cases hle : V ≤ 9223372036854775807
          · have HN : Hid (R = some ((V : Int))) := by show R = _; rw [HFin.out, if_pos hle]
            have l1 : (V : Int) ≤ 9223372036854775807 := by omega
            clear HFin hle
            go_wp2
            first | (change bodyPost Tryz.prog Tryz.f87 _ Exit.ret _ _) | (simp only [Exit.noGoto]) | skip
            refine bodyPost_ret (v := .tuple #[.int .i64 ((V : Int)), .bool true]) (by simp [results, Tryz.results87, go_sem]) rfl ⟨_, by rw [HN.out]; rfl, ?_, (by unfold i64; omega), HB1.out⟩
            intro v hv
            rw [HN.out] at hv
            exact Option.some.inj hv
          · have HN : Hid (R = none) := by show R = _; rw [HFin.out, if_neg hle]
            have l1 : ¬ (V : Int) ≤ 9223372036854775807 := by omega
            clear HFin hle
            go_wp2
            first | (change bodyPost Tryz.prog Tryz.f87 _ Exit.ret _ _) | (simp only [Exit.noGoto]) | skip
            refine bodyPost_ret (v := .tuple #[.int .i64 (wrap64 (V : Int)), .bool false]) (by simp [results, Tryz.results87, go_sem]) rfl ⟨_, by rw [HN.out]; rfl, ?_, wrap_i64r _, HB1.out⟩
            intro v hv
            rw [HN.out] at hv
            cases hv
        have ixj := ix_lt s j hlt
        have j0 : (0 : Int) ≤ (j : Int) := by omega
        have j1 : (j : Int) < (s.size : Int) := by omega
        rw [HSU.out] at ixj
        have hjl : j < u.length := by rw [HLU.out]; exact hlt
        have htk : u.take (j + 1) = u.take j ++ [u.getD j 0] := by
          rw [List.take_succ_eq_append_getElem hjl, List.getD_eq_getElem?_getD, List.getElem?_eq_getElem hjl]
          rfl
        have HTK : Hid (u.take (j + 1) = u.take j ++ [u.getD j 0]) := htk
        have HMM : Hid (u.getD j 0 ∈ u) := by show _; rw [List.getD_eq_getElem?_getD, List.getElem?_eq_getElem hjl]; exact List.getElem_mem hjl
        clear htk hjl
        generalize u.getD j 0 = c at *
        have hcl := c.toNat_lt
        by_cases hd : 48 ≤ c.toNat ∧ c.toNat ≤ 57
        case neg =>
          have HNO : Hid (R = none) := by
            show R = _
            rw [HRT.out, if_neg]
            intro h
            have := dig_to (List.all_eq_true.1 h c HMM.out)
            exact hd this
          clear HRT HTK HMM hI hV HLU hwr
          generalize c.toNat = n at *
          by_cases h48 : n < 48
          · have q1 : (n : Int) < 48 := by omega
            go_wp2
            first | (change bodyPost Tryz.prog Tryz.f87 _ Exit.ret _ _) | (simp only [Exit.noGoto]) | skip
            refine bodyPost_ret (v := .tuple #[.int .i64 0, .bool false]) (by simp [results, Tryz.results87, go_sem]) rfl ⟨0, by rw [HNO.out]; rfl, ?_, by unfold i64; omega, HB1.out⟩
            intro v hv
            rw [HNO.out] at hv
            cases hv
          · have q1 : ¬ (n : Int) < 48 := by omega
            have q2 : (57 : Int) < (n : Int) := by omega
            go_wp2
            first | (change bodyPost Tryz.prog Tryz.f87 _ Exit.ret _ _) | (simp only [Exit.noGoto]) | skip
            refine bodyPost_ret (v := .tuple #[.int .i64 0, .bool false]) (by simp [results, Tryz.results87, go_sem]) rfl ⟨0, by rw [HNO.out]; rfl, ?_, by unfold i64; omega, HB1.out⟩
            intro v hv
            rw [HNO.out] at hv
            cases hv
        have hVb : V < 1000000000000000000 := Nat.lt_of_lt_of_le hV.out (Nat.le_trans (Nat.pow_le_pow_right (by omega) (show j ≤ 18 by omega)) (by decide))
        have HI2 : Hid (V * 10 + (c.toNat - 48) = dv 0 (u.take (j + 1)) ∧ (∀ d ∈ u.take (j + 1), digB d = true)) := by
          show _ ∧ _
          rw [HTK.out, dv_snoc, ← hI.out.1]
          refine ⟨rfl, fun d hdd => ?_⟩
          rcases List.mem_append.1 hdd with x | x
          · exact hI.out.2 d x
          · rw [List.mem_singleton.1 x]; exact dig_of hd
        have HV2 : Hid (V * 10 + (c.toNat - 48) < 10 ^ (j + 1)) := by
          show _ < _
          have := hV.out
          rw [Nat.pow_succ]
          omega
        clear HTK HMM hI hV
        generalize c.toNat = n at *
        have q1 : (48 : Int) ≤ (n : Int) := by omega
        have q2 : (n : Int) ≤ 57 := by omega
        have g0 : IntKind.u8.wrap ((n : Int) - 48) = (n : Int) - 48 := by rw [IntKind.wrap_u8']; omega
        have HG : Hid ((10 * (V : Int) + ((n : Int) - 48)) = ((V * 10 + (n - 48) : Nat) : Int)) := by show _ = _; omega
        go_wp2
        exact ⟨⟨j + 1, V * 10 + (n - 48), by omega, by rw [← HG.out], by go_num, HI2, HV2, by first | exact hwr | (show True; trivial)⟩, by simp [intOf]; omega⟩
    have k48 : (((u.getD 0 0).toNat : Int) == 48) = false := b_ne (n := 48) (by decide) h48
    have HRT : Hid (R = if u.all digB = true then (if dv 0 u ≤ 9223372036854775807 then some (dv 0 u : Int) else none) else none) := by
      show R = _
      rw [HRU.out, if_neg]
      rintro (x | x)
      · omega
      · exact h48 x.1
    clear HRU h48
    generalize u.getD 0 0 = c0 at *
    generalize c0.toNat = n0 at *
    go_wp2_with fail
    go_loopw [6, 7] (fun v i wr => ∃ (j V : Nat), j ≤ s.size ∧ v = .int .u64 (V : Int) ∧ i = .int .i64 (j : Int) ∧ Hid (V = dv 0 (u.take j) ∧ (∀ c ∈ u.take j, digB c = true)) ∧ Hid (V < 10 ^ j) ∧ Hid (wr = W1)) (fun _ i _ => s.size - (intOf i).toNat)
    case atStart => exact ⟨0, 0, Nat.zero_le _, rfl, rfl, ⟨rfl, by simp⟩, by show 0 < 10 ^ 0; decide, rfl⟩
    case round =>
      obtain ⟨j, V, hj, rfl, rfl, hI, hV, hwr⟩ := hrel
      have hwr' := hwr.out
      subst hwr'
      by_cases hlt : j < s.size
      case neg =>
        obtain rfl : j = s.size := by omega
        have p1 : ¬ (s.size : Int) < (s.size : Int) := by omega
        have HFin : Hid (R = if V ≤ 9223372036854775807 then some (V : Int) else none) := by
          show R = _
          have h1 := hI.out
          rw [← HLU.out, List.take_length] at h1
          rw [HRT.out, if_pos (List.all_eq_true.2 h1.2), h1.1]
        have hVb : V < 10000000000000000000 := Nat.lt_of_lt_of_le hV.out (Nat.le_trans (Nat.pow_le_pow_right (by omega) hS19) (by decide))
        clear hI hV HRT HLU hwr
        by_cases hle : V ≤ 9223372036854775807
        · have HN : Hid (R = some ((V : Int))) := by show R = _; rw [HFin.out, if_pos hle]
          have l1 : (V : Int) ≤ 9223372036854775807 := by omega
          clear HFin hle
          go_wp2
          first | (change bodyPost Tryz.prog Tryz.f87 _ Exit.ret _ _) | (simp only [Exit.noGoto]) | skip
          refine bodyPost_ret (v := .tuple #[.int .i64 ((V : Int)), .bool true]) (by simp [results, Tryz.results87, go_sem]) rfl ⟨_, by rw [HN.out]; rfl, ?_, (by unfold i64; omega), HB1.out⟩
          intro v hv
          rw [HN.out] at hv
          exact Option.some.inj hv
        · have HN : Hid (R = none) := by show R = _; rw [HFin.out, if_neg hle]
          have l1 : ¬ (V : Int) ≤ 9223372036854775807 := by omega
          clear HFin hle
          go_wp2
          first | (change bodyPost Tryz.prog Tryz.f87 _ Exit.ret _ _) | (simp only [Exit.noGoto]) | skip
          refine bodyPost_ret (v := .tuple #[.int .i64 (wrap64 (V : Int)), .bool false]) (by simp [results, Tryz.results87, go_sem]) rfl ⟨_, by rw [HN.out]; rfl, ?_, wrap_i64r _, HB1.out⟩
          intro v hv
          rw [HN.out] at hv
          cases hv
      have ixj := ix_lt s j hlt
      have j0 : (0 : Int) ≤ (j : Int) := by omega
      have j1 : (j : Int) < (s.size : Int) := by omega
      rw [HSU.out] at ixj
      have hjl : j < u.length := by rw [HLU.out]; exact hlt
      have htk : u.take (j + 1) = u.take j ++ [u.getD j 0] := by
        rw [List.take_succ_eq_append_getElem hjl, List.getD_eq_getElem?_getD, List.getElem?_eq_getElem hjl]
        rfl
      have HTK : Hid (u.take (j + 1) = u.take j ++ [u.getD j 0]) := htk
      have HMM : Hid (u.getD j 0 ∈ u) := by show _; rw [List.getD_eq_getElem?_getD, List.getElem?_eq_getElem hjl]; exact List.getElem_mem hjl
      clear htk hjl
      generalize u.getD j 0 = c at *
      have hcl := c.toNat_lt
      by_cases hd : 48 ≤ c.toNat ∧ c.toNat ≤ 57
      case neg =>
        have HNO : Hid (R = none) := by
          show R = _
          rw [HRT.out, if_neg]
          intro h
          have := dig_to (List.all_eq_true.1 h c HMM.out)
          exact hd this
        clear HRT HTK HMM hI hV HLU hwr
        generalize c.toNat = n at *
        by_cases h48 : n < 48
        · have q1 : (n : Int) < 48 := by omega
          go_wp2
          first | (change bodyPost Tryz.prog Tryz.f87 _ Exit.ret _ _) | (simp only [Exit.noGoto]) | skip
          refine bodyPost_ret (v := .tuple #[.int .i64 0, .bool false]) (by simp [results, Tryz.results87, go_sem]) rfl ⟨0, by rw [HNO.out]; rfl, ?_, by unfold i64; omega, HB1.out⟩
          intro v hv
          rw [HNO.out] at hv
          cases hv
        · have q1 : ¬ (n : Int) < 48 := by omega
          have q2 : (57 : Int) < (n : Int) := by omega
          go_wp2
          first | (change bodyPost Tryz.prog Tryz.f87 _ Exit.ret _ _) | (simp only [Exit.noGoto]) | skip
          refine bodyPost_ret (v := .tuple #[.int .i64 0, .bool false]) (by simp [results, Tryz.results87, go_sem]) rfl ⟨0, by rw [HNO.out]; rfl, ?_, by unfold i64; omega, HB1.out⟩
          intro v hv
          rw [HNO.out] at hv
          cases hv
      have hVb : V < 1000000000000000000 := Nat.lt_of_lt_of_le hV.out (Nat.le_trans (Nat.pow_le_pow_right (by omega) (show j ≤ 18 by omega)) (by decide))
      have HI2 : Hid (V * 10 + (c.toNat - 48) = dv 0 (u.take (j + 1)) ∧ (∀ d ∈ u.take (j + 1), digB d = true)) := by
        show _ ∧ _
        rw [HTK.out, dv_snoc, ← hI.out.1]
        refine ⟨rfl, fun d hdd => ?_⟩
        rcases List.mem_append.1 hdd with x | x
        · exact hI.out.2 d x
        · rw [List.mem_singleton.1 x]; exact dig_of hd
      have HV2 : Hid (V * 10 + (c.toNat - 48) < 10 ^ (j + 1)) := by
        show _ < _
        have := hV.out
        rw [Nat.pow_succ]
        omega
      clear HTK HMM hI hV
      generalize c.toNat = n at *
      have q1 : (48 : Int) ≤ (n : Int) := by omega
      have q2 : (n : Int) ≤ 57 := by omega
      have g0 : IntKind.u8.wrap ((n : Int) - 48) = (n : Int) - 48 := by rw [IntKind.wrap_u8']; omega
      have HG : Hid ((10 * (V : Int) + ((n : Int) - 48)) = ((V * 10 + (n - 48) : Nat) : Int)) := by show _ = _; omega
      go_wp2
      exact ⟨⟨j + 1, V * 10 + (n - 48), by omega, by rw [← HG.out], by go_num, HI2, HV2, by first | exact hwr | (show True; trivial)⟩, by simp [intOf]; omega⟩
end Go.Proofs.YtchinflkjcebjabGreatDoor
namespace Go.Proofs.YtchinflkjcebjabGreatDoor
open Go.RowKit

theorem rem_nt (n m : Nat) : Int.tmod (n : Int) (m : Int) = ((n % m : Nat) : Int) := by
  rw [Int.tmod_eq_emod_of_nonneg (by omega)]
  omega
def seekR (w : Bs) : Nat → Nat → Int
  | 0, _ => 0
  | k + 1, n => if n % 4 ≠ 0 ∧ tyW (n : Int) = w then (n : Int) else seekR w k (n + 1)
theorem ty_four : ∀ n : Fin 20, n.val % 4 = 0 → (tyT.getD n.val e0).data.toList = [] := by decide +kernel
theorem seekT_R {w : Bs} (hw : w ≠ []) : ∀ k n : Nat, n + k ≤ 20 → seekT w k n = seekR w k n
  | 0, _, _ => rfl
  | k + 1, n, h => by
    rw [seekT, seekR, seekT_R hw k (n + 1) (by omega)]
    have e : tyW (n : Int) = (tyT.getD n e0).data.toList := rfl
    by_cases h4 : n % 4 = 0
    · have := ty_four ⟨n, by omega⟩ h4
      simp only at this
      rw [if_neg (by rw [this]; exact fun x => hw x.symm), if_neg (fun x => x.1 h4)]
    · rw [e]
      by_cases hq : (tyT.getD n e0).data.toList = w
      · rw [if_pos hq, if_pos ⟨h4, hq⟩]
      · rw [if_neg hq, if_neg (fun x => hq x.2)]
theorem rdSort_R (w : Bs) : rdSort w = seekR w 19 1 := by
  by_cases hw : w = []
  · subst hw
    decide +kernel
  · unfold rdSort
    rw [seekT, if_neg (show ¬ (tyT.getD 0 e0).data.toList = w from fun x => hw x.symm)]
    exact seekT_R hw 19 1 (by omega)
set_option maxRecDepth 100000 in
set_option maxHeartbeats 8000000 in
theorem rsortOf_any (s : ByteArray) (q : Bool) (w : World) : Calls Tryz.prog 103 #[.agg #[.string s, .bool q]] w fun e w' => e = .returned (.int .i64 (sortT (lt s, q))) ∧ Below w.heap.size w w' := by
  obtain ⟨W1, hW1⟩ : ∃ W1, W1 = w.alloc (.cells #[.string s, .bool q] 125) := ⟨_, rfl⟩
  have HB1 : Hid (Below w.heap.size w W1) := by rw [hW1]; exact (Below.refl _ w).alloc (Nat.le_refl _) _
  have hc : W1.heap[w.heap.size]? = some (.cells #[.string s, .bool q] 125) := by rw [hW1]; exact World.alloc_heap_new w _
  have HCs : Hid (∀ W, Below W1.heap.size W1 W → W.cell? ⟨w.heap.size, 0, none⟩ = some (.string s) ∧ W.cell? ⟨w.heap.size, 1, none⟩ = some (.bool q)) := fun W hb => by
    have h2 := (hb.block _ (Array.getElem?_eq_some_iff.1 hc).1).trans hc
    exact ⟨(blk_cell h2 0 _ rfl).1, (blk_cell h2 1 _ rfl).1⟩
  clear hc
  obtain ⟨R, HR⟩ : ∃ R, Hid (R = sortT (lt s, q)) := ⟨_, rfl⟩
  rw [← HR.out]
  go_enter Tryz.func103, Tryz.ntmps103
  go_upto_region 1 with fail
  rw [← hW1]
  clear hW1
  cases q with
  | true =>
    have HI0 : Hid ((0 : Int) = R) := by show _ = R; rw [HR.out]; rfl
    clear HR
    go_wp2_with fail
    go_loopw [3] (fun i wr => ∃ k : Nat, 1 ≤ k ∧ k ≤ 20 ∧ i = .int .i64 (k : Int) ∧ Hid ((0 : Int) = R) ∧ Hid (Below W1.heap.size W1 wr)) (fun i _ => 20 - (intOf i).toNat)
    case atStart => exact ⟨1, by omega, by omega, rfl, HI0, Below.refl _ _⟩
    case round =>
      obtain ⟨k, hk1, hk, rfl, hI, hb⟩ := hrel
      by_cases hlt : k < 20
      case neg =>
        obtain rfl : k = 20 := by omega
        have HF : Hid (R = 0) := hI.out.symm
        have HB2 : Hid (Below w.heap.size w wr) := below2 HB1.out hb.out
        clear hI hb
        go_wp2
        first | (change bodyPost Tryz.prog Tryz.f103 _ Exit.ret _ _) | (simp only [Exit.noGoto]) | skip
        go_ret
        exact ⟨by rw [HF.out]; rfl, HB2.out⟩
      obtain ⟨x0, x1⟩ := HCs.out wr hb.out
      have y0 := cell_regrown x0
      have y1 := cell_regrown x1
      have k1 : (k : Int) ≤ 19 := by omega
      have HI2 : Hid ((0 : Int) = R) := hI.out
      by_cases h4 : k % 4 = 0
      · have e1 : Int.tmod (k : Int) 4 = 0 := by rw [show (4 : Int) = ((4 : Nat) : Int) from rfl, rem_nt k 4, h4]; rfl
        have e2 : (k : Int) % 4 = 0 := by omega
        clear hI
        go_upto_region 4 with fail
        go_wp2_with fail
        refine wp_region_quiet_below (by kernel_rfl) (by kernel_rfl) ?_
        repeat (first | go_big_quiet_step (first | fail) | quiet_step (first | fail))
        refine wpQuiet_nil ?_
        intro _ hw'
        obtain ⟨⟨dq, osq⟩, hw''⟩ := hw'
        subst hw''
        have hY := below_regrown wr dq osq
        first | (change Exit.then _ _ Exit.normal _ (Sort.grow (redrawn wr dq) osq)) | skip
        generalize Sort.grow (redrawn wr dq) osq = Y at hY ⊢
        go_wp2
        exact ⟨⟨k + 1, by omega, by omega, by go_num, HI2, below2 hb.out hY⟩, by simp [intOf]; omega⟩
      have e1 : ¬ Int.tmod (k : Int) 4 = 0 := by rw [show (4 : Int) = ((4 : Nat) : Int) from rfl, rem_nt k 4]; omega
      have e2 : ¬ (k : Int) % 4 = 0 := by omega
      have hso : sortS (k : Int) = true := (sort_tm (by omega) (by omega)).2 (by omega)
      have ty := fun W => rtype_any k W (by omega) (.inr hso)
      by_cases heq : tyW (k : Int) = lt s
      · have s1 : ((YtchinflkjcebjabGreatDoor.bk (tyW (k : Int))).toList == s.toList) = true := by rw [toL, toL, bk_data, beq_iff_eq]; exact heq
        clear hI hso heq
        generalize YtchinflkjcebjabGreatDoor.bk (tyW (k : Int)) = tk at *
        have c1 : ∀ d os, Calls Tryz.prog 35 #[.int .i64 (k : Int)] (Sort.grow (redrawn wr d) os) fun e w'' => e = .returned (.string tk) ∧ ∃ z : Regrown, w'' = Sort.grow (redrawn wr z.d) z.os := fun d os => Calls.regrown_of (ty _)
        clear ty
        go_upto_region 4 with fail
        go_wp2_with fail
        refine wp_region_quiet_below (by kernel_rfl) (by kernel_rfl) ?_
        repeat (first | go_big_quiet_step (first | with_reducible exact c1 _ _) | quiet_step (first | with_reducible exact c1 _ _))
        refine wpQuiet_nil ?_
        intro _ hw'
        obtain ⟨⟨dq, osq⟩, hw''⟩ := hw'
        subst hw''
        have hY := below_regrown wr dq osq
        first | (change Exit.then _ _ Exit.normal _ (Sort.grow (redrawn wr dq) osq)) | skip
        generalize Sort.grow (redrawn wr dq) osq = Y at hY ⊢
        clear c1
        go_wp2
        exact ⟨⟨k + 1, by omega, by omega, by go_num, HI2, below2 hb.out hY⟩, by simp [intOf]; omega⟩
      · have s1 : ((YtchinflkjcebjabGreatDoor.bk (tyW (k : Int))).toList == s.toList) = false := by rw [toL, toL, bk_data, beq_eq_false_iff_ne]; exact heq
        clear hI hso heq
        generalize YtchinflkjcebjabGreatDoor.bk (tyW (k : Int)) = tk at *
        have c1 : ∀ d os, Calls Tryz.prog 35 #[.int .i64 (k : Int)] (Sort.grow (redrawn wr d) os) fun e w'' => e = .returned (.string tk) ∧ ∃ z : Regrown, w'' = Sort.grow (redrawn wr z.d) z.os := fun d os => Calls.regrown_of (ty _)
        clear ty
        go_upto_region 4 with fail
        go_wp2_with fail
        refine wp_region_quiet_below (by kernel_rfl) (by kernel_rfl) ?_
        repeat (first | go_big_quiet_step (first | with_reducible exact c1 _ _) | quiet_step (first | with_reducible exact c1 _ _))
        refine wpQuiet_nil ?_
        intro _ hw'
        obtain ⟨⟨dq, osq⟩, hw''⟩ := hw'
        subst hw''
        have hY := below_regrown wr dq osq
        first | (change Exit.then _ _ Exit.normal _ (Sort.grow (redrawn wr dq) osq)) | skip
        generalize Sort.grow (redrawn wr dq) osq = Y at hY ⊢
        clear c1
        go_wp2
        exact ⟨⟨k + 1, by omega, by omega, by go_num, HI2, below2 hb.out hY⟩, by simp [intOf]; omega⟩
  | false =>
    have HI0 : Hid (seekR (lt s) 19 1 = R) := by show _ = R; rw [HR.out, ← rdSort_R]; rfl
    clear HR
    go_wp2_with fail
    go_loopw [3] (fun i wr => ∃ k : Nat, 1 ≤ k ∧ k ≤ 20 ∧ i = .int .i64 (k : Int) ∧ Hid (seekR (lt s) (20 - k) k = R) ∧ Hid (Below W1.heap.size W1 wr)) (fun i _ => 20 - (intOf i).toNat)
    case atStart => exact ⟨1, by omega, by omega, rfl, HI0, Below.refl _ _⟩
    case round =>
      obtain ⟨k, hk1, hk, rfl, hI, hb⟩ := hrel
      by_cases hlt : k < 20
      case neg =>
        obtain rfl : k = 20 := by omega
        have HF : Hid (R = 0) := hI.out.symm
        have HB2 : Hid (Below w.heap.size w wr) := below2 HB1.out hb.out
        clear hI hb
        go_wp2
        first | (change bodyPost Tryz.prog Tryz.f103 _ Exit.ret _ _) | (simp only [Exit.noGoto]) | skip
        go_ret
        exact ⟨by rw [HF.out]; rfl, HB2.out⟩
      obtain ⟨x0, x1⟩ := HCs.out wr hb.out
      have y0 := cell_regrown x0
      have y1 := cell_regrown x1
      have k1 : (k : Int) ≤ 19 := by omega
      by_cases h4 : k % 4 = 0
      · have e1 : Int.tmod (k : Int) 4 = 0 := by rw [show (4 : Int) = ((4 : Nat) : Int) from rfl, rem_nt k 4, h4]; rfl
        have e2 : (k : Int) % 4 = 0 := by omega
        have HI2 : Hid (seekR (lt s) (20 - (k + 1)) (k + 1) = R) := by
          show _ = R
          rw [← hI.out, show 20 - k = (20 - (k + 1)) + 1 by omega, seekR, if_neg (fun x => x.1 h4)]
        clear hI
        go_upto_region 4 with fail
        go_wp2_with fail
        refine wp_region_quiet_below (by kernel_rfl) (by kernel_rfl) ?_
        repeat (first | go_big_quiet_step (first | fail) | quiet_step (first | fail))
        refine wpQuiet_nil ?_
        intro _ hw'
        obtain ⟨⟨dq, osq⟩, hw''⟩ := hw'
        subst hw''
        have hY := below_regrown wr dq osq
        first | (change Exit.then _ _ Exit.normal _ (Sort.grow (redrawn wr dq) osq)) | skip
        generalize Sort.grow (redrawn wr dq) osq = Y at hY ⊢
        go_wp2
        exact ⟨⟨k + 1, by omega, by omega, by go_num, HI2, below2 hb.out hY⟩, by simp [intOf]; omega⟩
      have e1 : ¬ Int.tmod (k : Int) 4 = 0 := by rw [show (4 : Int) = ((4 : Nat) : Int) from rfl, rem_nt k 4]; omega
      have e2 : ¬ (k : Int) % 4 = 0 := by omega
      have hso : sortS (k : Int) = true := (sort_tm (by omega) (by omega)).2 (by omega)
      have ty := fun W => rtype_any k W (by omega) (.inr hso)
      by_cases heq : tyW (k : Int) = lt s
      · have s1 : ((YtchinflkjcebjabGreatDoor.bk (tyW (k : Int))).toList == s.toList) = true := by rw [toL, toL, bk_data, beq_iff_eq]; exact heq
        have HF : Hid (R = (k : Int)) := by
          show R = _
          rw [← hI.out, show 20 - k = (20 - (k + 1)) + 1 by omega, seekR, if_pos ⟨by omega, heq⟩]
        clear hI hso heq
        generalize YtchinflkjcebjabGreatDoor.bk (tyW (k : Int)) = tk at *
        have c1 : ∀ d os, Calls Tryz.prog 35 #[.int .i64 (k : Int)] (Sort.grow (redrawn wr d) os) fun e w'' => e = .returned (.string tk) ∧ ∃ z : Regrown, w'' = Sort.grow (redrawn wr z.d) z.os := fun d os => Calls.regrown_of (ty _)
        clear ty
        go_upto_region 4 with fail
        go_wp2_with fail
        refine wp_region_quiet_below (by kernel_rfl) (by kernel_rfl) ?_
        repeat (first | go_big_quiet_step (first | with_reducible exact c1 _ _) | quiet_step (first | with_reducible exact c1 _ _))
        refine wpQuiet_nil ?_
        intro _ hw'
        obtain ⟨⟨dq, osq⟩, hw''⟩ := hw'
        subst hw''
        have hY := below_regrown wr dq osq
        first | (change Exit.then _ _ Exit.normal _ (Sort.grow (redrawn wr dq) osq)) | skip
        generalize Sort.grow (redrawn wr dq) osq = Y at hY ⊢
        clear c1
        have HB2 : Hid (Below w.heap.size w Y) := below2 HB1.out (below2 hb.out hY)
        clear hb hY
        go_wp2
        first | (change bodyPost Tryz.prog Tryz.f103 _ Exit.ret _ _) | (simp only [Exit.noGoto]) | skip
        go_ret
        exact ⟨by rw [HF.out]; rfl, HB2.out⟩
      · have s1 : ((YtchinflkjcebjabGreatDoor.bk (tyW (k : Int))).toList == s.toList) = false := by rw [toL, toL, bk_data, beq_eq_false_iff_ne]; exact heq
        have HI2 : Hid (seekR (lt s) (20 - (k + 1)) (k + 1) = R) := by
          show _ = R
          rw [← hI.out, show 20 - k = (20 - (k + 1)) + 1 by omega, seekR, if_neg (fun x => heq x.2)]
        clear hI hso heq
        generalize YtchinflkjcebjabGreatDoor.bk (tyW (k : Int)) = tk at *
        have c1 : ∀ d os, Calls Tryz.prog 35 #[.int .i64 (k : Int)] (Sort.grow (redrawn wr d) os) fun e w'' => e = .returned (.string tk) ∧ ∃ z : Regrown, w'' = Sort.grow (redrawn wr z.d) z.os := fun d os => Calls.regrown_of (ty _)
        clear ty
        go_upto_region 4 with fail
        go_wp2_with fail
        refine wp_region_quiet_below (by kernel_rfl) (by kernel_rfl) ?_
        repeat (first | go_big_quiet_step (first | with_reducible exact c1 _ _) | quiet_step (first | with_reducible exact c1 _ _))
        refine wpQuiet_nil ?_
        intro _ hw'
        obtain ⟨⟨dq, osq⟩, hw''⟩ := hw'
        subst hw''
        have hY := below_regrown wr dq osq
        first | (change Exit.then _ _ Exit.normal _ (Sort.grow (redrawn wr dq) osq)) | skip
        generalize Sort.grow (redrawn wr dq) osq = Y at hY ⊢
        clear c1
        go_wp2
        exact ⟨⟨k + 1, by omega, by omega, by go_num, HI2, below2 hb.out hY⟩, by simp [intOf]; omega⟩
end Go.Proofs.YtchinflkjcebjabGreatDoor
namespace Go.Proofs.YtchinflkjcebjabGreatDoor
open Go.RowKit

theorem read2_no {w : Bs} (h1 : w ≠ [116, 114, 117, 101]) (h2 : w ≠ [102, 97, 108, 115, 101]) : readO 2 w = none := by
  have e1 : (opW 2 1 == w) = false := by rw [beq_eq_false_iff_ne]; exact fun x => h1 x.symm
  have e0' : (opW 2 0 == w) = false := by rw [beq_eq_false_iff_ne]; exact fun x => h2 x.symm
  show seekO 2 w 2 0 = none
  rw [seekO, e0', seekO, show (0 : Int) + 1 = 1 from rfl, e1]
  simp [seekO]
theorem may5 : ∀ k : Fin 14, (mayS 5 (k.val : Int) = true ↔ 1 ≤ k.val ∧ k.val ≤ 2) ∧ (mayS 6 (k.val : Int) = true ↔ 3 ≤ k.val ∧ k.val ≤ 13) := by decide +kernel
theorem seekO_skip {o : Nat} {w : Bs} : ∀ (k : Nat) (n : Int), (∀ j : Nat, j < k → mayS o (n + (j : Int)) = false) → ∀ m, seekO o w (k + m) n = seekO o w m (n + (k : Int))
  | 0, n, _, m => by simp
  | k + 1, n, h, m => by
    have h0 := h 0 (by omega)
    rw [show n + ((0 : Nat) : Int) = n by omega] at h0
    rw [show k + 1 + m = (k + m) + 1 by omega, seekO, h0, seekO_skip k (n + 1) (fun j hj => by
      have := h (j + 1) (by omega)
      rw [show n + 1 + (j : Int) = n + ((j + 1 : Nat) : Int) by omega]
      exact this) m, show n + 1 + (k : Int) = n + ((k + 1 : Nat) : Int) by omega]
    simp
theorem seekO_none {o : Nat} {w : Bs} (k : Nat) (n : Int) (h : ∀ j : Nat, j < k → mayS o (n + (j : Int)) = false) : seekO o w k n = none := by
  have := seekO_skip (o := o) (w := w) k n h 0
  rw [Nat.add_zero] at this
  rw [this]
  rfl
theorem may5_hi : ∀ j : Fin 11, mayS 5 (3 + (j.val : Int)) = false := by decide +kernel
theorem may6_lo : ∀ j : Fin 2, mayS 6 (1 + (j.val : Int)) = false := by decide +kernel
theorem seek13 {o : Nat} {w : Bs} (h : o = 5 ∨ o = 6) : readO o w = seekO o w 13 1 := by
  rcases h with rfl | rfl
  · show seekO 5 w 2 1 = seekO 5 w 13 1
    have e : seekO 5 w 11 (1 + 1 + 1) = none := seekO_none 11 3 (fun j hj => may5_hi ⟨j, hj⟩)
    show _ = (if (mayS 5 1 && opW 5 1 == w) = true then some 1 else if (mayS 5 (1 + 1) && opW 5 (1 + 1) == w) = true then some (1 + 1) else seekO 5 w 11 (1 + 1 + 1))
    rw [e]
    rfl
  · show seekO 6 w 11 3 = seekO 6 w (2 + 11) 1
    rw [seekO_skip 2 1 (fun j hj => may6_lo ⟨j, hj⟩) 11]
    rfl
theorem read9 (w : Bs) : readO 9 w = if mayS 9 (rdSort w) = true then some (rdSort w) else none := by
  have hh : ∀ k : Fin 20, mayS 9 (k.val : Int) = true → rdSort (tyW (k.val : Int)) = (k.val : Int) ∧ opW 9 (k.val : Int) = tyW (k.val : Int) := by decide +kernel
  have hT : ∀ (k n : Nat), n + k ≤ 20 → ∀ m : Int, seekT w k n = m → m = 0 ∨ ∃ j : Nat, n ≤ j ∧ j < 20 ∧ m = (j : Int) ∧ (tyT.getD j e0).data.toList = w := by
    intro k
    induction k with
    | zero => intro n _ m e; exact .inl e.symm
    | succ k ih =>
      intro n hn m e
      rw [seekT] at e
      split at e
      · rename_i hq
        exact .inr ⟨n, Nat.le_refl _, by omega, e.symm, hq⟩
      · rcases ih (n + 1) (by omega) m e with x | ⟨j, h1, h2, h3, h4⟩
        · exact .inl x
        · exact .inr ⟨j, by omega, h2, h3, h4⟩
  by_cases hm : mayS 9 (rdSort w) = true
  · rw [if_pos hm]
    rcases hT 20 0 (by omega) (rdSort w) rfl with h0 | ⟨j, -, hj, ej, hw⟩
    · rw [h0] at hm; cases hm
    · rw [ej] at hm ⊢
      have := (readO_ok (o := 9) (by decide) hm).1
      rw [(hh ⟨j, hj⟩ hm).2] at this
      have e : tyW (j : Int) = w := hw
      rw [e] at this
      exact this
  · rw [if_neg hm]
    cases hr : readO 9 w with
    | none => rfl
    | some v =>
      exfalso
      have hv := readO_may hr
      have hl := may_lohi hv
      have l1 : (1 : Int) ≤ v := hl.1
      have l2 : v ≤ (15 : Int) := hl.2
      have hs : opW 9 v = w := by
        have hS : ∀ (k : Nat) (n : Int), seekO 9 w k n = some v → opW 9 v = w := by
          intro k
          induction k with
          | zero => intro n e; cases e
          | succ k ih =>
            intro n e
            rw [seekO] at e
            split at e
            · rename_i hq
              simp only [Bool.and_eq_true, beq_iff_eq] at hq
              injection e with e
              rw [← e]
              exact hq.2
            · exact ih _ e
        exact hS _ _ hr
      have h1 := hh ⟨v.toNat, by omega⟩
      simp only [show ((v.toNat : Nat) : Int) = v by omega] at h1
      obtain ⟨a, b⟩ := h1 hv
      rw [← b, hs] at a
      rw [a] at hm
      exact hm hv
set_option maxRecDepth 100000 in
set_option maxHeartbeats 16000000 in
theorem rread_any (o : Nat) (s : ByteArray) (q : Bool) (ho : o < 12) (hs : s.size ≤ 1048576) (w : World) : Calls Tryz.prog 104 #[.int .i64 (o : Int), .agg #[.string s, .bool q]] w fun e w' => ∃ n : Int, e = .returned (.tuple #[.int .i64 n, .bool (rdO o (lt s, q)).isSome]) ∧ (∀ v, rdO o (lt s, q) = some v → n = v) ∧ i64 n ∧ Below w.heap.size w w' := by
  obtain ⟨R, HR⟩ : ∃ R, Hid (R = rdO o (lt s, q)) := ⟨_, rfl⟩
  rw [← HR.out]
  obtain ⟨W1, hW1⟩ : ∃ W1, W1 = w.alloc (.cells #[.string s, .bool q] 125) := ⟨_, rfl⟩
  have HB1 : Hid (Below w.heap.size w W1) := by rw [hW1]; exact (Below.refl _ w).alloc (Nat.le_refl _) _
  have hc : W1.heap[w.heap.size]? = some (.cells #[.string s, .bool q] 125) := by rw [hW1]; exact World.alloc_heap_new w _
  have HCs : Hid (∀ W, Below W1.heap.size W1 W → W.cell? ⟨w.heap.size, 0, none⟩ = some (.string s) ∧ W.cell? ⟨w.heap.size, 1, none⟩ = some (.bool q)) := fun W hb => by
    have h2 := (hb.block _ (Array.getElem?_eq_some_iff.1 hc).1).trans hc
    exact ⟨(blk_cell h2 0 _ rfl).1, (blk_cell h2 1 _ rfl).1⟩
  clear hc
  obtain ⟨x0, x1⟩ := HCs.out W1 (Below.refl _ _)
  have y0 := cell_regrown x0
  have y1 := cell_regrown x1
  have HN9 : Hid True := trivial
  go_enter Tryz.func104, Tryz.ntmps104
  go_upto_region 1 with fail
  rw [← hW1]
  clear hW1
  by_cases q2 : o = 2
  · subst q2
    clear HN9
    by_cases h1 : lt s = [116, 114, 117, 101]
    · have s1 : (s.toList == [116, 114, 117, 101]) = true := by rw [toL, beq_iff_eq]; exact h1
      cases q with
      | true =>
        have HO : Hid (R = none) := HR.out
        clear HR h1
        go_upto_region 4 with fail
        go_wp2_with fail
        refine wp_region_quiet_below (by kernel_rfl) (by kernel_rfl) ?_
        repeat (first | go_big_quiet_step (first | fail) | quiet_step (first | fail))
        refine wpQuiet_nil ?_
        intro _ hw'
        obtain ⟨⟨dq, osq⟩, hw''⟩ := hw'
        subst hw''
        have hY := below_regrown W1 dq osq
        first | (change Exit.then _ _ Exit.normal _ (Sort.grow (redrawn W1 dq) osq)) | skip
        generalize Sort.grow (redrawn W1 dq) osq = Y at hY ⊢
        go_wp2
        first | (change bodyPost Tryz.prog Tryz.f104 _ Exit.ret _ _) | (simp only [Exit.noGoto]) | skip
        refine bodyPost_ret (v := .tuple #[.int .i64 (1), .bool false]) (by simp [results, Tryz.results104, go_sem]) rfl ⟨1, by rw [HO.out]; rfl, ?_, by unfold i64; omega, below2 HB1.out hY⟩
        intro v hv
        rw [HO.out] at hv
        cases hv
      | false =>
        have HO : Hid (R = some 1) := by
          show R = _
          rw [HR.out]
          show readO 2 (lt s) = _
          rw [h1]
          decide
        clear HR h1
        go_upto_region 4 with fail
        go_wp2_with fail
        refine wp_region_quiet_below (by kernel_rfl) (by kernel_rfl) ?_
        repeat (first | go_big_quiet_step (first | fail) | quiet_step (first | fail))
        refine wpQuiet_nil ?_
        intro _ hw'
        obtain ⟨⟨dq, osq⟩, hw''⟩ := hw'
        subst hw''
        have hY := below_regrown W1 dq osq
        first | (change Exit.then _ _ Exit.normal _ (Sort.grow (redrawn W1 dq) osq)) | skip
        generalize Sort.grow (redrawn W1 dq) osq = Y at hY ⊢
        go_wp2
        first | (change bodyPost Tryz.prog Tryz.f104 _ Exit.ret _ _) | (simp only [Exit.noGoto]) | skip
        refine bodyPost_ret (v := .tuple #[.int .i64 (1), .bool true]) (by simp [results, Tryz.results104, go_sem]) rfl ⟨1, by rw [HO.out]; rfl, ?_, by unfold i64; omega, below2 HB1.out hY⟩
        intro v hv
        rw [HO.out] at hv
        exact Option.some.inj hv
    have s1 : (s.toList == [116, 114, 117, 101]) = false := by rw [toL, beq_eq_false_iff_ne]; exact h1
    by_cases h2 : lt s = [102, 97, 108, 115, 101]
    · have s2 : (s.toList == [102, 97, 108, 115, 101]) = true := by rw [toL, beq_iff_eq]; exact h2
      cases q with
      | true =>
        have HO : Hid (R = none) := HR.out
        clear HR h1 h2
        go_upto_region 5 with fail
        go_wp2_with fail
        refine wp_region_quiet_below (by kernel_rfl) (by kernel_rfl) ?_
        repeat (first | go_big_quiet_step (first | fail) | quiet_step (first | fail))
        refine wpQuiet_nil ?_
        intro _ hw'
        obtain ⟨⟨dq, osq⟩, hw''⟩ := hw'
        subst hw''
        have hY := below_regrown W1 dq osq
        first | (change Exit.then _ _ Exit.normal _ (Sort.grow (redrawn W1 dq) osq)) | skip
        generalize Sort.grow (redrawn W1 dq) osq = Y at hY ⊢
        go_wp2
        first | (change bodyPost Tryz.prog Tryz.f104 _ Exit.ret _ _) | (simp only [Exit.noGoto]) | skip
        refine bodyPost_ret (v := .tuple #[.int .i64 (0), .bool false]) (by simp [results, Tryz.results104, go_sem]) rfl ⟨0, by rw [HO.out]; rfl, ?_, by unfold i64; omega, below2 HB1.out hY⟩
        intro v hv
        rw [HO.out] at hv
        cases hv
      | false =>
        have HO : Hid (R = some 0) := by
          show R = _
          rw [HR.out]
          show readO 2 (lt s) = _
          rw [h2]
          decide
        clear HR h1 h2
        go_upto_region 5 with fail
        go_wp2_with fail
        refine wp_region_quiet_below (by kernel_rfl) (by kernel_rfl) ?_
        repeat (first | go_big_quiet_step (first | fail) | quiet_step (first | fail))
        refine wpQuiet_nil ?_
        intro _ hw'
        obtain ⟨⟨dq, osq⟩, hw''⟩ := hw'
        subst hw''
        have hY := below_regrown W1 dq osq
        first | (change Exit.then _ _ Exit.normal _ (Sort.grow (redrawn W1 dq) osq)) | skip
        generalize Sort.grow (redrawn W1 dq) osq = Y at hY ⊢
        go_wp2
        first | (change bodyPost Tryz.prog Tryz.f104 _ Exit.ret _ _) | (simp only [Exit.noGoto]) | skip
        refine bodyPost_ret (v := .tuple #[.int .i64 (0), .bool true]) (by simp [results, Tryz.results104, go_sem]) rfl ⟨0, by rw [HO.out]; rfl, ?_, by unfold i64; omega, below2 HB1.out hY⟩
        intro v hv
        rw [HO.out] at hv
        exact Option.some.inj hv
    have s2 : (s.toList == [102, 97, 108, 115, 101]) = false := by rw [toL, beq_eq_false_iff_ne]; exact h2
    have HO : Hid (R = none) := by
      show R = _
      rw [HR.out]
      unfold rdO
      cases q with
      | true => rfl
      | false =>
        show readO 2 (lt s) = none
        exact read2_no h1 h2
    clear HR h1 h2
    cases q with
    | true =>
      go_upto_region 5 with fail
      go_wp2_with fail
      refine wp_region_quiet_below (by kernel_rfl) (by kernel_rfl) ?_
      repeat (first | go_big_quiet_step (first | fail) | quiet_step (first | fail))
      refine wpQuiet_nil ?_
      intro _ hw'
      obtain ⟨⟨dq, osq⟩, hw''⟩ := hw'
      subst hw''
      have hY := below_regrown W1 dq osq
      first | (change Exit.then _ _ Exit.normal _ (Sort.grow (redrawn W1 dq) osq)) | skip
      generalize Sort.grow (redrawn W1 dq) osq = Y at hY ⊢
      go_wp2
      first | (change bodyPost Tryz.prog Tryz.f104 _ Exit.ret _ _) | (simp only [Exit.noGoto]) | skip
      refine bodyPost_ret (v := .tuple #[.int .i64 (0), .bool false]) (by simp [results, Tryz.results104, go_sem]) rfl ⟨0, by rw [HO.out]; rfl, ?_, by unfold i64; omega, below2 HB1.out hY⟩
      intro v hv
      rw [HO.out] at hv
      cases hv
    | false =>
      go_upto_region 5 with fail
      go_wp2_with fail
      refine wp_region_quiet_below (by kernel_rfl) (by kernel_rfl) ?_
      repeat (first | go_big_quiet_step (first | fail) | quiet_step (first | fail))
      refine wpQuiet_nil ?_
      intro _ hw'
      obtain ⟨⟨dq, osq⟩, hw''⟩ := hw'
      subst hw''
      have hY := below_regrown W1 dq osq
      first | (change Exit.then _ _ Exit.normal _ (Sort.grow (redrawn W1 dq) osq)) | skip
      generalize Sort.grow (redrawn W1 dq) osq = Y at hY ⊢
      go_wp2
      first | (change bodyPost Tryz.prog Tryz.f104 _ Exit.ret _ _) | (simp only [Exit.noGoto]) | skip
      refine bodyPost_ret (v := .tuple #[.int .i64 (0), .bool false]) (by simp [results, Tryz.results104, go_sem]) rfl ⟨0, by rw [HO.out]; rfl, ?_, by unfold i64; omega, below2 HB1.out hY⟩
      intro v hv
      rw [HO.out] at hv
      cases hv
  by_cases q5 : o = 5
  · subst q5
    clear HN9
    have HI0 : Hid ((if q = true then none else seekO 5 (lt s) 13 1) = R) := by
      show _ = R
      rw [HR.out]
      unfold rdO
      simp only
      rw [seek13 (.inl rfl)]
    clear HR
    go_wp2_with fail
    go_loopw [6] (fun i wr => ∃ k : Nat, 1 ≤ k ∧ k ≤ 14 ∧ i = .int .i64 (k : Int) ∧ Hid ((if q = true then none else seekO 5 (lt s) (14 - k) (k : Int)) = R) ∧ Hid (Below W1.heap.size W1 wr)) (fun i _ => 14 - (intOf i).toNat)
    case atStart => exact ⟨1, by omega, by omega, rfl, HI0, Below.refl _ _⟩
    case round =>
      obtain ⟨k, hk1, hk, rfl, hI, hb⟩ := hrel
      by_cases hlt : k < 14
      case neg =>
        obtain rfl : k = 14 := by omega
        have HO : Hid (R = none) := by
          show R = _
          rw [← hI.out]
          cases q <;> rfl
        have HB2 : Hid (Below w.heap.size w wr) := below2 HB1.out hb.out
        clear hI hb
        go_wp2
        first | (change bodyPost Tryz.prog Tryz.f104 _ Exit.ret _ _) | (simp only [Exit.noGoto]) | skip
        refine bodyPost_ret (v := .tuple #[.int .i64 (0), .bool false]) (by simp [results, Tryz.results104, go_sem]) rfl ⟨0, by rw [HO.out]; rfl, ?_, by unfold i64; omega, HB2.out⟩
        intro v hv
        rw [HO.out] at hv
        cases hv
      obtain ⟨x0, x1⟩ := HCs.out wr hb.out
      have y0 := cell_regrown x0
      have y1 := cell_regrown x1
      have k1 : (k : Int) ≤ 13 := by omega
      have my := fun W => rmay_any 5 (k : Int) W (by decide) (by omega) (by omega)
      have sg := fun W => rsign_any k W (by omega)
      have HS : Hid ((if q = true then none else if mayS 5 (k : Int) && opW 5 (k : Int) == lt s then some (k : Int) else seekO 5 (lt s) (14 - (k + 1)) ((k : Int) + 1)) = R) := by
        show _ = R
        rw [← hI.out, show 14 - k = (14 - (k + 1)) + 1 by omega, seekO]
      have hop : opW 5 (k : Int) = (sgT.getD k e0).data.toList := by unfold opW; rw [if_neg (by decide), if_pos (by decide), Int.toNat_natCast]
      rw [hop] at HS
      clear hI hop
      have c1 : ∀ d os, Calls Tryz.prog 66 #[.int .i64 5, .int .i64 (k : Int)] (Sort.grow (redrawn wr d) os) fun e w'' => e = .returned (.bool (mayS 5 (k : Int))) ∧ ∃ z : Regrown, w'' = Sort.grow (redrawn wr z.d) z.os := fun d os => (my _).mono fun e w'' ⟨q1, q2⟩ => ⟨q1, ⟨d, os⟩, q2⟩
      have c2 : ∀ d os, Calls Tryz.prog 63 #[.int .i64 (k : Int)] (Sort.grow (redrawn wr d) os) fun e w'' => e = .returned (.string (sgT.getD k e0)) ∧ ∃ z : Regrown, w'' = Sort.grow (redrawn wr z.d) z.os := fun d os => Calls.regrown_of (sg _)
      clear my sg
      generalize sgT.getD k e0 = tk at *
      cases hm : mayS 5 (k : Int) with
      | false =>
        rw [hm] at c1 HS
        have HI2 : Hid ((if q = true then none else seekO 5 (lt s) (14 - (k + 1)) ((k + 1 : Nat) : Int)) = R) := by
          show _ = R
          rw [← HS.out]
          rfl
        clear HS hm
        go_upto_region 11 with fail
        go_wp2_with fail
        refine wp_region_quiet_below (by kernel_rfl) (by kernel_rfl) ?_
        repeat (first | go_big_quiet_step (first | with_reducible exact c1 _ _ | with_reducible exact c2 _ _) | quiet_step (first | with_reducible exact c1 _ _ | with_reducible exact c2 _ _))
        refine wpQuiet_nil ?_
        intro _ hw'
        obtain ⟨⟨dq, osq⟩, hw''⟩ := hw'
        subst hw''
        have hY := below_regrown wr dq osq
        first | (change Exit.then _ _ Exit.normal _ (Sort.grow (redrawn wr dq) osq)) | skip
        generalize Sort.grow (redrawn wr dq) osq = Y at hY ⊢
        clear c1 c2
        go_wp2
        exact ⟨⟨k + 1, by omega, by omega, by go_num, HI2, below2 hb.out hY⟩, by simp [intOf]; omega⟩
      | true =>
        rw [hm] at c1 HS
        clear hm
        by_cases heq : tk.data.toList = lt s
        · have s1 : (tk.toList == s.toList) = true := by rw [toL, toL, beq_iff_eq]; exact heq
          have HS2 : Hid ((if q = true then none else some (k : Int)) = R) := by
            show _ = R
            rw [← HS.out, show (tk.data.toList == lt s) = true from by rw [beq_iff_eq]; exact heq]
            rfl
          clear HS heq
          go_upto_region 11 with fail
          go_wp2_with fail
          refine wp_region_quiet_below (by kernel_rfl) (by kernel_rfl) ?_
          repeat (first | go_big_quiet_step (first | with_reducible exact c1 _ _ | with_reducible exact c2 _ _) | quiet_step (first | with_reducible exact c1 _ _ | with_reducible exact c2 _ _))
          refine wpQuiet_nil ?_
          intro _ hw'
          obtain ⟨⟨dq, osq⟩, hw''⟩ := hw'
          subst hw''
          have hY := below_regrown wr dq osq
          first | (change Exit.then _ _ Exit.normal _ (Sort.grow (redrawn wr dq) osq)) | skip
          generalize Sort.grow (redrawn wr dq) osq = Y at hY ⊢
          clear c1 c2
          have hbY : Hid (Below W1.heap.size W1 Y) := below2 hb.out hY
          obtain ⟨x0, x1⟩ := HCs.out Y hbY.out
          have y0 := cell_regrown x0
          have y1 := cell_regrown x1
          clear hb hY
          go_upto_region 12 with fail
          go_wp2_with fail
          refine wp_region_quiet_below (by kernel_rfl) (by kernel_rfl) ?_
          repeat (first | go_big_quiet_step (first | fail) | quiet_step (first | fail))
          refine wpQuiet_nil ?_
          intro _ hw'
          obtain ⟨⟨dq, osq⟩, hw''⟩ := hw'
          subst hw''
          have hY := below_regrown Y dq osq
          first | (change Exit.then _ _ Exit.normal _ (Sort.grow (redrawn Y dq) osq)) | skip
          generalize Sort.grow (redrawn Y dq) osq = Z at hY ⊢
          have HB2 : Hid (Below w.heap.size w Z) := below2 HB1.out (below2 hbY.out hY)
          clear hbY hY
          cases q with
          | true =>
            have HO : Hid (R = none) := HS2.out.symm
            go_wp2
            first | (change bodyPost Tryz.prog Tryz.f104 _ Exit.ret _ _) | (simp only [Exit.noGoto]) | skip
            refine bodyPost_ret (v := .tuple #[.int .i64 ((k : Int)), .bool false]) (by simp [results, Tryz.results104, go_sem]) rfl ⟨(k : Int), by rw [HO.out]; rfl, ?_, by unfold i64; omega, HB2.out⟩
            intro v hv
            rw [HO.out] at hv
            cases hv
          | false =>
            have HO : Hid (R = some (k : Int)) := HS2.out.symm
            go_wp2
            first | (change bodyPost Tryz.prog Tryz.f104 _ Exit.ret _ _) | (simp only [Exit.noGoto]) | skip
            refine bodyPost_ret (v := .tuple #[.int .i64 ((k : Int)), .bool true]) (by simp [results, Tryz.results104, go_sem]) rfl ⟨(k : Int), by rw [HO.out]; rfl, ?_, by unfold i64; omega, HB2.out⟩
            intro v hv
            rw [HO.out] at hv
            exact Option.some.inj hv
        · have s1 : (tk.toList == s.toList) = false := by rw [toL, toL, beq_eq_false_iff_ne]; exact heq
          have HI2 : Hid ((if q = true then none else seekO 5 (lt s) (14 - (k + 1)) ((k + 1 : Nat) : Int)) = R) := by
            show _ = R
            rw [← HS.out, show (tk.data.toList == lt s) = false from by rw [beq_eq_false_iff_ne]; exact heq]
            rfl
          clear HS heq
          go_upto_region 11 with fail
          go_wp2_with fail
          refine wp_region_quiet_below (by kernel_rfl) (by kernel_rfl) ?_
          repeat (first | go_big_quiet_step (first | with_reducible exact c1 _ _ | with_reducible exact c2 _ _) | quiet_step (first | with_reducible exact c1 _ _ | with_reducible exact c2 _ _))
          refine wpQuiet_nil ?_
          intro _ hw'
          obtain ⟨⟨dq, osq⟩, hw''⟩ := hw'
          subst hw''
          have hY := below_regrown wr dq osq
          first | (change Exit.then _ _ Exit.normal _ (Sort.grow (redrawn wr dq) osq)) | skip
          generalize Sort.grow (redrawn wr dq) osq = Y at hY ⊢
          clear c1 c2
          go_wp2
          exact ⟨⟨k + 1, by omega, by omega, by go_num, HI2, below2 hb.out hY⟩, by simp [intOf]; omega⟩
  by_cases q6 : o = 6
  · subst q6
    clear HN9
    have HI0 : Hid ((if q = true then none else seekO 6 (lt s) 13 1) = R) := by
      show _ = R
      rw [HR.out]
      unfold rdO
      simp only
      rw [seek13 (.inr rfl)]
    clear HR
    go_wp2_with fail
    go_loopw [6] (fun i wr => ∃ k : Nat, 1 ≤ k ∧ k ≤ 14 ∧ i = .int .i64 (k : Int) ∧ Hid ((if q = true then none else seekO 6 (lt s) (14 - k) (k : Int)) = R) ∧ Hid (Below W1.heap.size W1 wr)) (fun i _ => 14 - (intOf i).toNat)
    case atStart => exact ⟨1, by omega, by omega, rfl, HI0, Below.refl _ _⟩
    case round =>
      obtain ⟨k, hk1, hk, rfl, hI, hb⟩ := hrel
      by_cases hlt : k < 14
      case neg =>
        obtain rfl : k = 14 := by omega
        have HO : Hid (R = none) := by
          show R = _
          rw [← hI.out]
          cases q <;> rfl
        have HB2 : Hid (Below w.heap.size w wr) := below2 HB1.out hb.out
        clear hI hb
        go_wp2
        first | (change bodyPost Tryz.prog Tryz.f104 _ Exit.ret _ _) | (simp only [Exit.noGoto]) | skip
        refine bodyPost_ret (v := .tuple #[.int .i64 (0), .bool false]) (by simp [results, Tryz.results104, go_sem]) rfl ⟨0, by rw [HO.out]; rfl, ?_, by unfold i64; omega, HB2.out⟩
        intro v hv
        rw [HO.out] at hv
        cases hv
      obtain ⟨x0, x1⟩ := HCs.out wr hb.out
      have y0 := cell_regrown x0
      have y1 := cell_regrown x1
      have k1 : (k : Int) ≤ 13 := by omega
      have my := fun W => rmay_any 6 (k : Int) W (by decide) (by omega) (by omega)
      have sg := fun W => rsign_any k W (by omega)
      have HS : Hid ((if q = true then none else if mayS 6 (k : Int) && opW 6 (k : Int) == lt s then some (k : Int) else seekO 6 (lt s) (14 - (k + 1)) ((k : Int) + 1)) = R) := by
        show _ = R
        rw [← hI.out, show 14 - k = (14 - (k + 1)) + 1 by omega, seekO]
      have hop : opW 6 (k : Int) = (sgT.getD k e0).data.toList := by unfold opW; rw [if_neg (by decide), if_pos (by decide), Int.toNat_natCast]
      rw [hop] at HS
      clear hI hop
      have c1 : ∀ d os, Calls Tryz.prog 66 #[.int .i64 6, .int .i64 (k : Int)] (Sort.grow (redrawn wr d) os) fun e w'' => e = .returned (.bool (mayS 6 (k : Int))) ∧ ∃ z : Regrown, w'' = Sort.grow (redrawn wr z.d) z.os := fun d os => (my _).mono fun e w'' ⟨q1, q2⟩ => ⟨q1, ⟨d, os⟩, q2⟩
      have c2 : ∀ d os, Calls Tryz.prog 63 #[.int .i64 (k : Int)] (Sort.grow (redrawn wr d) os) fun e w'' => e = .returned (.string (sgT.getD k e0)) ∧ ∃ z : Regrown, w'' = Sort.grow (redrawn wr z.d) z.os := fun d os => Calls.regrown_of (sg _)
      clear my sg
      generalize sgT.getD k e0 = tk at *
      cases hm : mayS 6 (k : Int) with
      | false =>
        rw [hm] at c1 HS
        have HI2 : Hid ((if q = true then none else seekO 6 (lt s) (14 - (k + 1)) ((k + 1 : Nat) : Int)) = R) := by
          show _ = R
          rw [← HS.out]
          rfl
        clear HS hm
        go_upto_region 11 with fail
        go_wp2_with fail
        refine wp_region_quiet_below (by kernel_rfl) (by kernel_rfl) ?_
        repeat (first | go_big_quiet_step (first | with_reducible exact c1 _ _ | with_reducible exact c2 _ _) | quiet_step (first | with_reducible exact c1 _ _ | with_reducible exact c2 _ _))
        refine wpQuiet_nil ?_
        intro _ hw'
        obtain ⟨⟨dq, osq⟩, hw''⟩ := hw'
        subst hw''
        have hY := below_regrown wr dq osq
        first | (change Exit.then _ _ Exit.normal _ (Sort.grow (redrawn wr dq) osq)) | skip
        generalize Sort.grow (redrawn wr dq) osq = Y at hY ⊢
        clear c1 c2
        go_wp2
        exact ⟨⟨k + 1, by omega, by omega, by go_num, HI2, below2 hb.out hY⟩, by simp [intOf]; omega⟩
      | true =>
        rw [hm] at c1 HS
        clear hm
        by_cases heq : tk.data.toList = lt s
        · have s1 : (tk.toList == s.toList) = true := by rw [toL, toL, beq_iff_eq]; exact heq
          have HS2 : Hid ((if q = true then none else some (k : Int)) = R) := by
            show _ = R
            rw [← HS.out, show (tk.data.toList == lt s) = true from by rw [beq_iff_eq]; exact heq]
            rfl
          clear HS heq
          go_upto_region 11 with fail
          go_wp2_with fail
          refine wp_region_quiet_below (by kernel_rfl) (by kernel_rfl) ?_
          repeat (first | go_big_quiet_step (first | with_reducible exact c1 _ _ | with_reducible exact c2 _ _) | quiet_step (first | with_reducible exact c1 _ _ | with_reducible exact c2 _ _))
          refine wpQuiet_nil ?_
          intro _ hw'
          obtain ⟨⟨dq, osq⟩, hw''⟩ := hw'
          subst hw''
          have hY := below_regrown wr dq osq
          first | (change Exit.then _ _ Exit.normal _ (Sort.grow (redrawn wr dq) osq)) | skip
          generalize Sort.grow (redrawn wr dq) osq = Y at hY ⊢
          clear c1 c2
          have hbY : Hid (Below W1.heap.size W1 Y) := below2 hb.out hY
          obtain ⟨x0, x1⟩ := HCs.out Y hbY.out
          have y0 := cell_regrown x0
          have y1 := cell_regrown x1
          clear hb hY
          go_upto_region 12 with fail
          go_wp2_with fail
          refine wp_region_quiet_below (by kernel_rfl) (by kernel_rfl) ?_
          repeat (first | go_big_quiet_step (first | fail) | quiet_step (first | fail))
          refine wpQuiet_nil ?_
          intro _ hw'
          obtain ⟨⟨dq, osq⟩, hw''⟩ := hw'
          subst hw''
          have hY := below_regrown Y dq osq
          first | (change Exit.then _ _ Exit.normal _ (Sort.grow (redrawn Y dq) osq)) | skip
          generalize Sort.grow (redrawn Y dq) osq = Z at hY ⊢
          have HB2 : Hid (Below w.heap.size w Z) := below2 HB1.out (below2 hbY.out hY)
          clear hbY hY
          cases q with
          | true =>
            have HO : Hid (R = none) := HS2.out.symm
            go_wp2
            first | (change bodyPost Tryz.prog Tryz.f104 _ Exit.ret _ _) | (simp only [Exit.noGoto]) | skip
            refine bodyPost_ret (v := .tuple #[.int .i64 ((k : Int)), .bool false]) (by simp [results, Tryz.results104, go_sem]) rfl ⟨(k : Int), by rw [HO.out]; rfl, ?_, by unfold i64; omega, HB2.out⟩
            intro v hv
            rw [HO.out] at hv
            cases hv
          | false =>
            have HO : Hid (R = some (k : Int)) := HS2.out.symm
            go_wp2
            first | (change bodyPost Tryz.prog Tryz.f104 _ Exit.ret _ _) | (simp only [Exit.noGoto]) | skip
            refine bodyPost_ret (v := .tuple #[.int .i64 ((k : Int)), .bool true]) (by simp [results, Tryz.results104, go_sem]) rfl ⟨(k : Int), by rw [HO.out]; rfl, ?_, by unfold i64; omega, HB2.out⟩
            intro v hv
            rw [HO.out] at hv
            exact Option.some.inj hv
        · have s1 : (tk.toList == s.toList) = false := by rw [toL, toL, beq_eq_false_iff_ne]; exact heq
          have HI2 : Hid ((if q = true then none else seekO 6 (lt s) (14 - (k + 1)) ((k + 1 : Nat) : Int)) = R) := by
            show _ = R
            rw [← HS.out, show (tk.data.toList == lt s) = false from by rw [beq_eq_false_iff_ne]; exact heq]
            rfl
          clear HS heq
          go_upto_region 11 with fail
          go_wp2_with fail
          refine wp_region_quiet_below (by kernel_rfl) (by kernel_rfl) ?_
          repeat (first | go_big_quiet_step (first | with_reducible exact c1 _ _ | with_reducible exact c2 _ _) | quiet_step (first | with_reducible exact c1 _ _ | with_reducible exact c2 _ _))
          refine wpQuiet_nil ?_
          intro _ hw'
          obtain ⟨⟨dq, osq⟩, hw''⟩ := hw'
          subst hw''
          have hY := below_regrown wr dq osq
          first | (change Exit.then _ _ Exit.normal _ (Sort.grow (redrawn wr dq) osq)) | skip
          generalize Sort.grow (redrawn wr dq) osq = Y at hY ⊢
          clear c1 c2
          go_wp2
          exact ⟨⟨k + 1, by omega, by omega, by go_num, HI2, below2 hb.out hY⟩, by simp [intOf]; omega⟩
  have p2 : ((o : Int) == 2) = false := by rw [beq_eq_false_iff_ne]; omega
  have p5 : ((o : Int) == 5) = false := by rw [beq_eq_false_iff_ne]; omega
  have p6 : ((o : Int) == 6) = false := by rw [beq_eq_false_iff_ne]; omega
  by_cases q9 : o = 9
  · subst q9
    have so := fun W => rsortOf_any s q W
    have HS : Hid (R = if mayS 9 (sortT (lt s, q)) = true then some (sortT (lt s, q)) else none) := by
      show R = _
      rw [HR.out]
      unfold rdO sortT
      cases q with
      | true => rfl
      | false => exact read9 (lt s)
    have hrg : 0 ≤ sortT (lt s, q) ∧ sortT (lt s, q) ≤ 19 := by
      unfold sortT
      cases q with
      | true => exact ⟨by show (0 : Int) ≤ 0; decide, by show (0 : Int) ≤ 19; decide⟩
      | false =>
        show 0 ≤ rdSort (lt s) ∧ rdSort (lt s) ≤ 19
        rw [rdSort_R]
        have : ∀ (k n : Nat), n + k ≤ 20 → 0 ≤ seekR (lt s) k n ∧ seekR (lt s) k n ≤ 19 := by
          intro k
          induction k with
          | zero => intro n _; exact ⟨Int.le_refl _, by show (0 : Int) ≤ 19; decide⟩
          | succ k ih =>
            intro n hn
            rw [seekR]
            split
            · omega
            · exact ih (n + 1) (by omega)
        exact this 19 1 (by omega)
    clear HR p2 p5 p6 HN9
    generalize sortT (lt s, q) = N at *
    have my := fun W => rmay_any 9 N W (by decide) (by omega) (by omega)
    obtain ⟨M, HM⟩ : ∃ M, Hid (M = mayS 9 N) := ⟨_, rfl⟩
    rw [← HM.out] at HS my
    clear HM
    go_wp2_with fail
    refine (so _).mono ?_
    rintro e W2 ⟨rfl, hw2⟩
    have HB2 : Hid (Below w.heap.size w W2) := below2 HB1.out hw2
    clear so hw2
    go_wp2_with fail
    refine (my _).mono ?_
    rintro e w3 ⟨rfl, hw3⟩
    subst w3
    cases M with
    | true =>
      have HO : Hid (R = some N) := HS.out
      clear HS my
      go_wp2
      first | (change bodyPost Tryz.prog Tryz.f104 _ Exit.ret _ _) | (simp only [Exit.noGoto]) | skip
      refine bodyPost_ret (v := .tuple #[.int .i64 (N), .bool true]) (by simp [results, Tryz.results104, go_sem]) rfl ⟨N, by rw [HO.out]; rfl, ?_, by unfold i64; omega, HB2.out⟩
      intro v hv
      rw [HO.out] at hv
      exact Option.some.inj hv
    | false =>
      have HO : Hid (R = none) := HS.out
      clear HS my
      go_wp2
      first | (change bodyPost Tryz.prog Tryz.f104 _ Exit.ret _ _) | (simp only [Exit.noGoto]) | skip
      refine bodyPost_ret (v := .tuple #[.int .i64 (N), .bool false]) (by simp [results, Tryz.results104, go_sem]) rfl ⟨N, by rw [HO.out]; rfl, ?_, by unfold i64; omega, HB2.out⟩
      intro v hv
      rw [HO.out] at hv
      cases hv
  have p9 : ((o : Int) == 9) = false := by rw [beq_eq_false_iff_ne]; omega
  have r2 : ¬ (o : Int) = 2 := by omega
  have r5 : ¬ (o : Int) = 5 := by omega
  have r6 : ¬ (o : Int) = 6 := by omega
  have r9 : ¬ (o : Int) = 9 := by omega
  have ht : tabO o = false := by
    unfold tabO
    simp only [Bool.or_eq_false_iff, beq_eq_false_iff_ne, ne_eq]
    exact ⟨⟨⟨q2, q5⟩, q6⟩, q9⟩
  have nu := fun W => rnumber_any s q hs W
  have HS : Hid (R = match rnumT (lt s, q) with | some n => if mayS o n = true then some n else none | none => none) := by
    show R = _
    rw [HR.out]
    unfold rdO rnumT
    cases q with
    | true => rfl
    | false => exact readO_num (by omega) ht (lt s)
  clear HR ht HN9
  generalize rnumT (lt s, q) = N at *
  go_wp2_with fail
  refine (nu _).mono ?_
  rintro e W2 ⟨n, rfl, hn, h64, hw2⟩
  have HB2 : Hid (Below w.heap.size w W2) := below2 HB1.out hw2
  have H64 : Hid (i64 n) := h64
  clear nu hw2
  cases N with
  | none =>
    have HO : Hid (R = none) := HS.out
    have i1 : ((none : Option Int).isSome) = false := rfl
    clear HS hn h64 x0 x1 y0 y1
    go_wp2
    first | (change bodyPost Tryz.prog Tryz.f104 _ Exit.ret _ _) | (simp only [Exit.noGoto]) | skip
    refine bodyPost_ret (v := .tuple #[.int .i64 (n), .bool false]) (by simp [results, Tryz.results104, go_sem]) rfl ⟨n, by rw [HO.out]; rfl, ?_, H64.out, HB2.out⟩
    intro v hv
    rw [HO.out] at hv
    cases hv
  | some v0 =>
    have en : n = v0 := hn v0 rfl
    subst en
    have i1 : ((some n : Option Int).isSome) = true := rfl
    have my := fun W => rmay_any o n W ho h64.1 h64.2
    obtain ⟨M, HM⟩ : ∃ M, Hid (M = mayS o n) := ⟨_, rfl⟩
    have HS' : Hid (R = if M = true then some n else none) := by show R = _; rw [HS.out, HM.out]
    rw [← HM.out] at my
    clear HM HS hn h64 x0 x1 y0 y1
    go_wp2_with fail
    refine (my _).mono ?_
    rintro e w3 ⟨rfl, hw3⟩
    subst w3
    cases M with
    | true =>
      have HO : Hid (R = some n) := HS'.out
      clear HS' my
      go_wp2
      first | (change bodyPost Tryz.prog Tryz.f104 _ Exit.ret _ _) | (simp only [Exit.noGoto]) | skip
      refine bodyPost_ret (v := .tuple #[.int .i64 (n), .bool true]) (by simp [results, Tryz.results104, go_sem]) rfl ⟨n, by rw [HO.out]; rfl, ?_, H64.out, HB2.out⟩
      intro v hv
      rw [HO.out] at hv
      exact Option.some.inj hv
    | false =>
      have HO : Hid (R = none) := HS'.out
      clear HS' my
      go_wp2
      first | (change bodyPost Tryz.prog Tryz.f104 _ Exit.ret _ _) | (simp only [Exit.noGoto]) | skip
      refine bodyPost_ret (v := .tuple #[.int .i64 (n), .bool false]) (by simp [results, Tryz.results104, go_sem]) rfl ⟨n, by rw [HO.out]; rfl, ?_, H64.out, HB2.out⟩
      intro v hv
      rw [HO.out] at hv
      cases hv
end Go.Proofs.YtchinflkjcebjabGreatDoor
