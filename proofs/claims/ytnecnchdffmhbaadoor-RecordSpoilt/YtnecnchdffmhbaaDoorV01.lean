import Derived.Test.YtnecnchdffmhbaaDoorV00
namespace Go.Proofs.YtnecnchdffmhbaaDoor
open Go.RowKit

theorem fxO_snoc (b : List UInt8) (c : UInt8) : fxO (b ++ [c]) = fxO b * 256 + c.toNat := by
  unfold fxO
  rw [List.foldl_append]
  rfl
/-- Where the law's events stands: the parts behind it, and what is told of the rest. -/
structure EcI (rc : Rc) (b : List UInt8) (n a d : Nat) : Prop where
  st : ∃ (m : Nat) (l : List Ev), l.length ≤ m ∧ d + l.length = rc.evs.length ∧ (∀ e ∈ l, e ∈ rc.evs) ∧ b.drop a = evF l ++ chS (lastL rc) ∧ whl rc.evs.length rc.evs (n - 2) = (d + (whl m l (n - a)).1, (a - 2) + (whl m l (n - a)).2)
  lo : 2 ≤ a ∧ a ≤ n
/-- The chunk that stands there. -/
theorem EcI.chunk {rc : Rc} {b : List UInt8} {n a d : Nat} (h : EcI rc b n a d) (hn : n < b.length) (ho : rc.out.length ≤ 16777216) (hok : ∀ e ∈ rc.evs, evOk e = true ∧ (-9223372036854775808 ≤ e.vn ∧ e.vn ≤ 9223372036854775807)) :
    ∃ sz, sz < 4294967296 ∧ fxO ((b.drop a).take 4) = sz ∧ a + 8 + sz ≤ b.length ∧
      (n < a + 8 + sz → whl rc.evs.length rc.evs (n - 2) = (d, a - 2)) ∧
      (a + 8 + sz ≤ n → d < rc.evs.length ∧ EcI rc b n (a + 8 + sz) (min (d + 64) rc.evs.length)) := by
  obtain ⟨m, l, hm, hd, hin, hb, hw⟩ := h.st
  obtain ⟨h2, han⟩ := h.lo
  have hbl : b.length - a = (evF l ++ chS (lastL rc)).length := by rw [← hb, List.length_drop]
  by_cases hl : l = []
  · subst hl
    rw [evF_nil, List.nil_append] at hb hbl
    rw [chS_len] at hbl
    have hll := lastL_len rc
    refine ⟨(lastL rc).length, by omega, ?_, by omega, fun _ => ?_, fun h => by omega⟩
    · rw [hb]
      unfold chS
      rw [List.append_assoc, List.take_append_of_le_length (by rw [fxS_len]; exact Nat.le_refl _), List.take_of_length_le (by rw [fxS_len]; exact Nat.le_refl _), fxO_fxS]
      exact Nat.mod_eq_of_lt (by omega)
    · rw [hw]
      cases m <;> simp [whl]
  · have hp : ∀ e ∈ l.take 64, evOk e = true ∧ (-9223372036854775808 ≤ e.vn ∧ e.vn ≤ 9223372036854775807) := fun e he => hok e (hin e (List.mem_of_mem_take he))
    have hbz := bodyL_len _ hp (by rw [List.length_take]; omega)
    have hlp := List.length_pos_iff.2 hl
    rw [evF_cons hl, List.append_assoc] at hb hbl
    rw [List.length_append, chS_len] at hbl
    obtain ⟨sz, hsz⟩ : ∃ sz, (bodyL (l.take 64)).length = sz := ⟨_, rfl⟩
    rw [hsz] at hbz hbl
    have hm0 : ∃ m', m = m' + 1 := ⟨m - 1, by omega⟩
    obtain ⟨m', rfl⟩ := hm0
    refine ⟨sz, by omega, ?_, by omega, fun hc => ?_, fun hc => ⟨by omega, ⟨⟨m', l.drop 64, by rw [List.length_drop]; omega, ?_, fun e he => hin e (List.mem_of_mem_drop he), ?_, ?_⟩, by omega, hc⟩⟩⟩
    · rw [hb]
      unfold chS
      rw [List.append_assoc, List.append_assoc, List.take_append_of_le_length (by rw [fxS_len]; exact Nat.le_refl _), List.take_of_length_le (by rw [fxS_len]; exact Nat.le_refl _), fxO_fxS, hsz]
      exact Nat.mod_eq_of_lt (by omega)
    · rw [hw]
      unfold whl
      rw [if_neg hl, hsz, if_pos (by omega)]
      rfl
    · rw [List.length_drop]
      omega
    · rw [show a + 8 + sz = a + (8 + sz) by omega, ← List.drop_drop, hb, List.drop_append_of_le_length (by rw [chS_len, hsz]; exact Nat.le_refl _), List.drop_of_length_le (by rw [chS_len, hsz]; exact Nat.le_refl _), List.nil_append]
    · rw [hw]
      conv => lhs; unfold whl
      rw [if_neg hl, hsz, if_neg (by omega)]
      have e1 : n - a - (8 + sz) = n - (a + 8 + sz) := by omega
      rw [e1]
      have e2 : (l.take 64).length + d = min (d + 64) rc.evs.length := by rw [List.length_take]; omega
      simp only [Prod.mk.injEq]
      omega
set_option maxRecDepth 100000 in
set_option maxHeartbeats 2000000 in
theorem events_any (W : World) (rc : Rc) (h : (encS rc).2 = 0) (hv : ∀ e ∈ rc.evs, -9223372036854775808 ≤ e.vn ∧ e.vn ≤ 9223372036854775807) (fb : ByteArray) (hfb : fb.data.toList = (encS rc).1) (n : Nat) (h2 : 2 ≤ n) (hn : n < fb.size) (hs : fb.size ≤ 100000000000) :
    Calls Tryd.prog 13 #[.string fb, .int .i64 (rc.evs.length : Int), .int .i64 (n : Int)] W fun e w' => e = .returned (.tuple #[.int .i64 ((whl rc.evs.length rc.evs (n - 2)).1 : Int), .bool false, .bool (decide (2 + (whl rc.evs.length rc.evs (n - 2)).2 + 4 ≤ n))]) ∧ w' = W := by
  obtain ⟨h1, h3, h4, h5⟩ := encS_ok h
  rw [h5] at hfb
  simp only at hfb
  have hfz : fb.size = fb.data.toList.length := Lib.size_eq fb
  have HI0 : Hid (EcI rc fb.data.toList n 2 0) := by
    refine ⟨⟨rc.evs.length, rc.evs, Nat.le_refl _, by omega, fun e he => he, ?_, ?_⟩, Nat.le_refl _, h2⟩
    · rw [hfb]
      unfold fileL
      rw [List.append_assoc]
      rfl
    · simp
  have HC : Hid (∀ a d, EcI rc fb.data.toList n a d → ∃ sz, sz < 4294967296 ∧ fxO ((fb.data.toList.drop a).take 4) = sz ∧ a + 8 + sz ≤ fb.data.toList.length ∧ (n < a + 8 + sz → whl rc.evs.length rc.evs (n - 2) = (d, a - 2)) ∧ (a + 8 + sz ≤ n → d < rc.evs.length ∧ EcI rc fb.data.toList n (a + 8 + sz) (min (d + 64) rc.evs.length))) := fun a d hI => hI.chunk (by rw [← hfz]; exact hn) h4 (fun e he => ⟨List.all_eq_true.1 h1 e he, hv e he⟩)
  obtain ⟨RV, HRV⟩ : ∃ RV, Hid (whl rc.evs.length rc.evs (n - 2) = RV) := ⟨_, (rfl : whl rc.evs.length rc.evs (n - 2) = _)⟩
  rw [HRV.out]
  have HN : Hid (n < fb.size ∧ fb.size ≤ 100000000000 ∧ fb.size = fb.data.toList.length ∧ rc.evs.length ≤ 1048576) := ⟨hn, hs, hfz, h3⟩
  obtain ⟨N, hN⟩ : ∃ N, rc.evs.length = N := ⟨_, rfl⟩
  have HNn : Hid (rc.evs.length = N) := hN
  rw [hN]
  have qN : (N : Int) ≤ 1048576 := by omega
  have qN0 : (0 : Int) ≤ (N : Int) := by omega
  have qf : (fb.size : Int) ≤ 100000000000 := by omega
  clear h h1 h2 h3 h4 h5 hv hfb hn hs hfz hN
  go_enter Tryd.func13, Tryd.ntmps13
  go_wp2_with fail
  go_loopw [9, 10] (fun av dv wr => ∃ a d : Nat, av = .int .i64 (a : Int) ∧ dv = .int .i64 (d : Int) ∧ d ≤ N ∧ wr = W ∧ Hid (EcI rc fb.data.toList n a d)) (fun av _ _ => n - (intOf av).toNat)
  case atStart => exact ⟨2, 0, rfl, rfl, Nat.zero_le _, rfl, HI0⟩
  case round =>
    obtain ⟨a, d, rfl, rfl, hdN, rfl, HI⟩ := hrel
    clear HI0
    obtain ⟨sz, hsz, hfx, hle, hno, hgo⟩ := HC.out a d HI.out
    have hlo := HI.out.lo
    have hal : a + 8 + sz ≤ fb.size := by rw [HN.out.2.2.1]; exact hle
    have qa0 : (0 : Int) ≤ (a : Int) := by omega
    have qa : (a : Int) ≤ 100000000000 := by omega
    have qa4 : (a : Int) + 4 ≤ (fb.size : Int) := by omega
    have HSz : Hid (fxO ((fb.data.toList.drop a).take 4) = sz ∧ sz < 4294967296 ∧ (n < a + 8 + sz → whl rc.evs.length rc.evs (n - 2) = (d, a - 2)) ∧ (a + 8 + sz ≤ n → d < rc.evs.length ∧ EcI rc fb.data.toList n (a + 8 + sz) (min (d + 64) rc.evs.length)) ∧ a + 8 + sz ≤ fb.size ∧ 2 ≤ a ∧ a ≤ n) := ⟨hfx, hsz, hno, hgo, hal, hlo⟩
    clear hsz hfx hle hno hgo hlo hal
    go_wp2_with fail
    go_loopw [11, 12] (fun sv iv wi => ∃ (i z : Nat), iv = .int .i64 (i : Int) ∧ i ≤ 4 ∧ sv = .int .i64 (z : Int) ∧ z < 4294967296 ∧ wi = wr ∧ Hid (z = fxO ((fb.data.toList.drop a).take i))) (fun _ iv _ => 4 - (intOf iv).toNat)
    case atStart => exact ⟨0, 0, rfl, by omega, rfl, by omega, rfl, rfl⟩
    case round =>
      obtain ⟨i, z, rfl, hi4, rfl, hz32, rfl, HZ⟩ := hrel
      have qi0 : (0 : Int) ≤ (i : Int) := by omega
      have qz0 : (0 : Int) ≤ (z : Int) := by omega
      have qz : (z : Int) < 4294967296 := by omega
      by_cases hlt : i < 4
      · have qi : (i : Int) < 4 := by omega
        obtain ⟨p, hp⟩ : ∃ p, a + i = p := ⟨_, rfl⟩
        have hpi : (a : Int) + (i : Int) = (p : Int) := by omega
        have hps : p < fb.size := by have := HSz.out.2.2.2.2.1; omega
        have qp : (p : Int) < (fb.size : Int) := by omega
        have qp0 : (0 : Int) ≤ (p : Int) := by omega
        obtain ⟨c, hc⟩ : ∃ c, fb[p]'hps = c := ⟨_, rfl⟩
        have hcl : (fb.data.toList.drop a)[i]? = some c := by rw [List.getElem?_drop, hp, List.getElem?_eq_getElem (by rw [← HN.out.2.2.1]; exact hps), ← hc]; rfl
        have hct := UInt8.toNat_lt c
        have hz2 : fxO ((fb.data.toList.drop a).take (i + 1)) = z * 256 + c.toNat := by rw [List.take_add_one, hcl, Option.toList_some, fxO_snoc, ← HZ.out]
        have hzl : z * 256 + c.toNat < 4294967296 := by
          rw [← hz2]
          have h1 := fxO_lt ((fb.data.toList.drop a).take (i + 1))
          rw [List.length_take] at h1
          refine Nat.lt_of_lt_of_le h1 ?_
          exact Nat.pow_le_pow_right (n := 256) (by decide) (show _ ≤ 4 by omega)
        have HZ2 : Hid (z * 256 + c.toNat = fxO ((fb.data.toList.drop a).take (i + 1))) := hz2.symm
        clear hz2 hcl hp HZ
        go_wp2
        exact ⟨⟨i + 1, z * 256 + c.toNat, by go_num, by omega, by push_cast; rw [Int.mul_comm], hzl, trivial, HZ2⟩, by simp [intOf]; omega⟩
      · obtain rfl : i = 4 := by omega
        have hzz : z = sz := by rw [HZ.out]; exact HSz.out.1
        subst hzz
        clear hlt HZ hi4
        rcases Nat.lt_or_ge n (a + 8 + z) with hend | hend
        · have qe : (n : Int) < (a : Int) + 8 + (z : Int) := by omega
          have HV : Hid (RV = (d, a - 2)) := by rw [← HRV.out]; exact HSz.out.2.2.1 hend
          have H2a : Hid (2 ≤ a) := HSz.out.2.2.2.2.2.1
          clear HC HSz hend
          go_wp2
          refine bodyPost_ret (v := .tuple #[.int .i64 (d : Int), .bool false, .bool (decide ((a : Int) + 4 ≤ (n : Int)))]) (by simp [results, Tryd.results13, go_sem]) rfl ⟨?_, rfl⟩
          rw [HV.out]
          have hbq : decide ((a : Int) + 4 ≤ (n : Int)) = decide (2 + (a - 2) + 4 ≤ n) := by
            have := H2a.out
            rw [decide_eq_decide]
            omega
          rw [hbq]
        · have qe : ¬ (n : Int) < (a : Int) + 8 + (z : Int) := by omega
          obtain ⟨hdc, hI2⟩ := HSz.out.2.2.2.1 hend
          rw [HNn.out] at hdc hI2
          have qd : (d : Int) < (N : Int) := by omega
          have qd2 : ((d : Int) == (N : Int)) = false := by rw [beq_eq_false_iff_ne]; omega
          have qd3 : ¬ (d : Int) = (N : Int) := by omega
          have HI2 : Hid (EcI rc fb.data.toList n (a + 8 + z) (min (d + 64) N) ∧ a + 8 + z ≤ n) := ⟨hI2, hend⟩
          clear HC HSz hend hI2 HI
          rcases Nat.lt_or_ge N (d + 64) with hc | hc
          · have qc : (N : Int) < (d : Int) + 64 := by omega
            go_wp2
            have hmn : min (d + 64) N = N := by omega
            rw [hmn] at HI2
            exact ⟨⟨a + 8 + z, N, by go_num, rfl, Nat.le_refl _, trivial, HI2.out.1⟩, by have := HI2.out.2; simp [intOf]; omega⟩
          · have qc : ¬ (N : Int) < (d : Int) + 64 := by omega
            go_wp2
            have hmn : min (d + 64) N = d + 64 := by omega
            rw [hmn] at HI2
            exact ⟨⟨a + 8 + z, d + 64, by go_num, by go_num, hc, trivial, HI2.out.1⟩, by have := HI2.out.2; simp [intOf]; omega⟩
end Go.Proofs.YtnecnchdffmhbaaDoor
