import Derived.Test.YtcjnejdemfemfaaGreatDoorCS1
namespace Go.Proofs.YtcjnejdemfemfaaGreatDoor
open Go.RowKit

theorem parse_ok (s : ByteArray) (w : World) (hs : s.size ≤ 281474976710656) (v : Int) (h : Lib.parseIntB 64 (lt s) = .ok v) :
    Calls Tryz.prog 88 #[.string s, .int .i64 10, .int .i64 64] w fun e w' => e = .returned (.tuple #[.int .i64 v, .nilIface]) ∧ Below w.heap.size w w' := by
  refine (Tryz.strconv_ParseInt_10_at64_ok s (by omega) v h w).mono ?_
  rintro e w' ⟨rfl, hw | ⟨t, hw⟩⟩
  · subst hw; exact ⟨rfl, Below.refl _ _⟩
  · subst hw; exact ⟨rfl, Lib.bytesWorld_below _ _ _⟩
theorem parse_no (s : ByteArray) (w : World) (hs : s.size ≤ 281474976710656) (ht : Tabs w) (h : ∀ v, Lib.parseIntB 64 (lt s) ≠ .ok v) :
    Calls Tryz.prog 88 #[.string s, .int .i64 10, .int .i64 64] w fun e w' => (∃ u t N, e = .returned (.tuple #[.int .i64 u, .iface t (.pointer (some ⟨N, 0, none⟩))])) ∧ Below w.heap.size w w' := by
  obtain ⟨t1, p1, h1⟩ := ht.syn
  obtain ⟨t2, p2, h2⟩ := ht.rng
  cases hp : Lib.parseIntB 64 (lt s) with
  | ok v => exact absurd hp (h v)
  | «syntax» =>
    refine (Tryz.strconv_ParseInt_10_at64_syntax s (by omega) hp _ w h1 (Or.inr ⟨_, _, rfl⟩)).mono ?_
    rintro e w' ⟨N, rfl, _, _, hb⟩
    exact ⟨⟨_, _, _, rfl⟩, hb⟩
  | range =>
    refine (Tryz.strconv_ParseInt_10_at64_range s (by omega) hp _ w h2 (Or.inr ⟨_, _, rfl⟩)).mono ?_
    rintro e w' ⟨N, rfl, _, _, hb⟩
    exact ⟨⟨_, _, _, rfl⟩, hb⟩
theorem seekO_s (o : Nat) (w : Bs) (k : Nat) (n : Int) : seekO o w (k + 1) n = if mayS o n && opW o n == w then some n else seekO o w k (n + 1) := rfl
set_option maxRecDepth 100000 in
set_option maxHeartbeats 2000000 in
theorem readT_any (o : Nat) (s : ByteArray) (w : World) (ht : Tabs w) (ho : o = 2 ∨ o = 5 ∨ o = 6 ∨ o = 9) :
    Calls Tryz.prog 71 #[.int .i64 (o : Int), .string s] w fun e w' => ∃ n' : Int, e = .returned (.tuple #[.int .i64 n', .bool (readO o (lt s)).isSome]) ∧ Hid ((∀ n, readO o (lt s) = some n → n' = n) ∧ Below w.heap.size w w') := by
  have hR : readO o (lt s) = seekO o (lt s) (shHi.getD o 0 - shLo.getD o 0 + 1).toNat (shLo.getD o 0) := by
    unfold readO
    rw [if_pos]
    rcases ho with rfl | rfl | rfl | rfl <;> rfl
  have hbd : 0 ≤ shLo.getD o 0 ∧ shLo.getD o 0 ≤ shHi.getD o 0 ∧ shHi.getD o 0 ≤ 1000 := by rcases ho with rfl | rfl | rfl | rfl <;> decide
  have ho' : o < 13 := by omega
  obtain ⟨c0, c1, -⟩ := ht.shp o ho'
  have HC : Hid (∀ W : World, Below w.heap.size w W → W.cell? ⟨1, o * 3 + 1, none⟩ = some (.int .i64 (shHi.getD o 0))) := fun W hb => ((ht.next hb).shp o ho').2.1
  have HM : Hid (∀ (n : Int) (W : World), Below w.heap.size w W → Calls Tryz.prog 82 #[.int .i64 (o : Int), .int .i64 n] W fun e w' => e = .returned (.bool (mayS o n)) ∧ Below W.heap.size W w') := fun n W hb => mayBe_any o n W ho' (ht.next hb)
  have HW : Hid (∀ (n : Int) (W : World), mayS o n = true → 0 ≤ n → n ≤ 1000 → Below w.heap.size w W → Calls Tryz.prog 87 #[.int .i64 (o : Int), .int .i64 n] W fun e w' => e = .returned (.string (YtcjnejdemfemfaaGreatDoor.bk (opW o n))) ∧ Below W.heap.size W w') := fun n W hm h0 h1 hb => word_any o n W ho' hm (ht.next hb) (by omega) (by omega)
  have key : (((o : Int) == 2) = true) ∨ ((((o : Int) == 2) = false) ∧ ((o : Int) == 5) = true) ∨ ((((o : Int) == 2) = false) ∧ (((o : Int) == 5) = false) ∧ ((o : Int) == 6) = true) ∨ ((((o : Int) == 2) = false) ∧ (((o : Int) == 5) = false) ∧ (((o : Int) == 6) = false) ∧ ((o : Int) == 9) = true) := by
    rcases ho with rfl | rfl | rfl | rfl <;> decide
  have i0 : (0 : Int) ≤ (o : Int) := by omega
  have i1 : (o : Int) < 13 := by omega
  obtain ⟨R, HR⟩ : ∃ R, Hid (R = readO o (lt s)) := ⟨_, rfl⟩
  rw [← HR.out] at hR ⊢
  obtain ⟨B, HB⟩ : ∃ B : Bool, Hid (B = R.isSome) := ⟨_, rfl⟩
  rw [← HB.out]
  have HS : Hid (R = seekO o (lt s) (shHi.getD o 0 - shLo.getD o 0 + 1).toNat (shLo.getD o 0)) := hR
  clear hR HR ht ho ho'
  generalize shLo.getD o 0 = lo at *
  generalize shHi.getD o 0 = hi at *
  obtain ⟨l0, l1, l2⟩ := hbd
  go_enter Tryz.func71, Tryz.ntmps71
  rcases key with t2 | ⟨t2, t5⟩ | ⟨t2, t5, t6⟩ | ⟨t2, t5, t6, t9⟩
  all_goals
    go_wp2
    go_loopw [6] (fun v wr => ∃ (k : Nat) (n : Int), v = .int .i64 n ∧ lo ≤ n ∧ n + (k : Int) = hi + 1 ∧ Hid (seekO o (lt s) k n = R) ∧ Hid (Below w.heap.size w wr)) (fun v _ => (hi + 1 - intOf v).toNat)
    case atStart => exact ⟨(hi - lo + 1).toNat, lo, rfl, by omega, by omega, HS.out.symm, Below.refl _ _⟩
    case round =>
      obtain ⟨k, n, rfl, hn0, hnk, hI, hbw⟩ := hrel
      have c1' := HC.out wr hbw.out
      by_cases hlt : n ≤ hi
      case neg =>
        have HF : Hid (R = none) := by
          show R = none
          rw [← hI.out]
          obtain rfl : k = 0 := by omega
          rfl
        have hBf : B = false := by rw [HB.out, HF.out]; rfl
        subst hBf
        go_wp2
        first | (change bodyPost Tryz.prog Tryz.f71 _ Exit.ret _ _) | (simp only [Exit.noGoto]) | skip
        refine bodyPost_ret (v := .tuple #[.int .i64 0, .bool false]) (by simp [results, Tryz.results71, go_sem]) rfl ⟨0, rfl, ?_, hbw.out⟩
        intro t ht
        rw [HF.out] at ht
        cases ht
      obtain ⟨k', rfl⟩ : ∃ k', k = k' + 1 := ⟨k - 1, by omega⟩
      have HJ : Hid ((if mayS o n && opW o n == lt s then some n else seekO o (lt s) k' (n + 1)) = R) := by
        have h := hI.out
        rw [seekO_s] at h
        exact h
      clear hI
      have n1 : n + 1 ≤ 1001 := by omega
      have n0 : 0 ≤ n := by omega
      cases hm : mayS o n with
      | false =>
        rw [hm] at HJ
        have HJ' : Hid (seekO o (lt s) k' (n + 1) = R) := by have h := HJ.out; simp at h; exact h
        clear HJ
        have hmb := HM.out n wr hbw.out
        rw [hm] at hmb
        go_wp2_with (first
          | (go_at_call 82; refine hmb.mono ?_; rintro e w1 ⟨rfl, hw1⟩; have hb1 : Hid (Below w.heap.size w w1) := hbw.out.trans (hw1.mono hbw.out.size))
          | go_in)
        exact ⟨⟨k', n + 1, by go_num, by omega, by omega, HJ', hb1⟩, by simp [intOf]; omega⟩
      | true =>
        have hmb := HM.out n wr hbw.out
        rw [hm] at hmb HJ
        have HWn : Hid (∀ W : World, Below w.heap.size w W → Calls Tryz.prog 87 #[.int .i64 (o : Int), .int .i64 n] W fun e w' => e = .returned (.string (YtcjnejdemfemfaaGreatDoor.bk (opW o n))) ∧ Below W.heap.size W w') := fun W hb => HW.out n W hm n0 (by omega) hb
        obtain ⟨x, HX⟩ : ∃ x, Hid (x = YtcjnejdemfemfaaGreatDoor.bk (opW o n)) := ⟨_, rfl⟩
        rw [← HX.out] at HWn
        have hxl : x.data.toList = opW o n := by rw [HX.out]; exact bk_data _
        rw [← hxl] at HJ
        clear HX hxl hm
        by_cases hx : x.data.toList = lt s
        · have hx1 : (x.toList == s.toList) = true := by rw [toL, toL, hx]; simp [lt]
          have HF : Hid (R = some n) := by show R = some n; rw [← HJ.out, if_pos]; simp [hx]
          have hBf : B = true := by rw [HB.out, HF.out]; rfl
          subst hBf
          clear HJ
          go_wp2_with (first
            | (go_at_call 82; refine hmb.mono ?_; rintro e w1 ⟨rfl, hw1⟩; have hb1 : Hid (Below w.heap.size w w1) := hbw.out.trans (hw1.mono hbw.out.size))
            | (go_at_call 87; refine (HWn.out _ hb1.out).mono ?_; rintro e w2 ⟨rfl, hw2⟩; have hb2 : Hid (Below w.heap.size w w2) := hb1.out.trans (hw2.mono hb1.out.size))
            | go_in)
          first | (change bodyPost Tryz.prog Tryz.f71 _ Exit.ret _ _) | (simp only [Exit.noGoto]) | skip
          refine bodyPost_ret (v := .tuple #[.int .i64 n, .bool true]) (by simp [results, Tryz.results71, go_sem]) rfl ⟨n, rfl, ?_, hb2.out⟩
          intro t ht
          rw [HF.out] at ht
          cases ht
          rfl
        · have hx1 : (x.toList == s.toList) = false := by rw [toL, toL, beq_eq_false_iff_ne]; exact hx
          have HJ' : Hid (seekO o (lt s) k' (n + 1) = R) := by
            have h := HJ.out
            rw [if_neg] at h
            · exact h
            · simpa using hx
          clear HJ
          go_wp2_with (first
            | (go_at_call 82; refine hmb.mono ?_; rintro e w1 ⟨rfl, hw1⟩; have hb1 : Hid (Below w.heap.size w w1) := hbw.out.trans (hw1.mono hbw.out.size))
            | (go_at_call 87; refine (HWn.out _ hb1.out).mono ?_; rintro e w2 ⟨rfl, hw2⟩; have hb2 : Hid (Below w.heap.size w w2) := hb1.out.trans (hw2.mono hb1.out.size))
            | go_in)
          exact ⟨⟨k', n + 1, by go_num, by omega, by omega, HJ', hb2⟩, by simp [intOf]; omega⟩
theorem numS_ok {w : Bs} {v : Int} (h : Lib.parseIntB 64 w = .ok v) : numS w = if Lib.itoa v = w then some v else none := by unfold numS; rw [h]
theorem numS_no {w : Bs} (h : ∀ v, Lib.parseIntB 64 w ≠ .ok v) : numS w = none := by
  unfold numS
  split
  · rename_i v e; exact absurd e (h v)
  · rfl
set_option maxRecDepth 100000 in
set_option maxHeartbeats 2000000 in
theorem readN_any (o : Nat) (s : ByteArray) (w : World) (ht : Tabs w) (ho : o < 13) (h2 : o ≠ 2) (h5 : o ≠ 5) (h6 : o ≠ 6) (h9 : o ≠ 9) (hs : s.size ≤ 281474976710656) :
    Calls Tryz.prog 71 #[.int .i64 (o : Int), .string s] w fun e w' => ∃ n' : Int, e = .returned (.tuple #[.int .i64 n', .bool (readO o (lt s)).isSome]) ∧ Hid ((∀ n, readO o (lt s) = some n → n' = n) ∧ Below w.heap.size w w') := by
  have hR : readO o (lt s) = match numS (lt s) with | some n => if mayS o n then some n else none | none => none := by
    unfold readO
    rw [if_neg (by simp [tabO, h2, h5, h6, h9])]
    rfl
  have hoW : ∀ v, opW o v = Lib.itoa v := by intro v; unfold opW; rw [if_neg h2, if_neg (by omega), if_neg h9]
  have HM : Hid (∀ (n : Int) (W : World), Below w.heap.size w W → Calls Tryz.prog 82 #[.int .i64 (o : Int), .int .i64 n] W fun e w' => e = .returned (.bool (mayS o n)) ∧ Below W.heap.size W w') := fun n W hb => mayBe_any o n W ho (ht.next hb)
  have HW : Hid (∀ (n : Int) (W : World), mayS o n = true → -9223372036854775808 ≤ n → n ≤ 9223372036854775807 → Below w.heap.size w W → Calls Tryz.prog 87 #[.int .i64 (o : Int), .int .i64 n] W fun e w' => e = .returned (.string (YtcjnejdemfemfaaGreatDoor.bk (Lib.itoa n))) ∧ Below W.heap.size W w') := fun n W hm h0 h1 hb => by
    rw [← hoW n]
    exact word_any o n W ho hm (ht.next hb) h0 h1
  have t2 : ((o : Int) == 2) = false := by rw [beq_eq_false_iff_ne]; omega
  have t5 : ((o : Int) == 5) = false := by rw [beq_eq_false_iff_ne]; omega
  have t6 : ((o : Int) == 6) = false := by rw [beq_eq_false_iff_ne]; omega
  have t9 : ((o : Int) == 9) = false := by rw [beq_eq_false_iff_ne]; omega
  obtain ⟨R, HR⟩ : ∃ R, Hid (R = readO o (lt s)) := ⟨_, rfl⟩
  rw [← HR.out] at hR ⊢
  obtain ⟨B, HB⟩ : ∃ B : Bool, Hid (B = R.isSome) := ⟨_, rfl⟩
  rw [← HB.out]
  clear HR hoW
  by_cases hp : ∃ v, Lib.parseIntB 64 (lt s) = .ok v
  case neg =>
    have hno : ∀ v, Lib.parseIntB 64 (lt s) ≠ .ok v := fun v e => hp ⟨v, e⟩
    have HP := parse_no s w hs ht hno
    rw [numS_no hno] at hR
    have HF : Hid (R = none) := hR
    have hBf : B = false := by rw [HB.out, HF.out]; rfl
    subst hBf
    clear hp hno hR ht HM HW
    go_enter Tryz.func71, Tryz.ntmps71
    go_wp2_with (first
      | (go_at_call 88; refine HP.mono ?_; rintro e w1 ⟨⟨u, t, N, rfl⟩, hw1⟩; have hb1 : Hid (Below w.heap.size w w1) := hw1; clear hw1)
      | go_in)
    refine bodyPost_ret (v := .tuple #[.int .i64 u, .bool false]) (by simp [results, Tryz.results71, go_sem]) rfl ⟨u, rfl, ?_, hb1.out⟩
    intro t ht
    rw [HF.out] at ht
    cases ht
  obtain ⟨v, hv⟩ := hp
  obtain ⟨v0, v1⟩ := Lib.parseIntB_bounds hv
  have HP := parse_ok s w hs v hv
  have v0' : -9223372036854775808 ≤ v := by have := v0; omega
  have v1' : v ≤ 9223372036854775807 := by have := v1; omega
  rw [numS_ok hv] at hR
  cases hm : mayS o v with
  | false =>
    have HF : Hid (R = none) := by
      show R = none
      rw [hR]
      by_cases e : Lib.itoa v = lt s
      · rw [if_pos e]; simp [hm]
      · rw [if_neg e]
    have hBf : B = false := by rw [HB.out, HF.out]; rfl
    subst hBf
    have HMv : Hid (∀ W, Below w.heap.size w W → Calls Tryz.prog 82 #[.int .i64 (o : Int), .int .i64 v] W fun e w' => e = .returned (.bool false) ∧ Below W.heap.size W w') := by
      intro W hb
      have := HM.out v W hb
      rw [hm] at this
      exact this
    clear hm hR ht HM HW hv v0 v1 v0' v1'
    go_enter Tryz.func71, Tryz.ntmps71
    go_wp2_with (first
      | (go_at_call 88; refine HP.mono ?_; rintro e w1 ⟨rfl, hw1⟩; have hb1 : Hid (Below w.heap.size w w1) := hw1; clear hw1)
      | (go_at_call 82; refine (HMv.out _ hb1.out).mono ?_; rintro e w2 ⟨rfl, hw2⟩; have hb2 : Hid (Below w.heap.size w w2) := hb1.out.trans (hw2.mono hb1.out.size); clear hw2)
      | go_in)
    refine bodyPost_ret (v := .tuple #[.int .i64 v, .bool false]) (by simp [results, Tryz.results71, go_sem]) rfl ⟨v, rfl, ?_, hb2.out⟩
    intro t ht
    rw [HF.out] at ht
    cases ht
  | true =>
    have HMv : Hid (∀ W, Below w.heap.size w W → Calls Tryz.prog 82 #[.int .i64 (o : Int), .int .i64 v] W fun e w' => e = .returned (.bool true) ∧ Below W.heap.size W w') := by
      intro W hb
      have := HM.out v W hb
      rw [hm] at this
      exact this
    have HWv : Hid (∀ W, Below w.heap.size w W → Calls Tryz.prog 87 #[.int .i64 (o : Int), .int .i64 v] W fun e w' => e = .returned (.string (YtcjnejdemfemfaaGreatDoor.bk (Lib.itoa v))) ∧ Below W.heap.size W w') := fun W hb => HW.out v W hm v0' v1' hb
    obtain ⟨x, HX⟩ : ∃ x, Hid (x = YtcjnejdemfemfaaGreatDoor.bk (Lib.itoa v)) := ⟨_, rfl⟩
    rw [← HX.out] at HWv
    have hxl : x.data.toList = Lib.itoa v := by rw [HX.out]; exact bk_data _
    have HJ : Hid (R = if x.data.toList = lt s then some v else none) := by
      show R = _
      rw [hR, hxl]
      by_cases e : Lib.itoa v = lt s
      · rw [if_pos e]; simp [hm]
      · rw [if_neg e]
    clear HX hxl hm hR ht HM HW hv v0 v1 v0' v1'
    by_cases hx : x.data.toList = lt s
    · have hx1 : (x.toList == s.toList) = true := by rw [toL, toL, hx]; simp [lt]
      have HF : Hid (R = some v) := by show R = some v; rw [HJ.out, if_pos hx]
      have hBf : B = true := by rw [HB.out, HF.out]; rfl
      subst hBf
      clear HJ
      go_enter Tryz.func71, Tryz.ntmps71
      go_wp2_with (first
        | (go_at_call 88; refine HP.mono ?_; rintro e w1 ⟨rfl, hw1⟩; have hb1 : Hid (Below w.heap.size w w1) := hw1; clear hw1)
        | (go_at_call 82; refine (HMv.out _ hb1.out).mono ?_; rintro e w2 ⟨rfl, hw2⟩; have hb2 : Hid (Below w.heap.size w w2) := hb1.out.trans (hw2.mono hb1.out.size); clear hw2)
        | (go_at_call 87; refine (HWv.out _ hb2.out).mono ?_; rintro e w3 ⟨rfl, hw3⟩; have hb3 : Hid (Below w.heap.size w w3) := hb2.out.trans (hw3.mono hb2.out.size); clear hw3)
        | go_in)
      refine bodyPost_ret (v := .tuple #[.int .i64 v, .bool true]) (by simp [results, Tryz.results71, go_sem]) rfl ⟨v, rfl, ?_, hb3.out⟩
      intro t ht
      rw [HF.out] at ht
      cases ht
      rfl
    · have hx1 : (x.toList == s.toList) = false := by rw [toL, toL, beq_eq_false_iff_ne]; exact hx
      have HF : Hid (R = none) := by show R = none; rw [HJ.out, if_neg hx]
      have hBf : B = false := by rw [HB.out, HF.out]; rfl
      subst hBf
      clear HJ
      go_enter Tryz.func71, Tryz.ntmps71
      go_wp2_with (first
        | (go_at_call 88; refine HP.mono ?_; rintro e w1 ⟨rfl, hw1⟩; have hb1 : Hid (Below w.heap.size w w1) := hw1; clear hw1)
        | (go_at_call 82; refine (HMv.out _ hb1.out).mono ?_; rintro e w2 ⟨rfl, hw2⟩; have hb2 : Hid (Below w.heap.size w w2) := hb1.out.trans (hw2.mono hb1.out.size); clear hw2)
        | (go_at_call 87; refine (HWv.out _ hb2.out).mono ?_; rintro e w3 ⟨rfl, hw3⟩; have hb3 : Hid (Below w.heap.size w w3) := hb2.out.trans (hw3.mono hb2.out.size); clear hw3)
        | go_in)
      refine bodyPost_ret (v := .tuple #[.int .i64 v, .bool false]) (by simp [results, Tryz.results71, go_sem]) rfl ⟨v, rfl, ?_, hb3.out⟩
      intro t ht
      rw [HF.out] at ht
      cases ht
theorem read_any (o : Nat) (s : ByteArray) (w : World) (ht : Tabs w) (ho : o < 13) (hs : s.size ≤ 281474976710656) :
    Calls Tryz.prog 71 #[.int .i64 (o : Int), .string s] w fun e w' => ∃ n' : Int, e = .returned (.tuple #[.int .i64 n', .bool (readO o (lt s)).isSome]) ∧ Hid ((∀ n, readO o (lt s) = some n → n' = n) ∧ Below w.heap.size w w') := by
  by_cases h : o = 2 ∨ o = 5 ∨ o = 6 ∨ o = 9
  · exact readT_any o s w ht h
  · exact readN_any o s w ht ho (by omega) (by omega) (by omega) (by omega) hs
end Go.Proofs.YtcjnejdemfemfaaGreatDoor
namespace Go.Proofs.YtcjnejdemfemfaaGreatDoor
open Go.RowKit

/-- A row of words. -/
structure Wds (w : World) (B : Nat) (q : Option Addr) (n cap : Nat) (ws : List Bs) : Prop where
  len : n = ws.length
  le : n ≤ cap
  row : Row w B q n (wV ws)
  sz : ∀ x ∈ ws, x.length ≤ 281474976710656
  big : ws.length ≤ 1000
theorem Wds.below {w w' : World} {B D : Nat} {q : Option Addr} {n cap : Nat} {ws : List Bs} (h : Wds w B q n cap ws) (hb : Below D w w') (hD : B ≤ D) : Wds w' B q n cap ws := ⟨h.len, h.le, h.row.below hb hD, h.sz, h.big⟩
theorem Wds.up {w : World} {B C : Nat} {q : Option Addr} {n cap : Nat} {ws : List Bs} (h : Wds w B q n cap ws) (hC : B ≤ C) : Wds w C q n cap ws := ⟨h.len, h.le, h.row.up hC, h.sz, h.big⟩
theorem Wds.nil (w : World) (B : Nat) : Wds w B none 0 0 [] := ⟨rfl, Nat.le_refl _, fun h => by omega, by simp, by simp⟩
theorem wV_get (ws : List Bs) (i : Nat) (hi : i < ws.length) : (wV ws)[i]? = some (.string (YtcjnejdemfemfaaGreatDoor.bk (wAt ws i))) := by
  unfold wV tv wAt
  rw [List.getElem?_map, List.getElem?_map, List.getElem?_eq_getElem hi, List.getD_eq_getElem?_getD, List.getElem?_eq_getElem hi]
  rfl
theorem Wds.at {w : World} {B : Nat} {q : Option Addr} {n cap : Nat} {ws : List Bs} (h : Wds w B q n cap ws) (i : Nat) (hi : i < n) : ∃ g o, q = some ⟨g, o, none⟩ ∧ g < B ∧ w.cell? ⟨g, o + i, none⟩ = some (.string (YtcjnejdemfemfaaGreatDoor.bk (wAt ws i))) := by
  obtain ⟨g, o, h1, h2, h3⟩ := row_get h.row i hi
  exact ⟨g, o, h1, h2, h3 i _ (wV_get ws i (by rw [← h.len]; exact hi))⟩
/-- What lies behind the first k words. -/
def cutQ (q : Option Addr) (k cap : Nat) : Option Addr := if cap = k then q else q.map (·.add (k * 1))
theorem Wds.drop {w : World} {B : Nat} {q : Option Addr} {n cap : Nat} {ws : List Bs} (h : Wds w B q n cap ws) (k : Nat) (hk : k ≤ n) : Wds w B (cutQ q k cap) (n - k) (cap - k) (ws.drop k) := by
  refine ⟨by rw [h.len, List.length_drop], by have := h.le; omega, fun hn => ?_, fun x hx => h.sz x (List.mem_of_mem_drop hx), by have := h.big; rw [List.length_drop]; omega⟩
  obtain ⟨g, o, rfl, h2, h3⟩ := h.row (by omega)
  have hc : ¬ cap = k := by have := h.le; omega
  refine ⟨g, o + k, ?_, h2, fun j v hv => ?_⟩
  · unfold cutQ
    rw [if_neg hc]
    by_cases h0 : k = 0
    · subst h0; simp [Addr.add]
    · simp [Addr.add, h0]
  · have e : (wV ws)[k + j]? = some v := by
      rw [← hv]
      unfold wV tv
      rw [List.getElem?_map, List.getElem?_map, List.getElem?_map, List.getElem?_map, List.getElem?_drop]
    rw [Nat.add_assoc]
    exact h3 (k + j) v e
set_option maxRecDepth 100000 in
theorem cut_run (q : Option Addr) (n cap k : Nat) (hk : k ≤ n) : ∀ w : World, (Instr.slice 24 (.slice q n cap) (some (.int .i64 (k : Int))) none none).run Tryz.prog w = .ok (.slice (cutQ q k cap) (n - k) (cap - k)) w := fun w => by
  have hu := Tryz.underlying24
  rw [run_slice_l (kl := .i64) (l := (k : Int)) (h0 := by omega) (h1 := by omega)]
  · have : ((sizeOf (Tryz.prog.elem 24)).run Tryz.prog w) = .ok 1 w := by kernel_rfl
    rw [this]
    simp [sliced, cutQ]
  · exact hu.trans (by kernel_rfl)
theorem nextO_c (o : Nat) (ho : o ≠ 0) (w : Bs) (r : List Bs) : nextO o (w :: r) = match readO o w with | some n => some (n, r) | none => none := by unfold nextO; rw [if_neg ho]; rfl
set_option maxRecDepth 100000 in
set_option maxHeartbeats 2000000 in
theorem next_any (o : Nat) (ho : o < 13) (w : World) (q : Option Addr) (n cap : Nat) (ws : List Bs) (ht : Tabs w) (h : Wds w w.heap.size q n cap ws) :
    Calls Tryz.prog 91 #[.int .i64 (o : Int), .slice q n cap] w fun e w' => ∃ (n' : Int) (q' : Option Addr) (m cap' : Nat), e = .returned (.tuple #[.int .i64 n', .slice q' m cap', .bool (nextO o ws).isSome]) ∧ Hid ((∃ r : List Bs, Wds w w.heap.size q' m cap' r ∧ ∀ a r0, nextO o ws = some (a, r0) → n' = a ∧ r = r0) ∧ Below w.heap.size w w') := by
  obtain ⟨R, HR⟩ : ∃ R, Hid (R = nextO o ws) := ⟨_, rfl⟩
  rw [← HR.out]
  obtain ⟨B, HB⟩ : ∃ B : Bool, Hid (B = R.isSome) := ⟨_, rfl⟩
  rw [← HB.out]
  have HH : Hid (Wds w w.heap.size q n cap ws) := h
  by_cases h0 : o = 0
  · have HF : Hid (R = some (0, ws)) := by show R = _; rw [HR.out]; unfold nextO; rw [if_pos h0]
    have hBf : B = true := by rw [HB.out, HF.out]; rfl
    have t0 : ((o : Int) == 0) = true := by rw [beq_iff_eq]; omega
    subst hBf
    clear h ht HR h0
    go_enter Tryz.func91, Tryz.ntmps91
    go_wp2
    refine bodyPost_ret (v := .tuple #[.int .i64 0, .slice q n cap, .bool true]) (by simp [results, Tryz.results91, go_sem]) rfl ⟨0, q, n, cap, rfl, ⟨ws, HH.out, ?_⟩, Below.refl _ _⟩
    intro a r0 e
    rw [HF.out] at e
    cases e
    exact ⟨rfl, rfl⟩
  have t0 : ((o : Int) == 0) = false := by rw [beq_eq_false_iff_ne]; omega
  rcases Nat.eq_zero_or_pos n with hn | hn
  · have HF : Hid (R = none) := by
      show R = _
      have e : ws = [] := List.length_eq_zero_iff.1 (by rw [← h.len]; exact hn)
      rw [HR.out, e]
      unfold nextO
      rw [if_neg h0]
    have hBf : B = false := by rw [HB.out, HF.out]; rfl
    have t1 : ((n : Int) == 0) = true := by rw [beq_iff_eq]; omega
    subst hBf
    clear h ht HR h0 hn
    go_enter Tryz.func91, Tryz.ntmps91
    go_wp2
    refine bodyPost_ret (v := .tuple #[.int .i64 0, .slice none 0 0, .bool false]) (by simp [results, Tryz.results91, go_sem]) rfl ⟨0, none, 0, 0, rfl, ⟨[], Wds.nil _ _, ?_⟩, Below.refl _ _⟩
    intro a r0 e
    rw [HF.out] at e
    cases e
  have t1 : ((n : Int) == 0) = false := by rw [beq_eq_false_iff_ne]; omega
  have n0 : (0 : Int) < (n : Int) := by omega
  obtain ⟨g, p, rfl, hg, c0⟩ := h.at 0 hn
  rw [Nat.add_zero] at c0
  have HD := h.drop 1 hn
  have hsl : ∀ w : World, (Instr.slice 24 (.slice (some ⟨g, p, none⟩) n cap) (some (.int .i64 1)) none none).run Tryz.prog w = .ok (.slice (cutQ (some ⟨g, p, none⟩) 1 cap) (n - 1) (cap - 1)) w := cut_run (some ⟨g, p, none⟩) n cap 1 hn
  have hws : ws = wAt ws 0 :: ws.drop 1 := by
    have hl : 0 < ws.length := by rw [← h.len]; exact hn
    obtain ⟨x, r, rfl⟩ := List.exists_cons_of_length_pos hl
    rfl
  have HF : Hid (R = match readO o (wAt ws 0) with | some n => some (n, ws.drop 1) | none => none) := by
    show R = _
    rw [HR.out]
    conv => lhs; rw [hws]
    exact nextO_c o h0 _ _
  have hsz : (wAt ws 0).length ≤ 281474976710656 := h.sz _ (by
    have hl : 0 < ws.length := by rw [← h.len]; exact hn
    obtain ⟨x, r, rfl⟩ := List.exists_cons_of_length_pos hl
    exact List.mem_cons_self)
  have HRd := read_any o (YtcjnejdemfemfaaGreatDoor.bk (wAt ws 0)) w ht ho (by rw [bk_size]; exact hsz)
  have hlb : lt (YtcjnejdemfemfaaGreatDoor.bk (wAt ws 0)) = wAt ws 0 := bk_data _
  rw [hlb] at HRd
  have HDH : Hid (Wds w w.heap.size (cutQ (some ⟨g, p, none⟩) 1 cap) (n - 1) (cap - 1) (ws.drop 1)) := HD
  have hBs : B = (readO o (wAt ws 0)).isSome := by
    rw [HB.out, HF.out]
    cases readO o (wAt ws 0) <;> rfl
  obtain ⟨RR, HRR⟩ : ∃ RR, Hid (RR = readO o (wAt ws 0)) := ⟨_, rfl⟩
  rw [← HRR.out] at hBs HRd HF
  rw [← hBs] at HRd
  have HBs : Hid (B = RR.isSome) := hBs
  clear h ht HR h0 hn HD hws hsz hlb hBs HRR HH HB
  generalize YtcjnejdemfemfaaGreatDoor.bk (wAt ws 0) = x at *
  generalize cutQ (some ⟨g, p, none⟩) 1 cap = q1 at *
  generalize n - 1 = m at *
  generalize cap - 1 = cap1 at *
  generalize ws.drop 1 = r at *
  clear hg
  go_enter Tryz.func91, Tryz.ntmps91
  go_upto_region 6 with (first
    | (go_at_call 71; refine HRd.mono ?_; rintro e w1 ⟨n', rfl, hw1⟩)
    | go_in)
  go_wp2_with fail
  clear HRd
  refine wp_region_quiet_below (by kernel_rfl) (by kernel_rfl) ?_
  repeat (first | go_big_quiet_step (first | fail) | quiet_step (first | fail))
  refine wpQuiet_nil ?_
  intro _ hw'
  obtain ⟨⟨dq, osq⟩, hw''⟩ := hw'
  subst hw''
  have hY := below_regrown w1 dq osq
  change Exit.then _ _ Exit.normal _ (Sort.grow (redrawn w1 dq) osq)
  generalize Sort.grow (redrawn w1 dq) osq = Y at hY ⊢
  go_wp2
  refine bodyPost_ret (v := .tuple #[.int .i64 n', .slice q1 m cap1, .bool B]) (by simp [results, Tryz.results91, go_sem]) rfl ⟨n', q1, m, cap1, rfl, ⟨r, HDH.out, ?_⟩, below2 hw1.out.2 hY⟩
  intro a r0 e
  rw [HF.out] at e
  cases hR : RR with
  | none => rw [hR] at e; cases e
  | some v =>
    rw [hR] at e
    cases e
    exact ⟨hw1.out.1 _ hR, rfl⟩
end Go.Proofs.YtcjnejdemfemfaaGreatDoor
namespace Go.Proofs.YtcjnejdemfemfaaGreatDoor
open Go.RowKit

def rowC (k : Nat) : List Value := [.string (wdT.getD k e0), .int .i64 ((opA.getD k 0 : Nat) : Int), .int .i64 ((opB.getD k 0 : Nat) : Int)]
def insC : List Value := (List.range 24).flatMap rowC
theorem ins_range {w : World} (h : Tabs w) : w.rangeAt 0 0 insC := by
  intro j v hv
  have hj : j < 72 := by
    have h1 := (List.getElem?_eq_some_iff.1 hv).1
    have h2 : insC.length = 72 := by rfl
    omega
  rw [Nat.zero_add]
  obtain ⟨i, m, hi, hm, rfl⟩ : ∃ i m, i < 24 ∧ m < 3 ∧ j = i * 3 + m := ⟨j / 3, j % 3, by omega, by omega, by omega⟩
  have e := flat_at rowC 3 (fun _ => rfl) (List.range 24) i m (by simpa using hi) hm
  have hv' : (rowC i)[m]? = some v := by
    have e2 : (List.range 24)[i]'(by simpa using hi) = i := List.getElem_range _
    rw [e2] at e
    rw [← e]
    exact hv
  obtain ⟨a, b, c⟩ := h.ins i hi
  have hm' : m = 0 ∨ m = 1 ∨ m = 2 := by omega
  rcases hm' with rfl | rfl | rfl
  · rw [Nat.add_zero, a]; exact hv'
  · rw [b]; exact hv'
  · rw [c]; exact hv'
theorem insInfo : (Tryz.prog.info? 73).map (·.size) = some insC.length := by kernel_rfl
set_option maxRecDepth 100000 in
theorem ins_idx (k : Nat) (hk : k < 24) : ∀ w : World, (Instr.index 73 (.agg insC.toArray) (.int .i64 (k : Int))).run Tryz.prog w = .ok (.agg #[.string (wdT.getD k e0), .int .i64 ((opA.getD k 0 : Nat) : Int), .int .i64 ((opB.getD k 0 : Nat) : Int)]) w := by
  have h : k = 0 ∨ k = 1 ∨ k = 2 ∨ k = 3 ∨ k = 4 ∨ k = 5 ∨ k = 6 ∨ k = 7 ∨ k = 8 ∨ k = 9 ∨ k = 10 ∨ k = 11 ∨ k = 12 ∨ k = 13 ∨ k = 14 ∨ k = 15 ∨ k = 16 ∨ k = 17 ∨ k = 18 ∨ k = 19 ∨ k = 20 ∨ k = 21 ∨ k = 22 ∨ k = 23 := by omega
  rcases h with rfl | rfl | rfl | rfl | rfl | rfl | rfl | rfl | rfl | rfl | rfl | rfl | rfl | rfl | rfl | rfl | rfl | rfl | rfl | rfl | rfl | rfl | rfl | rfl
  all_goals exact fun w => by kernel_rfl
theorem op13 (k : Nat) (hk : k < 24) : opA.getD k 0 < 13 ∧ opB.getD k 0 < 13 := by
  have h : ∀ k : Fin 24, opA.getD k.1 0 < 13 ∧ opB.getD k.1 0 < 13 := by decide
  exact h ⟨k, hk⟩
theorem seekI_s (w : Bs) (k n : Nat) : seekI w (k + 1) n = if (wdT.getD n e0).data.toList = w then some n else seekI w k (n + 1) := rfl
def tailI (k : Nat) (oa ob : Nat) (ws : List Bs) : Option In := match nextO oa ws with
    | none => none
    | some (a, r) => match nextO ob r with
      | none => none
      | some (b, r') => if r' = [] then some ((k : Int), a, b) else none
theorem rdIns_none {ws : List Bs} (h : seekI (wAt ws 0) 24 0 = none) : rdIns ws = none := by unfold rdIns; rw [h]
theorem rdIns_some {ws : List Bs} {k : Nat} (h : seekI (wAt ws 0) 24 0 = some k) : rdIns ws = tailI k (opA.getD k 0) (opB.getD k 0) (ws.drop 1) := by unfold rdIns; rw [h]; rfl
theorem tail_eq {k oa ob : Nat} {ws r1 r2 : List Bs} {B1 B2 : Bool} {na nb : Int} {m : Nat} (h1 : B1 = (nextO oa ws).isSome) (k1 : ∀ a r0, nextO oa ws = some (a, r0) → na = a ∧ r1 = r0) (h2 : B2 = (nextO ob r1).isSome) (k2 : ∀ a r0, nextO ob r1 = some (a, r0) → nb = a ∧ r2 = r0) (hm : m = r2.length) :
    tailI k oa ob ws = if B1 = true ∧ B2 = true ∧ m = 0 then some ((k : Int), na, nb) else none := by
  unfold tailI
  cases e1 : nextO oa ws with
  | none => rw [e1] at h1; rw [h1, if_neg]; simp
  | some x =>
    obtain ⟨a, r0⟩ := x
    obtain ⟨rfl, rfl⟩ := k1 a r0 e1
    rw [e1] at h1
    subst h1
    simp only
    cases e2 : nextO ob r1 with
    | none => rw [e2] at h2; rw [h2]; simp
    | some y =>
      obtain ⟨b, r0'⟩ := y
      obtain ⟨rfl, rfl⟩ := k2 b r0' e2
      rw [e2] at h2
      subst h2
      simp only
      rw [hm]
      by_cases hr : r2 = []
      · subst hr; simp
      · rw [if_neg hr, if_neg]
        simp only [Option.isSome_some, true_and]
        exact fun e => hr (List.length_eq_zero_iff.1 e)
theorem next_v (o : Nat) (ho : o < 13) (w : World) (q : Option Addr) (n cap : Nat) (ws : List Bs) (ht : Tabs w) (h : Wds w w.heap.size q n cap ws) :
    Calls Tryz.prog 91 #[.int .i64 (o : Int), .slice q n cap] w fun e w' => ∃ v, e = .returned v ∧ (∃ (n' : Int) (q' : Option Addr) (m cap' : Nat) (B : Bool), v = .tuple #[.int .i64 n', .slice q' m cap', .bool B] ∧ Hid (B = (nextO o ws).isSome ∧ (∃ r : List Bs, Wds w w.heap.size q' m cap' r ∧ ∀ a r0, nextO o ws = some (a, r0) → n' = a ∧ r = r0) ∧ Below w.heap.size w w')) :=
  (next_any o ho w q n cap ws ht h).mono fun _ _ ⟨n', q', m, cap', a, b⟩ => ⟨_, a, n', q', m, cap', _, rfl, rfl, b.out.1, b.out.2⟩
theorem callnx (a b : Value) (w : World) : (callFunc 91 #[a, b]).run Tryz.prog w = .ok (.enter 91 #[a, b]) w := by kernel_rfl
/-- A result that is being made. -/
structure Res (w W : World) (C : Array Value) (t : TypeId) : Prop where
  b : Below w.heap.size w W
  c : W.heap[w.heap.size]? = some (.cells C t)
theorem Res.lt {w W : World} {C : Array Value} {t : TypeId} (h : Res w W C t) : w.heap.size < W.heap.size := (Array.getElem?_eq_some_iff.1 h.c).1
theorem Res.next {w W W' : World} {C : Array Value} {t : TypeId} (h : Res w W C t) (k : Below W.heap.size W W') : Res w W' C t := ⟨below2 h.b k, (k.block _ h.lt).trans h.c⟩
theorem Res.new (w : World) (C : Array Value) (t : TypeId) : Res w (w.alloc (.cells C t)) C t := ⟨(Below.refl _ w).alloc (Nat.le_refl _) _, World.alloc_heap_new w _⟩
theorem Res.set {w W : World} {C : Array Value} {t : TypeId} (h : Res w W C t) (j : Nat) (v : Value) : Res w (W.setCell ⟨w.heap.size, j, none⟩ v) (C.set! j v) t := ⟨h.b.setCell (p := ⟨w.heap.size, j, none⟩) (Nat.le_refl _) v, set_blk h.c v⟩
set_option maxRecDepth 100000 in
set_option maxHeartbeats 4000000 in
theorem readInstr_any (w : World) (q : Option Addr) (n cap : Nat) (ws : List Bs) (ht : Tabs w) (h : Wds w w.heap.size q n cap ws) (hn : 0 < n) :
    Calls Tryz.prog 74 #[.slice q n cap] w fun e w' => ∃ (o' a' b' : Int), e = .returned (.tuple #[.agg #[.int .i64 o', .int .i64 a', .int .i64 b'], .bool (rdIns ws).isSome]) ∧ Hid ((∀ x, rdIns ws = some x → (o', a', b') = x) ∧ Below w.heap.size w w') := by
  obtain ⟨R, HR⟩ : ∃ R, Hid (R = rdIns ws) := ⟨_, rfl⟩
  rw [← HR.out]
  obtain ⟨B, HB⟩ : ∃ B : Bool, Hid (B = R.isSome) := ⟨_, rfl⟩
  rw [← HB.out]
  have HN0 : Hid (seekI (wAt ws 0) 24 0 = none → R = none) := fun e => HR.out.trans (rdIns_none e)
  have HN1 : Hid (∀ k, seekI (wAt ws 0) 24 0 = some k → R = tailI k (opA.getD k 0) (opB.getD k 0) (ws.drop 1)) := fun k e => HR.out.trans (rdIns_some e)
  obtain ⟨X, hX⟩ : ∃ X, X = w.alloc (.cells #[.int .i64 0, .int .i64 0, .int .i64 0] 48) := ⟨_, rfl⟩
  have HX : Hid (Res w X #[.int .i64 0, .int .i64 0, .int .i64 0] 48) := by rw [hX]; exact Res.new w _ _
  have HTX : Hid (X.rangeAt 0 0 insC) := ins_range (ht.next HX.out.b)
  have HT : Hid (Tabs w) := ht
  have HH : Hid (Wds w w.heap.size q n cap ws) := h
  have n0 : (0 : Int) < (n : Int) := by omega
  have HD := h.drop 1 hn
  have hsl : ∀ w : World, (Instr.slice 24 (.slice q n cap) (some (.int .i64 1)) none none).run Tryz.prog w = .ok (.slice (cutQ q 1 cap) (n - 1) (cap - 1)) w := cut_run q n cap 1 hn
  have HDH : Hid (Wds w w.heap.size (cutQ q 1 cap) (n - 1) (cap - 1) (ws.drop 1)) := HD
  have HC0 : Hid (∀ W, Below w.heap.size w W → ∃ g o, q = some ⟨g, o, none⟩ ∧ W.cell? ⟨g, o, none⟩ = some (.string (YtcjnejdemfemfaaGreatDoor.bk (wAt ws 0)))) := fun W hb => by
    obtain ⟨g, o, e, hg, hc⟩ := (h.below hb (Nat.le_refl _)).at 0 hn
    exact ⟨g, o, e, hc⟩
  have hd0 : (YtcjnejdemfemfaaGreatDoor.bk (wAt ws 0)).data.toList = wAt ws 0 := bk_data _
  have HD0 : Hid ((YtcjnejdemfemfaaGreatDoor.bk (wAt ws 0)).data.toList = wAt ws 0) := hd0
  generalize YtcjnejdemfemfaaGreatDoor.bk (wAt ws 0) = x0 at *
  generalize cutQ q 1 cap = q1 at *
  generalize n - 1 = m1 at *
  generalize cap - 1 = cap1 at *
  generalize ws.drop 1 = ws1 at *
  clear h ht HR HD hd0
  go_enter Tryz.func74, Tryz.ntmps74
  go_upto_region 1 with fail
  rw [← hX]
  clear hX
  go_wp2_with (first | (refine wpList_load_mid (by rfl) 73 (.global 0) (by rfl) 0 0 (by rfl) insC _ HTX.out Tryz.underlying73 (by rfl) insInfo ?_) | go_in)
  go_loopw [12] (fun i wr => ∃ k : Nat, k ≤ 24 ∧ i = .int .i64 (k : Int) ∧ Hid (seekI (wAt ws 0) (24 - k) k = seekI (wAt ws 0) 24 0) ∧ Hid (Res w wr #[.int .i64 0, .int .i64 0, .int .i64 0] 48)) (fun i _ => 24 - (intOf i).toNat)
  case atStart => exact ⟨0, by omega, rfl, rfl, HX⟩
  case round =>
    clear HTX HX
    obtain ⟨k, hk, rfl, hI, hRs⟩ := hrel
    by_cases hlt : k < 24
    case neg =>
      obtain rfl : k = 24 := by omega
      have HF : Hid (R = none) := HN0.out hI.out.symm
      have hBf : B = false := by rw [HB.out, HF.out]; rfl
      subst hBf
      obtain ⟨x0, y0⟩ := blk_cell hRs.out.c 0 (.int .i64 0) rfl
      obtain ⟨x1, y1⟩ := blk_cell hRs.out.c 1 (.int .i64 0) rfl
      obtain ⟨x2, y2⟩ := blk_cell hRs.out.c 2 (.int .i64 0) rfl
      go_wp2
      first | (change bodyPost Tryz.prog Tryz.f74 _ Exit.ret _ _) | (simp only [Exit.noGoto]) | skip
      have HF2 : Hid (Res w (((wr.setCell ⟨w.heap.size, 0, none⟩ (.int .i64 0)).setCell ⟨w.heap.size, 1, none⟩ (.int .i64 0)).setCell ⟨w.heap.size, 2, none⟩ (.int .i64 0)) #[.int .i64 0, .int .i64 0, .int .i64 0] 48) := ((hRs.out.set 0 (.int .i64 0)).set 1 (.int .i64 0)).set 2 (.int .i64 0)
      generalize ((wr.setCell ⟨w.heap.size, 0, none⟩ (.int .i64 0)).setCell ⟨w.heap.size, 1, none⟩ (.int .i64 0)).setCell ⟨w.heap.size, 2, none⟩ (.int .i64 0) = W4 at HF2 ⊢
      obtain ⟨q0, -⟩ := blk_cell HF2.out.c 0 (.int .i64 0) rfl
      obtain ⟨q1, -⟩ := blk_cell HF2.out.c 1 (.int .i64 0) rfl
      obtain ⟨q2, -⟩ := blk_cell HF2.out.c 2 (.int .i64 0) rfl
      refine bodyPost_ret (v := .tuple #[.agg #[.int .i64 0, .int .i64 0, .int .i64 0], .bool false]) (by simp [results, Tryz.results74, go_sem, q0, q1, q2]) rfl ⟨0, 0, 0, rfl, ?_, HF2.out.b⟩
      intro t e
      rw [HF.out] at e
      cases e
    have hix := ins_idx k hlt
    obtain ⟨o1, o2⟩ := op13 k hlt
    have HS : Hid ((if (wdT.getD k e0).data.toList = wAt ws 0 then some k else seekI (wAt ws 0) (24 - (k + 1)) (k + 1)) = seekI (wAt ws 0) 24 0) := by
      have e := hI.out
      rw [show 24 - k = (24 - (k + 1)) + 1 by omega, seekI_s] at e
      exact e
    have HN2 := HN1.out k
    generalize opA.getD k 0 = oa at *
    generalize opB.getD k 0 = ob at *
    generalize wdT.getD k e0 = wd at *
    have k0 : (k : Int) < 24 := by omega
    obtain ⟨Y, hY0⟩ : ∃ Y, Y = wr.alloc (.cells #[.string wd, .int .i64 (oa : Int), .int .i64 (ob : Int)] 72) := ⟨_, rfl⟩
    have nbY : Below wr.heap.size wr Y := by rw [hY0]; exact (Below.refl _ wr).alloc (Nat.le_refl _) _
    have hRY : Hid (Res w Y #[.int .i64 0, .int .i64 0, .int .i64 0] 48) := hRs.out.next nbY
    have b0 : Y.cell? ⟨wr.heap.size, 0, none⟩ = some (.string wd) := by rw [hY0]; exact (cells_new wr #[.string wd, .int .i64 (oa : Int), .int .i64 (ob : Int)] 72 0 (.string wd) rfl).1
    have b1 : Y.cell? ⟨wr.heap.size, 1, none⟩ = some (.int .i64 (oa : Int)) := by rw [hY0]; exact (cells_new wr #[.string wd, .int .i64 (oa : Int), .int .i64 (ob : Int)] 72 1 (.int .i64 (oa : Int)) rfl).1
    have b2 : Y.cell? ⟨wr.heap.size, 2, none⟩ = some (.int .i64 (ob : Int)) := by rw [hY0]; exact (cells_new wr #[.string wd, .int .i64 (oa : Int), .int .i64 (ob : Int)] 72 2 (.int .i64 (ob : Int)) rfl).1
    have lY : wr.heap.size < Y.heap.size := by rw [hY0]; simp
    obtain ⟨g, p, rfl, c0⟩ := HC0.out Y hRY.out.b
    have HYb : Hid (∀ W, Below Y.heap.size Y W → W.cell? ⟨wr.heap.size, 1, none⟩ = some (.int .i64 (oa : Int)) ∧ W.cell? ⟨wr.heap.size, 2, none⟩ = some (.int .i64 (ob : Int))) := fun W hW => ⟨(hW.cell (p := ⟨wr.heap.size, 1, none⟩) lY).trans b1, (hW.cell (p := ⟨wr.heap.size, 2, none⟩) lY).trans b2⟩
    clear nbY lY b1 b2 hRs hI HN1 HN0
    go_upto_region 4 with fail
    rw [← hY0]
    clear hY0
    generalize wr.heap.size = pb at *
    go_wp2_with fail
    have b0' := cell_regrown b0
    have c0' := cell_regrown c0
    by_cases hx : wd.data.toList = wAt ws 0
    · have hx1 : (wd.toList == x0.toList) = true := by rw [toL, toL, HD0.out, hx]; simp
      rw [if_pos hx] at HS
      have HRt : Hid (R = tailI k oa ob ws1) := HN2 HS.out.symm
      clear HN2 HS hx
      refine wp_region_quiet_below (by kernel_rfl) (by kernel_rfl) ?_
      repeat (first | go_big_quiet_step (first | fail) | quiet_step (first | fail))
      refine wpQuiet_nil ?_
      intro _ hw'
      obtain ⟨⟨dq, osq⟩, hw''⟩ := hw'
      subst hw''
      have hY := below_regrown Y dq osq
      change Exit.then _ _ Exit.normal _ (Sort.grow (redrawn Y dq) osq)
      generalize Sort.grow (redrawn Y dq) osq = Z at hY ⊢
      have hRZ : Hid (Res w Z #[.int .i64 0, .int .i64 0, .int .i64 0] 48) := hRY.out.next hY
      obtain ⟨b1, b2⟩ := HYb.out Z hY
      have bd : Below Z.heap.size Z Z.drew := (Below.refl _ Z).drew
      have bwd : Below w.heap.size w Z.drew := below2 hRZ.out.b bd
      have n2 := next_v oa o1 Z.drew q1 m1 cap1 ws1 (HT.out.next bwd) ((HDH.out.below bwd (Nat.le_refl _)).up bwd.size)
      have HA : Hid (∀ W, Below Z.drew.heap.size Z.drew W → Res w W #[.int .i64 0, .int .i64 0, .int .i64 0] 48 ∧ W.cell? ⟨pb, 2, none⟩ = some (.int .i64 (ob : Int))) := fun W hW => by
        have hb := below2 bd hW
        exact ⟨hRZ.out.next hb, (HYb.out W (below2 hY hb)).2⟩
      clear b0 b0' c0 c0' hx1 hY bd bwd hRY HYb b2 HC0
      go_wp2_with fail
      go_region_law (first
        | (refine step_call (by rfl) 91 [.tmp 24, .tmp 26] #[70, 24] [.int .i64 (oa : Int), .slice q1 m1 cap1] (by rfl) (by rfl) (callnx _ _) _ n2 ?_; rintro v8 W8 ⟨na, qa, ma, ca, B1, rfl, hw8⟩))
      all_goals
        obtain ⟨e1, ⟨r1, d1, f1⟩, hb8⟩ := hw8.out
        have HE1 : Hid (B1 = (nextO oa ws1).isSome ∧ ∀ a r0, nextO oa ws1 = some (a, r0) → na = a ∧ r1 = r0) := ⟨e1, f1⟩
        obtain ⟨R8, c8⟩ := HA.out W8 hb8
        have n3 := next_v ob o2 W8 qa ma ca r1 (HT.out.next R8.b) ((d1.below hb8 (Nat.le_refl _)).up hb8.size)
        have HR8 : Hid (Res w W8 #[.int .i64 0, .int .i64 0, .int .i64 0] 48) := R8
        clear hw8 e1 f1 d1 n2 hb8 HA R8 b1
        go_upto_region 7 with (first
          | (go_at_call 91; refine n3.mono ?_; rintro e W9 ⟨v9, rfl, nb, qb, mb, cb, B2, rfl, hw9⟩)
          | go_in)
        obtain ⟨e2, ⟨r2, d2, f2⟩, hb9⟩ := hw9.out
        have HF : Hid (R = if B1 = true ∧ B2 = true ∧ mb = 0 then some ((k : Int), na, nb) else none) := HRt.out.trans (tail_eq HE1.out.1 HE1.out.2 e2 f2 d2.len)
        have R9 := HR8.out.next hb9
        obtain ⟨z0, y0⟩ := blk_cell R9.c 0 (.int .i64 0) rfl
        obtain ⟨z1, y1⟩ := blk_cell R9.c 1 (.int .i64 0) rfl
        obtain ⟨z2, y2⟩ := blk_cell R9.c 2 (.int .i64 0) rfl
        have HF2 : Hid (Res w (((W9.setCell ⟨w.heap.size, 0, none⟩ (.int .i64 (k : Int))).setCell ⟨w.heap.size, 1, none⟩ (.int .i64 na)).setCell ⟨w.heap.size, 2, none⟩ (.int .i64 nb)) #[.int .i64 (k : Int), .int .i64 na, .int .i64 nb] 48) := ((R9.set 0 (.int .i64 (k : Int))).set 1 (.int .i64 na)).set 2 (.int .i64 nb)
        clear hw9 e2 d2 f2 hb9 n3 R9 c8 HE1 HRt HR8
        have HFin : Hid (∀ b : Bool, (b = true ↔ B1 = true ∧ B2 = true ∧ mb = 0) → b = B ∧ ∀ x, R = some x → ((k : Int), na, nb) = x) := by
          intro b hb
          have e := HF.out
          have e' := HB.out
          by_cases hc : B1 = true ∧ B2 = true ∧ mb = 0
          · rw [if_pos hc] at e
            rw [e] at e'
            refine ⟨by rw [hb.2 hc, e']; rfl, fun x hx => ?_⟩
            rw [e] at hx
            cases hx
            rfl
          · rw [if_neg hc] at e
            rw [e] at e'
            refine ⟨by rw [e']; cases b with | false => rfl | true => exact absurd (hb.1 rfl) hc, fun x hx => ?_⟩
            rw [e] at hx
            cases hx
        by_cases hmb : mb = 0
        · have u0 : ((mb : Int) == 0) = true := by rw [beq_iff_eq]; omega
          cases B1 <;> cases B2
          all_goals
            go_wp2
            generalize ((W9.setCell ⟨w.heap.size, 0, none⟩ (.int .i64 (k : Int))).setCell ⟨w.heap.size, 1, none⟩ (.int .i64 na)).setCell ⟨w.heap.size, 2, none⟩ (.int .i64 nb) = W4 at HF2 ⊢
            obtain ⟨q0, -⟩ := blk_cell HF2.out.c 0 (.int .i64 (k : Int)) rfl
            obtain ⟨q1, -⟩ := blk_cell HF2.out.c 1 (.int .i64 na) rfl
            obtain ⟨q2, -⟩ := blk_cell HF2.out.c 2 (.int .i64 nb) rfl
          iterate 3
            obtain ⟨rfl, hv⟩ := HFin.out false (by simp)
            exact bodyPost_ret (v := .tuple #[.agg #[.int .i64 (k : Int), .int .i64 na, .int .i64 nb], .bool false]) (by simp [results, Tryz.results74, go_sem, q0, q1, q2]) rfl ⟨_, _, _, rfl, by first | exact hv | (intro a b c e; have := hv _ e; simpa using this), HF2.out.b⟩
          obtain ⟨rfl, hv⟩ := HFin.out true (by simp [hmb])
          exact bodyPost_ret (v := .tuple #[.agg #[.int .i64 (k : Int), .int .i64 na, .int .i64 nb], .bool true]) (by simp [results, Tryz.results74, go_sem, q0, q1, q2]) rfl ⟨_, _, _, rfl, by first | exact hv | (intro a b c e; have := hv _ e; simpa using this), HF2.out.b⟩
        · have u0 : ((mb : Int) == 0) = false := by rw [beq_eq_false_iff_ne]; omega
          obtain ⟨rfl, hv⟩ := HFin.out false (by simp [hmb])
          cases B1 <;> cases B2
          all_goals
            go_wp2
            generalize ((W9.setCell ⟨w.heap.size, 0, none⟩ (.int .i64 (k : Int))).setCell ⟨w.heap.size, 1, none⟩ (.int .i64 na)).setCell ⟨w.heap.size, 2, none⟩ (.int .i64 nb) = W4 at HF2 ⊢
            obtain ⟨q0, -⟩ := blk_cell HF2.out.c 0 (.int .i64 (k : Int)) rfl
            obtain ⟨q1, -⟩ := blk_cell HF2.out.c 1 (.int .i64 na) rfl
            obtain ⟨q2, -⟩ := blk_cell HF2.out.c 2 (.int .i64 nb) rfl
            exact bodyPost_ret (v := .tuple #[.agg #[.int .i64 (k : Int), .int .i64 na, .int .i64 nb], .bool false]) (by simp [results, Tryz.results74, go_sem, q0, q1, q2]) rfl ⟨_, _, _, rfl, by first | exact hv | (intro a b c e; have := hv _ e; simpa using this), HF2.out.b⟩
    · have hx1 : (wd.toList == x0.toList) = false := by rw [toL, toL, HD0.out, beq_eq_false_iff_ne]; exact hx
      rw [if_neg hx] at HS
      clear HN2 hx
      refine wp_region_quiet_below (by kernel_rfl) (by kernel_rfl) ?_
      repeat (first | go_big_quiet_step (first | fail) | quiet_step (first | fail))
      refine wpQuiet_nil ?_
      intro _ hw'
      obtain ⟨⟨dq, osq⟩, hw''⟩ := hw'
      subst hw''
      have hY := below_regrown Y dq osq
      change Exit.then _ _ Exit.normal _ (Sort.grow (redrawn Y dq) osq)
      generalize Sort.grow (redrawn Y dq) osq = Z at hY ⊢
      have hRZ : Hid (Res w Z #[.int .i64 0, .int .i64 0, .int .i64 0] 48) := hRY.out.next hY
      go_wp2
      exact ⟨⟨k + 1, by omega, by go_num, HS, hRZ⟩, by simp [intOf]; omega⟩
end Go.Proofs.YtcjnejdemfemfaaGreatDoor
namespace Go.Proofs.YtcjnejdemfemfaaGreatDoor
open Go.RowKit

/-- A result and a value that are being made. -/
structure Mk2 (w W : World) (p2 p3 : Nat) (Z C : Array Value) (t : TypeId) : Prop where
  b : Below w.heap.size w W
  b2 : W.heap[p2]? = some (.cells Z t)
  b3 : W.heap[p3]? = some (.cells C t)
  ne : p2 ≠ p3
  l2 : w.heap.size ≤ p2
  l3 : w.heap.size ≤ p3
theorem Mk2.lt3 {w W : World} {p2 p3 : Nat} {Z C : Array Value} {t : TypeId} (h : Mk2 w W p2 p3 Z C t) : p3 < W.heap.size := (Array.getElem?_eq_some_iff.1 h.b3).1
theorem Mk2.lt2 {w W : World} {p2 p3 : Nat} {Z C : Array Value} {t : TypeId} (h : Mk2 w W p2 p3 Z C t) : p2 < W.heap.size := (Array.getElem?_eq_some_iff.1 h.b2).1
theorem Mk2.next {w W W' : World} {p2 p3 : Nat} {Z C : Array Value} {t : TypeId} (h : Mk2 w W p2 p3 Z C t) (k : Below W.heap.size W W') : Mk2 w W' p2 p3 Z C t := ⟨below2 h.b k, (k.block _ h.lt2).trans h.b2, (k.block _ h.lt3).trans h.b3, h.ne, h.l2, h.l3⟩
theorem Mk2.set {w W : World} {p2 p3 : Nat} {Z C : Array Value} {t : TypeId} (h : Mk2 w W p2 p3 Z C t) (j : Nat) (v : Value) : Mk2 w (W.setCell ⟨p3, j, none⟩ v) p2 p3 Z (C.set! j v) t :=
  ⟨h.b.setCell (p := ⟨p3, j, none⟩) h.l3 v, (set_heap (a := ⟨p3, j, none⟩) h.ne).trans h.b2, set_blk h.b3 v, h.ne, h.l2, h.l3⟩
theorem Mk2.res {w W : World} {p2 p3 : Nat} {Z C : Array Value} {t : TypeId} (h : Mk2 w W p2 p3 Z C t) (j : Nat) (v : Value) : Mk2 w (W.setCell ⟨p2, j, none⟩ v) p2 p3 (Z.set! j v) C t :=
  ⟨h.b.setCell (p := ⟨p2, j, none⟩) h.l2 v, set_blk h.b2 v, (set_heap (a := ⟨p2, j, none⟩) (Ne.symm h.ne)).trans h.b3, h.ne, h.l2, h.l3⟩
theorem Mk2.grown {w W W' : World} {p2 p3 : Nat} {Z C : Array Value} {t : TypeId} (h : Mk2 w W p2 p3 Z C t) {row : Option Nat} (hg : W.grownBy W' row) (hr : ∀ k, row = some k → w.heap.size ≤ k ∧ k ≠ p2 ∧ k ≠ p3) : Mk2 w W' p2 p3 Z C t :=
  ⟨h.b.grown hg h.b.size (fun k hk => (hr k hk).1), (hg.block p2 h.lt2 (fun q => (hr _ q.symm).2.1 rfl)).trans h.b2, (hg.block p3 h.lt3 (fun q => (hr _ q.symm).2.2 rfl)).trans h.b3, h.ne, h.l2, h.l3⟩
theorem sort_v (s : ByteArray) (w : World) (ht : Tabs w) : Calls Tryz.prog 90 #[.string s] w fun e w' => ∃ v, e = .returned v ∧ (v = .int .i64 (rdSort (lt s)) ∧ Hid (w' = w)) := (readSort_any s w ht).mono fun _ _ ⟨a, b⟩ => ⟨_, a, rfl, b⟩
theorem calls (a : Value) (w : World) : (callFunc 90 #[a]).run Tryz.prog w = .ok (.enter 90 #[a]) w := by kernel_rfl
theorem callm (a : Value) (w : World) : (callFunc 68 #[a]).run Tryz.prog w = .ok (.enter 68 #[a]) w := by kernel_rfl
theorem step_callw {P : Program} {w : World} {ops : Array Oper} {o : Oper} {a : Act} {K : Act → World → Prop} {Q : Exit → Act → World → Prop} {E : Prop} (hw : Region.wanted o (yielded ops a.tmps) = true) (f : FuncId) (xs : List Operand) (ts : Array TypeId) (us : List Value)
    (ho : o.op = .call { callee := .value (.func f), args := xs.toArray, argTypes := ts }) (hx : xs.map a.eval = us) (hcf : ∀ w : World, (callFunc f us.toArray).run P w = .ok (.enter f us.toArray) w)
    (Post : Value → World → Prop) (hc : Calls P f us.toArray w fun e w' => ∃ v, e = .returned v ∧ Post v w') (hK : ∀ v w', Post v w' → K (a.put o.dst v) w') : if Region.wanted o (yielded ops a.tmps) = true then Oper.wp P o a w K Q else E := by
  rw [if_pos hw]
  have hf : a.eval (.func f) = .func (.func f) #[] #[] := rfl
  have hr : (execOp a.eval o).run P w = .ok (.enter f us.toArray) w := by
    unfold execOp
    simp only [ho, resolve, invoke, Sem.run_bind, List.map_toArray, hx, hf]
    simp [go_sem, hcf]
  unfold Oper.wp
  rw [hr, Oper.upon_enter]
  refine hc.mono ?_
  rintro e w' ⟨v, rfl, hb⟩
  exact hK _ _ hb
def sts (ws : List Bs) : List Int := (ws.drop 4).map rdSort
theorem rdEnt_eq {ws : List Bs} (h : 4 ≤ ws.length) : rdEnt ws = match readO 12 (wAt ws 2) with
  | none => none
  | some p => if wAt ws 3 ≠ [45] ∧ rdSort (wAt ws 3) = 0 then none else if entS ⟨YtcjnejdemfemfaaGreatDoor.bk (wAt ws 1), 0, p, sts ws, if wAt ws 3 = [45] then 0 else rdSort (wAt ws 3)⟩ then some ⟨YtcjnejdemfemfaaGreatDoor.bk (wAt ws 1), 0, p, sts ws, if wAt ws 3 = [45] then 0 else rdSort (wAt ws 3)⟩ else none := by
  unfold rdEnt
  rw [if_neg (by omega)]
  rfl
theorem wAt_drop (ws : List Bs) (i j : Nat) : wAt (ws.drop i) j = wAt ws (i + j) := by
  unfold wAt
  rw [List.getD_eq_getElem?_getD, List.getD_eq_getElem?_getD, List.getElem?_drop]
theorem cut4_run (q : Option Addr) (n cap : Nat) (hk : 4 ≤ n) : ∀ w : World, (Instr.slice 24 (.slice q n cap) (some (.int .i64 4)) none none).run Tryz.prog w = .ok (.slice (cutQ q 4 cap) (n - 4) (cap - 4)) w := cut_run q n cap 4 hk
set_option maxRecDepth 100000 in
set_option maxHeartbeats 8000000 in
theorem readEntry_any (w : World) (q : Option Addr) (n cap : Nat) (ws : List Bs) (ht : Tabs w) (h : Wds w w.heap.size q n cap ws) :
    Calls Tryz.prog 73 #[.slice q n cap] w fun e w' => ∃ (nm : ByteArray) (pr rs : Int) (q' : Option Addr) (m c' : Nat), e = .returned (.tuple #[.agg #[.string nm, .int .i64 0, .int .i64 pr, .slice q' m c', .int .i64 rs], .bool (rdEnt ws).isSome]) ∧ Hid ((∃ so : List Int, m = so.length ∧ w'.ownsRow w.heap.size 41 1 (.slice q' so.length c') so.length (sv so) ∧ ∀ x, rdEnt ws = some x → x = ⟨nm, 0, pr, so, rs⟩) ∧ Below w.heap.size w w') := by
  obtain ⟨R, HR⟩ : ∃ R, Hid (R = rdEnt ws) := ⟨_, rfl⟩
  rw [← HR.out]
  obtain ⟨B, HB⟩ : ∃ B : Bool, Hid (B = R.isSome) := ⟨_, rfl⟩
  rw [← HB.out]
  obtain ⟨X, hX⟩ : ∃ X, X = w.alloc (.cells (ev e0 0 0 (.slice none 0 0) 0) 43) := ⟨_, rfl⟩
  have HX : Hid (Res w X (ev e0 0 0 (.slice none 0 0) 0) 43) := by rw [hX]; exact Res.new w _ _
  by_cases h4 : 4 ≤ n
  case neg =>
    have HF : Hid (R = none) := by show R = none; rw [HR.out]; unfold rdEnt; rw [if_pos (by have := h.len; omega)]
    have hBf : B = false := by rw [HB.out, HF.out]; rfl
    have n4 : (n : Int) < 4 := by omega
    subst hBf
    obtain ⟨x0, y0⟩ := blk_cell HX.out.c 0 (.string e0) rfl
    obtain ⟨x1, y1⟩ := blk_cell HX.out.c 1 (.int .i64 0) rfl
    obtain ⟨x2, y2⟩ := blk_cell HX.out.c 2 (.int .i64 0) rfl
    obtain ⟨x3, y3⟩ := blk_cell HX.out.c 3 (.slice none 0 0) rfl
    obtain ⟨x4, y4⟩ := blk_cell HX.out.c 4 (.int .i64 0) rfl
    have HF2 : Hid (Res w (((((X.setCell ⟨w.heap.size, 0, none⟩ (.string e0)).setCell ⟨w.heap.size, 1, none⟩ (.int .i64 0)).setCell ⟨w.heap.size, 2, none⟩ (.int .i64 0)).setCell ⟨w.heap.size, 3, none⟩ (.slice none 0 0)).setCell ⟨w.heap.size, 4, none⟩ (.int .i64 0)) (ev e0 0 0 (.slice none 0 0) 0) 43) := ((((HX.out.set 0 (.string e0)).set 1 (.int .i64 0)).set 2 (.int .i64 0)).set 3 (.slice none 0 0)).set 4 (.int .i64 0)
    clear h ht HR h4 HX
    go_enter Tryz.func73, Tryz.ntmps73
    go_upto_region 1 with fail
    rw [← hX]
    clear hX
    go_wp2
    generalize ((((X.setCell ⟨w.heap.size, 0, none⟩ (.string e0)).setCell ⟨w.heap.size, 1, none⟩ (.int .i64 0)).setCell ⟨w.heap.size, 2, none⟩ (.int .i64 0)).setCell ⟨w.heap.size, 3, none⟩ (.slice none 0 0)).setCell ⟨w.heap.size, 4, none⟩ (.int .i64 0) = W4 at HF2 ⊢
    obtain ⟨q0, -⟩ := blk_cell HF2.out.c 0 (.string e0) rfl
    obtain ⟨q1, -⟩ := blk_cell HF2.out.c 1 (.int .i64 0) rfl
    obtain ⟨q2, -⟩ := blk_cell HF2.out.c 2 (.int .i64 0) rfl
    obtain ⟨q3, -⟩ := blk_cell HF2.out.c 3 (.slice none 0 0) rfl
    obtain ⟨q4, -⟩ := blk_cell HF2.out.c 4 (.int .i64 0) rfl
    refine bodyPost_ret (v := .tuple #[.agg (ev e0 0 0 (.slice none 0 0) 0), .bool false]) (by simp [results, Tryz.results73, go_sem, q0, q1, q2, q3, q4]) rfl ⟨e0, 0, 0, none, 0, 0, rfl, ⟨[], rfl, World.ownsRow_nil _ _ _ _, ?_⟩, HF2.out.b⟩
    intro t e
    rw [HF.out] at e
    cases e
  have n4 : (4 : Int) ≤ (n : Int) := by omega
  have hE := rdEnt_eq (ws := ws) (by rw [← h.len]; exact h4)
  rw [← HR.out] at hE
  have HD := h.drop 4 h4
  have hsl := cut4_run q n cap h4
  have hg : ∀ i, i < 4 → (YtcjnejdemfemfaaGreatDoor.bk (wAt ws i)).size ≤ 281474976710656 := fun i hi => by
    rw [bk_size]
    have hl := h.len
    have e : wAt ws i = ws[i]'(by omega) := by unfold wAt; rw [List.getD_eq_getElem?_getD, List.getElem?_eq_getElem (by omega)]; rfl
    rw [e]
    exact h.sz _ (List.getElem_mem _)
  have HC : Hid (∀ W, Below w.heap.size w W → ∃ g o, q = some ⟨g, o, none⟩ ∧ W.cell? ⟨g, o + 1, none⟩ = some (.string (YtcjnejdemfemfaaGreatDoor.bk (wAt ws 1))) ∧ W.cell? ⟨g, o + 2, none⟩ = some (.string (YtcjnejdemfemfaaGreatDoor.bk (wAt ws 2))) ∧ W.cell? ⟨g, o + 3, none⟩ = some (.string (YtcjnejdemfemfaaGreatDoor.bk (wAt ws 3)))) := fun W hb => by
    obtain ⟨g, o, rfl, hg, hc1⟩ := (h.below hb (Nat.le_refl _)).at 1 (by omega)
    obtain ⟨g', o', e, -, hc2⟩ := (h.below hb (Nat.le_refl _)).at 2 (by omega)
    cases e
    obtain ⟨g', o', e, -, hc3⟩ := (h.below hb (Nat.le_refl _)).at 3 (by omega)
    cases e
    exact ⟨g, o, rfl, hc1, hc2, hc3⟩
  have hg1 := hg 1 (by decide)
  have HRd : Hid (∀ W, Below w.heap.size w W → Calls Tryz.prog 71 #[.int .i64 12, .string (YtcjnejdemfemfaaGreatDoor.bk (wAt ws 2))] W fun e w' => ∃ n' : Int, e = .returned (.tuple #[.int .i64 n', .bool (readO 12 (wAt ws 2)).isSome]) ∧ Hid ((∀ n, readO 12 (wAt ws 2) = some n → n' = n) ∧ Below W.heap.size W w')) := fun W hb => by
    have := read_any 12 (YtcjnejdemfemfaaGreatDoor.bk (wAt ws 2)) W (ht.next hb) (by decide) (hg 2 (by decide))
    rw [show lt (YtcjnejdemfemfaaGreatDoor.bk (wAt ws 2)) = wAt ws 2 from bk_data _] at this
    exact this
  have HCl : Hid (∀ W, Calls Tryz.prog 67 #[.string (YtcjnejdemfemfaaGreatDoor.bk (wAt ws 1))] W fun e w' => e = .returned (.string (YtcjnejdemfemfaaGreatDoor.bk (wAt ws 1))) ∧ Below W.heap.size W w') := fun W => clone_any _ W (by omega)
  have HSr : Hid (∀ W, Below w.heap.size w W → Calls Tryz.prog 90 #[.string (YtcjnejdemfemfaaGreatDoor.bk (wAt ws 3))] W fun e w' => e = .returned (.int .i64 (rdSort (wAt ws 3))) ∧ w' = W) := fun W hb => by
    have := readSort_any (YtcjnejdemfemfaaGreatDoor.bk (wAt ws 3)) W (ht.next hb)
    rw [show lt (YtcjnejdemfemfaaGreatDoor.bk (wAt ws 3)) = wAt ws 3 from bk_data _] at this
    exact this
  have HT : Hid (Tabs w) := ht
  have HDH : Hid (Wds w w.heap.size (cutQ q 4 cap) (n - 4) (cap - 4) (ws.drop 4)) := HD
  have HLs : Hid ((ws.drop 4).length = n - 4) := HD.len.symm
  obtain ⟨SO, HSO⟩ : ∃ SO, Hid (SO = sts ws) := ⟨_, rfl⟩
  have HSL : Hid (SO.length = n - 4) := by show _ = _; rw [HSO.out]; unfold sts; rw [List.length_map]; exact HLs.out
  have HSj : Hid (∀ j, j < n - 4 → SO.take (j + 1) = SO.take j ++ [rdSort (wAt (ws.drop 4) j)]) := fun j hj => by
    have hj' : j < SO.length := by rw [HSL.out]; exact hj
    rw [List.take_succ_eq_append_getElem hj']
    congr 2
    have hj2 : j < (ws.drop 4).length := by rw [HLs.out]; exact hj
    have e2 : wAt (ws.drop 4) j = (ws.drop 4)[j] := by unfold wAt; rw [List.getD_eq_getElem?_getD, List.getElem?_eq_getElem hj2]; rfl
    rw [e2]
    have e3 : SO[j]? = some (rdSort (ws.drop 4)[j]) := by rw [HSO.out]; unfold sts; rw [List.getElem?_map, List.getElem?_eq_getElem hj2]; rfl
    rw [List.getElem?_eq_getElem hj'] at e3
    exact Option.some.inj e3
  have hbig : n - 4 ≤ 1000 := by have := h.big; have := h.len; omega
  rw [← HSO.out] at hE
  have HE : Hid (R = _) := hE
  generalize YtcjnejdemfemfaaGreatDoor.bk (wAt ws 1) = nm at *
  have hx3 : (YtcjnejdemfemfaaGreatDoor.bk (wAt ws 3)).data.toList = wAt ws 3 := bk_data _
  have HX3 : Hid ((YtcjnejdemfemfaaGreatDoor.bk (wAt ws 3)).data.toList = wAt ws 3) := hx3
  generalize YtcjnejdemfemfaaGreatDoor.bk (wAt ws 2) = x2 at *
  generalize YtcjnejdemfemfaaGreatDoor.bk (wAt ws 3) = x3 at *
  generalize readO 12 (wAt ws 2) = RO at *
  obtain ⟨B1, HB1⟩ : ∃ B1 : Bool, Hid (B1 = RO.isSome) := ⟨_, rfl⟩
  rw [← HB1.out] at HRd
  generalize rdSort (wAt ws 3) = rs3 at *
  generalize wAt ws 3 = w3 at *
  have HnN : Hid (nm.size ≤ 281474976710656) := hg1
  clear h ht HR HD hg hg1 hx3 hE HSO HLs
  generalize cutQ q 4 cap = q4 at *
  generalize ws.drop 4 = ws4 at *
  have n40 : ((n - 4 : Nat) : Int) ≤ 1000 := by omega
  generalize n - 4 = m4 at *
  generalize cap - 4 = cap4 at *
  have rX := HRd.out X HX.out.b
  obtain ⟨g, p, rfl, c1, c2, c3⟩ := HC.out X HX.out.b
  go_enter Tryz.func73, Tryz.ntmps73
  go_upto_region 1 with fail
  rw [← hX]
  clear hX
  go_upto_region 4 with (first
    | (go_at_call 71; refine rX.mono ?_; rintro e W1 ⟨cnt, rfl, hw1⟩)
    | go_in)
  have HR1 : Hid (Res w W1 (ev e0 0 0 (.slice none 0 0) 0) 43) := HX.out.next hw1.out.2
  have HCn : Hid (∀ n, RO = some n → cnt = n) := hw1.out.1
  clear rX c1 c2 c3 hw1 HX HRd
  obtain ⟨g', p', hgp, c1, -, -⟩ := HC.out W1 HR1.out.b
  cases hgp
  have rC := HCl.out W1
  go_upto_region 5 with (first
    | (go_at_call 67; refine rC.mono ?_; rintro e W2 ⟨rfl, hw2⟩)
    | go_in)
  have hR2 := HR1.out.next hw2
  obtain ⟨W3, hW3⟩ : ∃ W3, W3 = W2.alloc (.cells (ev nm 0 cnt (.slice none 0 0) 0) 43) := ⟨_, rfl⟩
  have nb3 : Below W2.heap.size W2 W3 := by rw [hW3]; exact (Below.refl _ W2).alloc (Nat.le_refl _) _
  have HM3 : Hid (Mk2 w W3 w.heap.size W2.heap.size (ev e0 0 0 (.slice none 0 0) 0) (ev nm 0 cnt (.slice none 0 0) 0) 43) := ⟨below2 hR2.b nb3, (nb3.block _ hR2.lt).trans hR2.c, by rw [hW3]; exact World.alloc_heap_new W2 _, Nat.ne_of_lt hR2.lt, Nat.le_refl _, Nat.le_of_lt hR2.lt⟩
  rw [← hW3]
  clear hW3 nb3 hw2 rC HR1 HCl c1 hR2
  generalize W2.heap.size = p3 at *
  obtain ⟨g', p', hgp, -, -, c3⟩ := HC.out W3 HM3.out.b
  cases hgp
  clear HC
  -- the ways to the loop
  have HOK : Hid (∀ (OK : Bool) (rs : Int), (OK = true ↔ B1 = true ∧ (w3 = [45] ∨ rs3 ≠ 0)) → rs = (if w3 = [45] then 0 else rs3) → (OK = true → R = if entS ⟨nm, 0, cnt, SO, rs⟩ then some ⟨nm, 0, cnt, SO, rs⟩ else none) ∧ (OK = false → R = none)) := by
    intro OK rs hOK hrs
    have e := HE.out
    rw [← hrs] at e
    have e1 := HB1.out
    cases hRO : RO with
    | none =>
      rw [hRO] at e e1
      refine ⟨fun q => ?_, fun _ => e⟩
      have := (hOK.1 q).1
      rw [e1] at this
      cases this
    | some v =>
      rw [hRO] at e e1
      have hv := HCn.out v hRO
      subst hv
      simp only at e
      by_cases hc : w3 = [45] ∨ rs3 ≠ 0
      · rw [if_neg (by rintro ⟨a, b⟩; rcases hc with q | q; exact a q; exact q b)] at e
        refine ⟨fun _ => e, fun q => ?_⟩
        have := hOK.2 ⟨e1, hc⟩
        rw [q] at this
        cases this
      · rw [if_pos ⟨fun q => hc (.inl q), Classical.not_not.1 fun q => hc (.inr q)⟩] at e
        refine ⟨fun q => absurd (hOK.1 q).2 hc, fun _ => e⟩
  clear HE HB1 HCn
  have HSX : Hid (w3 = [45] ↔ x3.data.toList = [45]) := by show _ ↔ _; rw [HX3.out]
  have hPath : Hid (∀ (OK : Bool) (rs : Int), True) := fun _ _ => trivial
  clear hPath
  by_cases h45 : w3 = [45]
  case pos =>
    have e1 : (x3.toList == [45]) = true := by rw [toL, HX3.out, h45]; rfl
    have hP := HOK.out B1 0 (by simp [h45]) (by simp [h45])
    obtain ⟨rs, HP, HMW⟩ : ∃ rs : Int, Hid ((B1 = true → R = if entS ⟨nm, 0, cnt, SO, rs⟩ then some ⟨nm, 0, cnt, SO, rs⟩ else none) ∧ (B1 = false → R = none)) ∧ Hid (Mk2 w W3 w.heap.size p3 (ev e0 0 0 (.slice none 0 0) 0) (ev nm 0 cnt (.slice none 0 0) rs) 43) := ⟨0, hP, HM3⟩
    clear hP HOK HM3 HSr HX3 HSX
    cases B1 with
    | false =>
      have HPF : Hid (R = none) := HP.out.2 rfl
      clear HP
      go_upto_region 8 with fail
      generalize W3 = W at *
      go_wp2_with fail
      go_loopw [44] (fun i wr => ∃ (j : Nat) (qj : Option Addr) (cj : Nat), j ≤ m4 ∧ i = .int .i64 (j : Int) ∧ Hid (Mk2 w wr w.heap.size p3 (ev e0 0 0 (.slice none 0 0) 0) (ev nm 0 cnt (.slice qj j cj) rs) 43) ∧ Hid (wr.ownsRow w.heap.size 41 1 (.slice qj j cj) j (sv (SO.take j)))) (fun i _ => m4 - (intOf i).toNat)
      case atStart => exact ⟨0, none, 0, Nat.zero_le _, rfl, HMW, by rw [List.take_zero]; exact World.ownsRow_nil _ _ _ _⟩
      case round =>
        clear HMW
        obtain ⟨j, qj, cj, hj, rfl, hM, hO⟩ := hrel
        by_cases hlt : j < m4
        case neg =>
          obtain rfl : j = m4 := by omega
          have hO' : Hid (wr.ownsRow w.heap.size 41 1 (.slice qj SO.length cj) SO.length (sv SO)) := by
            have e := hO.out
            rw [List.take_of_length_le (by rw [HSL.out]; exact Nat.le_refl _)] at e
            rw [HSL.out]
            exact e
          clear hO
          obtain ⟨d0, -⟩ := blk_cell hM.out.b3 0 (.string nm) rfl
          obtain ⟨d1, -⟩ := blk_cell hM.out.b3 1 (.int .i64 0) rfl
          obtain ⟨d2, -⟩ := blk_cell hM.out.b3 2 (.int .i64 cnt) rfl
          obtain ⟨d3, -⟩ := blk_cell hM.out.b3 3 (.slice qj j cj) rfl
          obtain ⟨d4, -⟩ := blk_cell hM.out.b3 4 (.int .i64 rs) rfl
          obtain ⟨z0, y0⟩ := blk_cell hM.out.b2 0 (.string e0) rfl
          obtain ⟨z1, y1⟩ := blk_cell hM.out.b2 1 (.int .i64 0) rfl
          obtain ⟨z2, y2⟩ := blk_cell hM.out.b2 2 (.int .i64 0) rfl
          obtain ⟨z3, y3⟩ := blk_cell hM.out.b2 3 (.slice none 0 0) rfl
          obtain ⟨z4, y4⟩ := blk_cell hM.out.b2 4 (.int .i64 0) rfl
          have hBf : B = false := by rw [HB.out, HPF.out]; rfl
          subst hBf
          go_wp2_with fail
          go_region_law (first | fail)
          all_goals
            have HF2 : Hid (Mk2 w (((((wr.setCell ⟨w.heap.size, 0, none⟩ (.string nm)).setCell ⟨w.heap.size, 1, none⟩ (.int .i64 0)).setCell ⟨w.heap.size, 2, none⟩ (.int .i64 cnt)).setCell ⟨w.heap.size, 3, none⟩ (.slice qj j cj)).setCell ⟨w.heap.size, 4, none⟩ (.int .i64 rs)) w.heap.size p3 (ev nm 0 cnt (.slice qj j cj) rs) (ev nm 0 cnt (.slice qj j cj) rs) 43) := ((((hM.out.res 0 _).res 1 _).res 2 _).res 3 _).res 4 _
            have hOF : Hid ((((((wr.setCell ⟨w.heap.size, 0, none⟩ (.string nm)).setCell ⟨w.heap.size, 1, none⟩ (.int .i64 0)).setCell ⟨w.heap.size, 2, none⟩ (.int .i64 cnt)).setCell ⟨w.heap.size, 3, none⟩ (.slice qj j cj)).setCell ⟨w.heap.size, 4, none⟩ (.int .i64 rs)).ownsRow w.heap.size 41 1 (.slice qj SO.length cj) SO.length (sv SO)) :=
              own_setB (own_setB (own_setB (own_setB (own_setB hO'.out hM.out.b2 (by decide) _) (hM.out.res 0 _).b2 (by decide) _) ((hM.out.res 0 _).res 1 _).b2 (by decide) _) (((hM.out.res 0 _).res 1 _).res 2 _).b2 (by decide) _) ((((hM.out.res 0 _).res 1 _).res 2 _).res 3 _).b2 (by decide) _
            have HF3 : Hid (Mk2 w (((((wr.setCell ⟨w.heap.size, 0, none⟩ (.string nm)).setCell ⟨w.heap.size, 1, none⟩ (.int .i64 0)).setCell ⟨w.heap.size, 2, none⟩ (.int .i64 cnt)).setCell ⟨w.heap.size, 3, none⟩ (.slice qj j cj)).setCell ⟨w.heap.size, 4, none⟩ (.int .i64 rs)).drew w.heap.size p3 (ev nm 0 cnt (.slice qj j cj) rs) (ev nm 0 cnt (.slice qj j cj) rs) 43) := HF2.out.next (Below.refl _ _).drew
            have hOG : Hid ((((((wr.setCell ⟨w.heap.size, 0, none⟩ (.string nm)).setCell ⟨w.heap.size, 1, none⟩ (.int .i64 0)).setCell ⟨w.heap.size, 2, none⟩ (.int .i64 cnt)).setCell ⟨w.heap.size, 3, none⟩ (.slice qj j cj)).setCell ⟨w.heap.size, 4, none⟩ (.int .i64 rs)).drew.ownsRow w.heap.size 41 1 (.slice qj SO.length cj) SO.length (sv SO)) := own_next hOF.out (Below.refl _ _).drew
            clear HF2 hOF
            generalize (((((wr.setCell ⟨w.heap.size, 0, none⟩ (.string nm)).setCell ⟨w.heap.size, 1, none⟩ (.int .i64 0)).setCell ⟨w.heap.size, 2, none⟩ (.int .i64 cnt)).setCell ⟨w.heap.size, 3, none⟩ (.slice qj j cj)).setCell ⟨w.heap.size, 4, none⟩ (.int .i64 rs)).drew = WF at HF3 hOG ⊢
            obtain ⟨k0, -⟩ := blk_cell HF3.out.b2 0 (.string nm) rfl
            obtain ⟨k1, -⟩ := blk_cell HF3.out.b2 1 (.int .i64 0) rfl
            obtain ⟨k2, -⟩ := blk_cell HF3.out.b2 2 (.int .i64 cnt) rfl
            obtain ⟨k3, -⟩ := blk_cell HF3.out.b2 3 (.slice qj j cj) rfl
            obtain ⟨k4, -⟩ := blk_cell HF3.out.b2 4 (.int .i64 rs) rfl
            go_wp2
            first | (change bodyPost Tryz.prog Tryz.f73 _ Exit.ret _ _) | (simp only [Exit.noGoto]) | skip
            refine bodyPost_ret (v := .tuple #[.agg (ev nm 0 cnt (.slice qj j cj) rs), .bool false]) (by simp [results, Tryz.results73, go_sem, k0, k1, k2, k3, k4]) rfl ⟨nm, cnt, rs, qj, j, cj, by rfl, ⟨SO, HSL.out.symm, hOG.out, ?_⟩, HF3.out.b⟩
            intro t e
            rw [HPF.out] at e
            cases e
        obtain ⟨g2, p2, hq4, hg2, cw⟩ := HDH.out.at j (by exact hlt)
        have bd : Below wr.heap.size wr wr.drew := (Below.refl _ wr).drew
        have cw' : wr.cell? ⟨g2, p2 + j, none⟩ = some (.string (YtcjnejdemfemfaaGreatDoor.bk (wAt ws4 j))) := (hM.out.b.cell (p := ⟨g2, p2 + j, none⟩) hg2).trans cw
        have n2 := sort_v (YtcjnejdemfemfaaGreatDoor.bk (wAt ws4 j)) wr.drew (HT.out.next (below2 hM.out.b bd))
        rw [show lt (YtcjnejdemfemfaaGreatDoor.bk (wAt ws4 j)) = wAt ws4 j from bk_data _] at n2
        have HS1 : Hid (SO.take (j + 1) = SO.take j ++ [rdSort (wAt ws4 j)]) := HSj.out j hlt
        generalize YtcjnejdemfemfaaGreatDoor.bk (wAt ws4 j) = xw at *
        generalize rdSort (wAt ws4 j) = vr at *
        have hMd := hM.out.next bd
        have hOd := own_next hO.out bd
        have HW8 : Hid (∀ W8, W8 = wr.drew → Mk2 w W8 w.heap.size p3 (ev e0 0 0 (.slice none 0 0) 0) (ev nm 0 cnt (.slice qj j cj) rs) 43 ∧ W8.ownsRow w.heap.size 41 1 (.slice qj j cj) j (sv (SO.take j))) := fun W8 e => by subst e; exact ⟨hMd, hOd⟩
        obtain ⟨x3, -⟩ := blk_cell hM.out.b3 3 (.slice qj j cj) rfl
        have HWA : Hid (∀ W8 W9, Mk2 w W8 w.heap.size p3 (ev e0 0 0 (.slice none 0 0) 0) (ev nm 0 cnt (.slice qj j cj) rs) 43 → W8.ownsRow w.heap.size 41 1 (.slice qj j cj) j (sv (SO.take j)) → (W8.alloc (.cells #[.int .i64 vr] 41)).grownBy W9 (Value.slice qj j cj).ownBlock → Mk2 w W9 w.heap.size p3 (ev e0 0 0 (.slice none 0 0) 0) (ev nm 0 cnt (.slice qj j cj) rs) 43) := fun W8 W9 hm ho hg => by
          refine (hm.next ((Below.refl _ W8).alloc (Nat.le_refl _) _)).grown hg (fun g hg' => ⟨own_ge ho g hg', fun e => ?_, fun e => ?_⟩)
          · subst e; exact own_ne ho (b := w.heap.size) (t := 43) (m := 5) ⟨_, hm.b2, Nat.le_refl _⟩ (by decide) hg'
          · subst e; exact own_ne ho (b := g) (t := 43) (m := 5) ⟨_, hm.b3, Nat.le_refl _⟩ (by decide) hg'
        have H1 : Hid (∀ u ∈ ([.int .i64 vr] : List Value), u.oneCell' = true) := fun u hu => by obtain rfl := List.mem_singleton.1 hu; rfl
        have j0 : (j : Int) < (m4 : Int) := by omega
        subst hq4
        clear bd hMd hOd hM hO cw hg2 HSj HT HDH
        go_wp2_with fail
        go_region_law (first
          | (refine step_call (by rfl) 90 [.tmp 50] #[9] [.string xw] (by rfl) (by rfl) (calls _) _ n2 ?_; rintro v8 W8 ⟨rfl, hw8⟩; obtain ⟨m8, o8⟩ := HW8.out W8 hw8.out; obtain ⟨x8, -⟩ := blk_cell m8.b3 3 (.slice qj j cj) rfl; obtain ⟨x8a, -⟩ := blk_cell (m8.next ((Below.refl _ W8).alloc (Nat.le_refl _) (.cells #[.int .i64 vr] 41))).b3 3 (.slice qj j cj) rfl)
          | (refine step_app 40 41 _ 1 8 Tryz.underlying40 infoSort (by rfl) (by decide) (by decide) (by rfl) _ _ (by rfl) w.heap.size (.slice qj j cj) j (sv (SO.take j)) (by rfl) (own_next o8 ((Below.refl _ W8).alloc (Nat.le_refl _) _)) W8.heap.size [.int .i64 vr] rfl H1.out (by rfl) (range_new W8 _ _) (by omega) (by have := m8.b.size; simp; omega) ?_; intro v9 W9 ho9 hg9; have m9 := HWA.out W8 W9 m8 o8 hg9.out.1; obtain ⟨x9, y9⟩ := blk_cell m9.b3 3 (.slice qj j cj) rfl; obtain ⟨q9, c9, rfl, -, -⟩ := own_slice ho9.out))
        all_goals
          have HM10 : Hid (Mk2 w (W9.setCell ⟨p3, 3, none⟩ (.slice q9 (j + 1) c9)) w.heap.size p3 (ev e0 0 0 (.slice none 0 0) 0) (ev nm 0 cnt (.slice q9 (j + 1) c9) rs) 43) := m9.set 3 _
          have hO10 : Hid ((W9.setCell ⟨p3, 3, none⟩ (.slice q9 (j + 1) c9)).ownsRow w.heap.size 41 1 (.slice q9 (j + 1) c9) (j + 1) (sv (SO.take j) ++ [.int .i64 vr])) := own_setB ho9.out m9.b3 (by decide) _
          clear m9 ho9 hg9 x8 x8a x9 y9 m8 o8 hw8 HWA HW8 n2 x3
          generalize W9.setCell ⟨p3, 3, none⟩ (.slice q9 (j + 1) c9) = W10 at *
          go_wp2
          exact ⟨⟨j + 1, q9, c9, by omega, by go_num, HM10, by rw [HS1.out, sv_app]; exact hO10⟩, by simp [intOf]; omega⟩
    | true =>
      have HPT : Hid (R = if entS ⟨nm, 0, cnt, SO, rs⟩ then some ⟨nm, 0, cnt, SO, rs⟩ else none) := HP.out.1 rfl
      clear HP
      go_upto_region 8 with fail
      generalize W3 = W at *
      go_wp2_with fail
      go_loopw [44] (fun i wr => ∃ (j : Nat) (qj : Option Addr) (cj : Nat), j ≤ m4 ∧ i = .int .i64 (j : Int) ∧ Hid (Mk2 w wr w.heap.size p3 (ev e0 0 0 (.slice none 0 0) 0) (ev nm 0 cnt (.slice qj j cj) rs) 43) ∧ Hid (wr.ownsRow w.heap.size 41 1 (.slice qj j cj) j (sv (SO.take j)))) (fun i _ => m4 - (intOf i).toNat)
      case atStart => exact ⟨0, none, 0, Nat.zero_le _, rfl, HMW, by rw [List.take_zero]; exact World.ownsRow_nil _ _ _ _⟩
      case round =>
        clear HMW
        obtain ⟨j, qj, cj, hj, rfl, hM, hO⟩ := hrel
        by_cases hlt : j < m4
        case neg =>
          obtain rfl : j = m4 := by omega
          have hO' : Hid (wr.ownsRow w.heap.size 41 1 (.slice qj SO.length cj) SO.length (sv SO)) := by
            have e := hO.out
            rw [List.take_of_length_le (by rw [HSL.out]; exact Nat.le_refl _)] at e
            rw [HSL.out]
            exact e
          clear hO
          obtain ⟨d0, -⟩ := blk_cell hM.out.b3 0 (.string nm) rfl
          obtain ⟨d1, -⟩ := blk_cell hM.out.b3 1 (.int .i64 0) rfl
          obtain ⟨d2, -⟩ := blk_cell hM.out.b3 2 (.int .i64 cnt) rfl
          obtain ⟨d3, -⟩ := blk_cell hM.out.b3 3 (.slice qj j cj) rfl
          obtain ⟨d4, -⟩ := blk_cell hM.out.b3 4 (.int .i64 rs) rfl
          obtain ⟨z0, y0⟩ := blk_cell hM.out.b2 0 (.string e0) rfl
          obtain ⟨z1, y1⟩ := blk_cell hM.out.b2 1 (.int .i64 0) rfl
          obtain ⟨z2, y2⟩ := blk_cell hM.out.b2 2 (.int .i64 0) rfl
          obtain ⟨z3, y3⟩ := blk_cell hM.out.b2 3 (.slice none 0 0) rfl
          obtain ⟨z4, y4⟩ := blk_cell hM.out.b2 4 (.int .i64 0) rfl
          have bd : Below wr.heap.size wr wr.drew := (Below.refl _ wr).drew
          have n3 : Calls Tryz.prog 68 #[.agg (ev nm 0 cnt (.slice qj j cj) rs)] wr.drew fun e w' => ∃ v, e = .returned v ∧ (v = .bool (entS ⟨nm, 0, cnt, SO, rs⟩) ∧ Hid (Below wr.drew.heap.size wr.drew w')) := by
            have e1 := entry_any (⟨nm, 0, cnt, SO, rs⟩, qj, cj) wr.drew (HT.out.next (below2 hM.out.b bd)) (row_of_own (own_next hO'.out bd)) (Nat.le_trans HnN.out (by decide)) (by have := HSL.out; show SO.length ≤ _; omega)
            have e2 : (ec (⟨nm, 0, cnt, SO, rs⟩, qj, cj)).toArray = (ev nm 0 cnt (.slice qj j cj) rs) := by show #[_, _, _, Value.slice qj SO.length cj, _] = _; rw [HSL.out]
            rw [e2] at e1
            exact e1.mono fun _ _ ⟨a, b⟩ => ⟨_, a, rfl, b⟩
          have HW8 : Hid (∀ W8, Below wr.drew.heap.size wr.drew W8 → Mk2 w W8 w.heap.size p3 (ev e0 0 0 (.slice none 0 0) 0) (ev nm 0 cnt (.slice qj j cj) rs) 43 ∧ W8.ownsRow w.heap.size 41 1 (.slice qj SO.length cj) SO.length (sv SO)) := fun W8 hb => ⟨hM.out.next (below2 bd hb), own_next hO'.out (below2 bd hb)⟩
          generalize entS ⟨nm, 0, cnt, SO, rs⟩ = EB at *
          have hBE : B = EB := by rw [HB.out, HPT.out]; cases EB <;> rfl
          subst hBE
          clear bd
          go_wp2_with fail
          go_region_law (first
            | (refine step_callw (by rfl) 68 [.tmp 59] #[43] [.agg (ev nm 0 cnt (.slice qj j cj) rs)] (by rfl) (by rfl) (callm _) _ n3 ?_; rintro v8 W8 ⟨rfl, hb8⟩; obtain ⟨m8, o8⟩ := HW8.out W8 hb8.out; have M8 : Hid (Mk2 w W8 w.heap.size p3 (ev e0 0 0 (.slice none 0 0) 0) (ev nm 0 cnt (.slice qj j cj) rs) 43) := m8; obtain ⟨g0, -⟩ := blk_cell m8.b3 0 (.string nm) rfl; obtain ⟨g1, -⟩ := blk_cell m8.b3 1 (.int .i64 0) rfl; obtain ⟨g2, -⟩ := blk_cell m8.b3 2 (.int .i64 cnt) rfl; obtain ⟨g3, -⟩ := blk_cell m8.b3 3 (.slice qj j cj) rfl; obtain ⟨g4, -⟩ := blk_cell m8.b3 4 (.int .i64 rs) rfl; obtain ⟨v0, h0⟩ := blk_cell m8.b2 0 (.string e0) rfl; obtain ⟨v1, h1⟩ := blk_cell m8.b2 1 (.int .i64 0) rfl; obtain ⟨v2, h2⟩ := blk_cell m8.b2 2 (.int .i64 0) rfl; obtain ⟨v3, h3⟩ := blk_cell m8.b2 3 (.slice none 0 0) rfl; obtain ⟨v4, h4⟩ := blk_cell m8.b2 4 (.int .i64 0) rfl))
          all_goals
            have HF2 : Hid (Mk2 w (((((W8.setCell ⟨w.heap.size, 0, none⟩ (.string nm)).setCell ⟨w.heap.size, 1, none⟩ (.int .i64 0)).setCell ⟨w.heap.size, 2, none⟩ (.int .i64 cnt)).setCell ⟨w.heap.size, 3, none⟩ (.slice qj j cj)).setCell ⟨w.heap.size, 4, none⟩ (.int .i64 rs)) w.heap.size p3 (ev nm 0 cnt (.slice qj j cj) rs) (ev nm 0 cnt (.slice qj j cj) rs) 43) := ((((M8.out.res 0 _).res 1 _).res 2 _).res 3 _).res 4 _
            have hOF : Hid ((((((W8.setCell ⟨w.heap.size, 0, none⟩ (.string nm)).setCell ⟨w.heap.size, 1, none⟩ (.int .i64 0)).setCell ⟨w.heap.size, 2, none⟩ (.int .i64 cnt)).setCell ⟨w.heap.size, 3, none⟩ (.slice qj j cj)).setCell ⟨w.heap.size, 4, none⟩ (.int .i64 rs)).ownsRow w.heap.size 41 1 (.slice qj SO.length cj) SO.length (sv SO)) :=
              own_setB (own_setB (own_setB (own_setB (own_setB o8 M8.out.b2 (by decide) _) (M8.out.res 0 _).b2 (by decide) _) ((M8.out.res 0 _).res 1 _).b2 (by decide) _) (((M8.out.res 0 _).res 1 _).res 2 _).b2 (by decide) _) ((((M8.out.res 0 _).res 1 _).res 2 _).res 3 _).b2 (by decide) _
            have HF3 := HF2
            have hOG := hOF
            clear HF2 hOF
            generalize (((((W8.setCell ⟨w.heap.size, 0, none⟩ (.string nm)).setCell ⟨w.heap.size, 1, none⟩ (.int .i64 0)).setCell ⟨w.heap.size, 2, none⟩ (.int .i64 cnt)).setCell ⟨w.heap.size, 3, none⟩ (.slice qj j cj)).setCell ⟨w.heap.size, 4, none⟩ (.int .i64 rs)) = WF at HF3 hOG ⊢
            obtain ⟨k0, -⟩ := blk_cell HF3.out.b2 0 (.string nm) rfl
            obtain ⟨k1, -⟩ := blk_cell HF3.out.b2 1 (.int .i64 0) rfl
            obtain ⟨k2, -⟩ := blk_cell HF3.out.b2 2 (.int .i64 cnt) rfl
            obtain ⟨k3, -⟩ := blk_cell HF3.out.b2 3 (.slice qj j cj) rfl
            obtain ⟨k4, -⟩ := blk_cell HF3.out.b2 4 (.int .i64 rs) rfl
            go_wp2
            first | (change bodyPost Tryz.prog Tryz.f73 _ Exit.ret _ _) | (simp only [Exit.noGoto]) | skip
            refine bodyPost_ret (v := .tuple #[.agg (ev nm 0 cnt (.slice qj j cj) rs), .bool B]) (by simp [results, Tryz.results73, go_sem, k0, k1, k2, k3, k4]) rfl ⟨nm, cnt, rs, qj, j, cj, by rfl, ⟨SO, HSL.out.symm, hOG.out, ?_⟩, HF3.out.b⟩
            intro t e
            rw [HPT.out] at e
            cases B with
            | false => cases e
            | true => cases e; rfl
        obtain ⟨g2, p2, hq4, hg2, cw⟩ := HDH.out.at j (by exact hlt)
        have bd : Below wr.heap.size wr wr.drew := (Below.refl _ wr).drew
        have cw' : wr.cell? ⟨g2, p2 + j, none⟩ = some (.string (YtcjnejdemfemfaaGreatDoor.bk (wAt ws4 j))) := (hM.out.b.cell (p := ⟨g2, p2 + j, none⟩) hg2).trans cw
        have n2 := sort_v (YtcjnejdemfemfaaGreatDoor.bk (wAt ws4 j)) wr.drew (HT.out.next (below2 hM.out.b bd))
        rw [show lt (YtcjnejdemfemfaaGreatDoor.bk (wAt ws4 j)) = wAt ws4 j from bk_data _] at n2
        have HS1 : Hid (SO.take (j + 1) = SO.take j ++ [rdSort (wAt ws4 j)]) := HSj.out j hlt
        generalize YtcjnejdemfemfaaGreatDoor.bk (wAt ws4 j) = xw at *
        generalize rdSort (wAt ws4 j) = vr at *
        have hMd := hM.out.next bd
        have hOd := own_next hO.out bd
        have HW8 : Hid (∀ W8, W8 = wr.drew → Mk2 w W8 w.heap.size p3 (ev e0 0 0 (.slice none 0 0) 0) (ev nm 0 cnt (.slice qj j cj) rs) 43 ∧ W8.ownsRow w.heap.size 41 1 (.slice qj j cj) j (sv (SO.take j))) := fun W8 e => by subst e; exact ⟨hMd, hOd⟩
        obtain ⟨x3, -⟩ := blk_cell hM.out.b3 3 (.slice qj j cj) rfl
        have HWA : Hid (∀ W8 W9, Mk2 w W8 w.heap.size p3 (ev e0 0 0 (.slice none 0 0) 0) (ev nm 0 cnt (.slice qj j cj) rs) 43 → W8.ownsRow w.heap.size 41 1 (.slice qj j cj) j (sv (SO.take j)) → (W8.alloc (.cells #[.int .i64 vr] 41)).grownBy W9 (Value.slice qj j cj).ownBlock → Mk2 w W9 w.heap.size p3 (ev e0 0 0 (.slice none 0 0) 0) (ev nm 0 cnt (.slice qj j cj) rs) 43) := fun W8 W9 hm ho hg => by
          refine (hm.next ((Below.refl _ W8).alloc (Nat.le_refl _) _)).grown hg (fun g hg' => ⟨own_ge ho g hg', fun e => ?_, fun e => ?_⟩)
          · subst e; exact own_ne ho (b := w.heap.size) (t := 43) (m := 5) ⟨_, hm.b2, Nat.le_refl _⟩ (by decide) hg'
          · subst e; exact own_ne ho (b := g) (t := 43) (m := 5) ⟨_, hm.b3, Nat.le_refl _⟩ (by decide) hg'
        have H1 : Hid (∀ u ∈ ([.int .i64 vr] : List Value), u.oneCell' = true) := fun u hu => by obtain rfl := List.mem_singleton.1 hu; rfl
        have j0 : (j : Int) < (m4 : Int) := by omega
        subst hq4
        clear bd hMd hOd hM hO cw hg2 HSj HT HDH
        go_wp2_with fail
        go_region_law (first
          | (refine step_call (by rfl) 90 [.tmp 50] #[9] [.string xw] (by rfl) (by rfl) (calls _) _ n2 ?_; rintro v8 W8 ⟨rfl, hw8⟩; obtain ⟨m8, o8⟩ := HW8.out W8 hw8.out; obtain ⟨x8, -⟩ := blk_cell m8.b3 3 (.slice qj j cj) rfl; obtain ⟨x8a, -⟩ := blk_cell (m8.next ((Below.refl _ W8).alloc (Nat.le_refl _) (.cells #[.int .i64 vr] 41))).b3 3 (.slice qj j cj) rfl)
          | (refine step_app 40 41 _ 1 8 Tryz.underlying40 infoSort (by rfl) (by decide) (by decide) (by rfl) _ _ (by rfl) w.heap.size (.slice qj j cj) j (sv (SO.take j)) (by rfl) (own_next o8 ((Below.refl _ W8).alloc (Nat.le_refl _) _)) W8.heap.size [.int .i64 vr] rfl H1.out (by rfl) (range_new W8 _ _) (by omega) (by have := m8.b.size; simp; omega) ?_; intro v9 W9 ho9 hg9; have m9 := HWA.out W8 W9 m8 o8 hg9.out.1; obtain ⟨x9, y9⟩ := blk_cell m9.b3 3 (.slice qj j cj) rfl; obtain ⟨q9, c9, rfl, -, -⟩ := own_slice ho9.out))
        all_goals
          have HM10 : Hid (Mk2 w (W9.setCell ⟨p3, 3, none⟩ (.slice q9 (j + 1) c9)) w.heap.size p3 (ev e0 0 0 (.slice none 0 0) 0) (ev nm 0 cnt (.slice q9 (j + 1) c9) rs) 43) := m9.set 3 _
          have hO10 : Hid ((W9.setCell ⟨p3, 3, none⟩ (.slice q9 (j + 1) c9)).ownsRow w.heap.size 41 1 (.slice q9 (j + 1) c9) (j + 1) (sv (SO.take j) ++ [.int .i64 vr])) := own_setB ho9.out m9.b3 (by decide) _
          clear m9 ho9 hg9 x8 x8a x9 y9 m8 o8 hw8 HWA HW8 n2 x3
          generalize W9.setCell ⟨p3, 3, none⟩ (.slice q9 (j + 1) c9) = W10 at *
          go_wp2
          exact ⟨⟨j + 1, q9, c9, by omega, by go_num, HM10, by rw [HS1.out, sv_app]; exact hO10⟩, by simp [intOf]; omega⟩
  case neg =>
    have e1 : (x3.toList == [45]) = false := by rw [toL, HX3.out, beq_eq_false_iff_ne]; exact h45
    have rS := HSr.out W3 HM3.out.b
    have HOK2 : Hid (∀ OK : Bool, (OK = true ↔ B1 = true ∧ rs3 ≠ 0) → (OK = true → R = if entS ⟨nm, 0, cnt, SO, rs3⟩ then some ⟨nm, 0, cnt, SO, rs3⟩ else none) ∧ (OK = false → R = none)) := fun OK hOK => HOK.out OK rs3 (by rw [hOK]; simp [h45]) (by simp [h45])
    have HMW : Hid (Mk2 w (W3.setCell ⟨p3, 4, none⟩ (.int .i64 rs3)) w.heap.size p3 (ev e0 0 0 (.slice none 0 0) 0) (ev nm 0 cnt (.slice none 0 0) rs3) 43) := HM3.out.set 4 _
    obtain ⟨z4, y4⟩ := blk_cell HM3.out.b3 4 (.int .i64 0) rfl
    clear HOK HSr HX3 HSX HM3
    generalize rs3 = rs at *
    go_upto_region 7 with (first
      | (go_at_call 90; refine rS.mono ?_; rintro e W9 ⟨rfl, hw9⟩; subst hw9)
      | go_in)
    generalize W9.setCell ⟨p3, 4, none⟩ (.int .i64 rs) = W at *
    obtain ⟨f4, -⟩ := blk_cell HMW.out.b3 4 (.int .i64 rs) rfl
    clear c3 z4 y4
    cases B1 with
    | false =>
      have HPF : Hid (R = none) := (HOK2.out false (by simp)).2 rfl
      clear HOK2
      go_upto_region 8 with fail
      clear f4
      go_wp2_with fail
      go_loopw [44] (fun i wr => ∃ (j : Nat) (qj : Option Addr) (cj : Nat), j ≤ m4 ∧ i = .int .i64 (j : Int) ∧ Hid (Mk2 w wr w.heap.size p3 (ev e0 0 0 (.slice none 0 0) 0) (ev nm 0 cnt (.slice qj j cj) rs) 43) ∧ Hid (wr.ownsRow w.heap.size 41 1 (.slice qj j cj) j (sv (SO.take j)))) (fun i _ => m4 - (intOf i).toNat)
      case atStart => exact ⟨0, none, 0, Nat.zero_le _, rfl, HMW, by rw [List.take_zero]; exact World.ownsRow_nil _ _ _ _⟩
      case round =>
        clear HMW
        obtain ⟨j, qj, cj, hj, rfl, hM, hO⟩ := hrel
        by_cases hlt : j < m4
        case neg =>
          obtain rfl : j = m4 := by omega
          have hO' : Hid (wr.ownsRow w.heap.size 41 1 (.slice qj SO.length cj) SO.length (sv SO)) := by
            have e := hO.out
            rw [List.take_of_length_le (by rw [HSL.out]; exact Nat.le_refl _)] at e
            rw [HSL.out]
            exact e
          clear hO
          obtain ⟨d0, -⟩ := blk_cell hM.out.b3 0 (.string nm) rfl
          obtain ⟨d1, -⟩ := blk_cell hM.out.b3 1 (.int .i64 0) rfl
          obtain ⟨d2, -⟩ := blk_cell hM.out.b3 2 (.int .i64 cnt) rfl
          obtain ⟨d3, -⟩ := blk_cell hM.out.b3 3 (.slice qj j cj) rfl
          obtain ⟨d4, -⟩ := blk_cell hM.out.b3 4 (.int .i64 rs) rfl
          obtain ⟨z0, y0⟩ := blk_cell hM.out.b2 0 (.string e0) rfl
          obtain ⟨z1, y1⟩ := blk_cell hM.out.b2 1 (.int .i64 0) rfl
          obtain ⟨z2, y2⟩ := blk_cell hM.out.b2 2 (.int .i64 0) rfl
          obtain ⟨z3, y3⟩ := blk_cell hM.out.b2 3 (.slice none 0 0) rfl
          obtain ⟨z4, y4⟩ := blk_cell hM.out.b2 4 (.int .i64 0) rfl
          have hBf : B = false := by rw [HB.out, HPF.out]; rfl
          subst hBf
          go_wp2_with fail
          go_region_law (first | fail)
          all_goals
            have HF2 : Hid (Mk2 w (((((wr.setCell ⟨w.heap.size, 0, none⟩ (.string nm)).setCell ⟨w.heap.size, 1, none⟩ (.int .i64 0)).setCell ⟨w.heap.size, 2, none⟩ (.int .i64 cnt)).setCell ⟨w.heap.size, 3, none⟩ (.slice qj j cj)).setCell ⟨w.heap.size, 4, none⟩ (.int .i64 rs)) w.heap.size p3 (ev nm 0 cnt (.slice qj j cj) rs) (ev nm 0 cnt (.slice qj j cj) rs) 43) := ((((hM.out.res 0 _).res 1 _).res 2 _).res 3 _).res 4 _
            have hOF : Hid ((((((wr.setCell ⟨w.heap.size, 0, none⟩ (.string nm)).setCell ⟨w.heap.size, 1, none⟩ (.int .i64 0)).setCell ⟨w.heap.size, 2, none⟩ (.int .i64 cnt)).setCell ⟨w.heap.size, 3, none⟩ (.slice qj j cj)).setCell ⟨w.heap.size, 4, none⟩ (.int .i64 rs)).ownsRow w.heap.size 41 1 (.slice qj SO.length cj) SO.length (sv SO)) :=
              own_setB (own_setB (own_setB (own_setB (own_setB hO'.out hM.out.b2 (by decide) _) (hM.out.res 0 _).b2 (by decide) _) ((hM.out.res 0 _).res 1 _).b2 (by decide) _) (((hM.out.res 0 _).res 1 _).res 2 _).b2 (by decide) _) ((((hM.out.res 0 _).res 1 _).res 2 _).res 3 _).b2 (by decide) _
            have HF3 : Hid (Mk2 w (((((wr.setCell ⟨w.heap.size, 0, none⟩ (.string nm)).setCell ⟨w.heap.size, 1, none⟩ (.int .i64 0)).setCell ⟨w.heap.size, 2, none⟩ (.int .i64 cnt)).setCell ⟨w.heap.size, 3, none⟩ (.slice qj j cj)).setCell ⟨w.heap.size, 4, none⟩ (.int .i64 rs)).drew w.heap.size p3 (ev nm 0 cnt (.slice qj j cj) rs) (ev nm 0 cnt (.slice qj j cj) rs) 43) := HF2.out.next (Below.refl _ _).drew
            have hOG : Hid ((((((wr.setCell ⟨w.heap.size, 0, none⟩ (.string nm)).setCell ⟨w.heap.size, 1, none⟩ (.int .i64 0)).setCell ⟨w.heap.size, 2, none⟩ (.int .i64 cnt)).setCell ⟨w.heap.size, 3, none⟩ (.slice qj j cj)).setCell ⟨w.heap.size, 4, none⟩ (.int .i64 rs)).drew.ownsRow w.heap.size 41 1 (.slice qj SO.length cj) SO.length (sv SO)) := own_next hOF.out (Below.refl _ _).drew
            clear HF2 hOF
            generalize (((((wr.setCell ⟨w.heap.size, 0, none⟩ (.string nm)).setCell ⟨w.heap.size, 1, none⟩ (.int .i64 0)).setCell ⟨w.heap.size, 2, none⟩ (.int .i64 cnt)).setCell ⟨w.heap.size, 3, none⟩ (.slice qj j cj)).setCell ⟨w.heap.size, 4, none⟩ (.int .i64 rs)).drew = WF at HF3 hOG ⊢
            obtain ⟨k0, -⟩ := blk_cell HF3.out.b2 0 (.string nm) rfl
            obtain ⟨k1, -⟩ := blk_cell HF3.out.b2 1 (.int .i64 0) rfl
            obtain ⟨k2, -⟩ := blk_cell HF3.out.b2 2 (.int .i64 cnt) rfl
            obtain ⟨k3, -⟩ := blk_cell HF3.out.b2 3 (.slice qj j cj) rfl
            obtain ⟨k4, -⟩ := blk_cell HF3.out.b2 4 (.int .i64 rs) rfl
            go_wp2
            first | (change bodyPost Tryz.prog Tryz.f73 _ Exit.ret _ _) | (simp only [Exit.noGoto]) | skip
            refine bodyPost_ret (v := .tuple #[.agg (ev nm 0 cnt (.slice qj j cj) rs), .bool false]) (by simp [results, Tryz.results73, go_sem, k0, k1, k2, k3, k4]) rfl ⟨nm, cnt, rs, qj, j, cj, by rfl, ⟨SO, HSL.out.symm, hOG.out, ?_⟩, HF3.out.b⟩
            intro t e
            rw [HPF.out] at e
            cases e
        obtain ⟨g2, p2, hq4, hg2, cw⟩ := HDH.out.at j (by exact hlt)
        have bd : Below wr.heap.size wr wr.drew := (Below.refl _ wr).drew
        have cw' : wr.cell? ⟨g2, p2 + j, none⟩ = some (.string (YtcjnejdemfemfaaGreatDoor.bk (wAt ws4 j))) := (hM.out.b.cell (p := ⟨g2, p2 + j, none⟩) hg2).trans cw
        have n2 := sort_v (YtcjnejdemfemfaaGreatDoor.bk (wAt ws4 j)) wr.drew (HT.out.next (below2 hM.out.b bd))
        rw [show lt (YtcjnejdemfemfaaGreatDoor.bk (wAt ws4 j)) = wAt ws4 j from bk_data _] at n2
        have HS1 : Hid (SO.take (j + 1) = SO.take j ++ [rdSort (wAt ws4 j)]) := HSj.out j hlt
        generalize YtcjnejdemfemfaaGreatDoor.bk (wAt ws4 j) = xw at *
        generalize rdSort (wAt ws4 j) = vr at *
        have hMd := hM.out.next bd
        have hOd := own_next hO.out bd
        have HW8 : Hid (∀ W8, W8 = wr.drew → Mk2 w W8 w.heap.size p3 (ev e0 0 0 (.slice none 0 0) 0) (ev nm 0 cnt (.slice qj j cj) rs) 43 ∧ W8.ownsRow w.heap.size 41 1 (.slice qj j cj) j (sv (SO.take j))) := fun W8 e => by subst e; exact ⟨hMd, hOd⟩
        obtain ⟨x3, -⟩ := blk_cell hM.out.b3 3 (.slice qj j cj) rfl
        have HWA : Hid (∀ W8 W9, Mk2 w W8 w.heap.size p3 (ev e0 0 0 (.slice none 0 0) 0) (ev nm 0 cnt (.slice qj j cj) rs) 43 → W8.ownsRow w.heap.size 41 1 (.slice qj j cj) j (sv (SO.take j)) → (W8.alloc (.cells #[.int .i64 vr] 41)).grownBy W9 (Value.slice qj j cj).ownBlock → Mk2 w W9 w.heap.size p3 (ev e0 0 0 (.slice none 0 0) 0) (ev nm 0 cnt (.slice qj j cj) rs) 43) := fun W8 W9 hm ho hg => by
          refine (hm.next ((Below.refl _ W8).alloc (Nat.le_refl _) _)).grown hg (fun g hg' => ⟨own_ge ho g hg', fun e => ?_, fun e => ?_⟩)
          · subst e; exact own_ne ho (b := w.heap.size) (t := 43) (m := 5) ⟨_, hm.b2, Nat.le_refl _⟩ (by decide) hg'
          · subst e; exact own_ne ho (b := g) (t := 43) (m := 5) ⟨_, hm.b3, Nat.le_refl _⟩ (by decide) hg'
        have H1 : Hid (∀ u ∈ ([.int .i64 vr] : List Value), u.oneCell' = true) := fun u hu => by obtain rfl := List.mem_singleton.1 hu; rfl
        have j0 : (j : Int) < (m4 : Int) := by omega
        subst hq4
        clear bd hMd hOd hM hO cw hg2 HSj HT HDH
        go_wp2_with fail
        go_region_law (first
          | (refine step_call (by rfl) 90 [.tmp 50] #[9] [.string xw] (by rfl) (by rfl) (calls _) _ n2 ?_; rintro v8 W8 ⟨rfl, hw8⟩; obtain ⟨m8, o8⟩ := HW8.out W8 hw8.out; obtain ⟨x8, -⟩ := blk_cell m8.b3 3 (.slice qj j cj) rfl; obtain ⟨x8a, -⟩ := blk_cell (m8.next ((Below.refl _ W8).alloc (Nat.le_refl _) (.cells #[.int .i64 vr] 41))).b3 3 (.slice qj j cj) rfl)
          | (refine step_app 40 41 _ 1 8 Tryz.underlying40 infoSort (by rfl) (by decide) (by decide) (by rfl) _ _ (by rfl) w.heap.size (.slice qj j cj) j (sv (SO.take j)) (by rfl) (own_next o8 ((Below.refl _ W8).alloc (Nat.le_refl _) _)) W8.heap.size [.int .i64 vr] rfl H1.out (by rfl) (range_new W8 _ _) (by omega) (by have := m8.b.size; simp; omega) ?_; intro v9 W9 ho9 hg9; have m9 := HWA.out W8 W9 m8 o8 hg9.out.1; obtain ⟨x9, y9⟩ := blk_cell m9.b3 3 (.slice qj j cj) rfl; obtain ⟨q9, c9, rfl, -, -⟩ := own_slice ho9.out))
        all_goals
          have HM10 : Hid (Mk2 w (W9.setCell ⟨p3, 3, none⟩ (.slice q9 (j + 1) c9)) w.heap.size p3 (ev e0 0 0 (.slice none 0 0) 0) (ev nm 0 cnt (.slice q9 (j + 1) c9) rs) 43) := m9.set 3 _
          have hO10 : Hid ((W9.setCell ⟨p3, 3, none⟩ (.slice q9 (j + 1) c9)).ownsRow w.heap.size 41 1 (.slice q9 (j + 1) c9) (j + 1) (sv (SO.take j) ++ [.int .i64 vr])) := own_setB ho9.out m9.b3 (by decide) _
          clear m9 ho9 hg9 x8 x8a x9 y9 m8 o8 hw8 HWA HW8 n2 x3
          generalize W9.setCell ⟨p3, 3, none⟩ (.slice q9 (j + 1) c9) = W10 at *
          go_wp2
          exact ⟨⟨j + 1, q9, c9, by omega, by go_num, HM10, by rw [HS1.out, sv_app]; exact hO10⟩, by simp [intOf]; omega⟩
    | true =>
      by_cases hr0 : rs = 0
      · have f5 : (rs != 0) = false := by simp [hr0]
        have HPF : Hid (R = none) := (HOK2.out false (by simp [hr0])).2 rfl
        clear HOK2 hr0
        go_upto_region 8 with fail
        try rw [f5]
        clear f4
        go_wp2_with fail
        go_loopw [44] (fun i wr => ∃ (j : Nat) (qj : Option Addr) (cj : Nat), j ≤ m4 ∧ i = .int .i64 (j : Int) ∧ Hid (Mk2 w wr w.heap.size p3 (ev e0 0 0 (.slice none 0 0) 0) (ev nm 0 cnt (.slice qj j cj) rs) 43) ∧ Hid (wr.ownsRow w.heap.size 41 1 (.slice qj j cj) j (sv (SO.take j)))) (fun i _ => m4 - (intOf i).toNat)
        case atStart => exact ⟨0, none, 0, Nat.zero_le _, rfl, HMW, by rw [List.take_zero]; exact World.ownsRow_nil _ _ _ _⟩
        case round =>
          clear HMW
          obtain ⟨j, qj, cj, hj, rfl, hM, hO⟩ := hrel
          by_cases hlt : j < m4
          case neg =>
            obtain rfl : j = m4 := by omega
            have hO' : Hid (wr.ownsRow w.heap.size 41 1 (.slice qj SO.length cj) SO.length (sv SO)) := by
              have e := hO.out
              rw [List.take_of_length_le (by rw [HSL.out]; exact Nat.le_refl _)] at e
              rw [HSL.out]
              exact e
            clear hO
            obtain ⟨d0, -⟩ := blk_cell hM.out.b3 0 (.string nm) rfl
            obtain ⟨d1, -⟩ := blk_cell hM.out.b3 1 (.int .i64 0) rfl
            obtain ⟨d2, -⟩ := blk_cell hM.out.b3 2 (.int .i64 cnt) rfl
            obtain ⟨d3, -⟩ := blk_cell hM.out.b3 3 (.slice qj j cj) rfl
            obtain ⟨d4, -⟩ := blk_cell hM.out.b3 4 (.int .i64 rs) rfl
            obtain ⟨z0, y0⟩ := blk_cell hM.out.b2 0 (.string e0) rfl
            obtain ⟨z1, y1⟩ := blk_cell hM.out.b2 1 (.int .i64 0) rfl
            obtain ⟨z2, y2⟩ := blk_cell hM.out.b2 2 (.int .i64 0) rfl
            obtain ⟨z3, y3⟩ := blk_cell hM.out.b2 3 (.slice none 0 0) rfl
            obtain ⟨z4, y4⟩ := blk_cell hM.out.b2 4 (.int .i64 0) rfl
            have hBf : B = false := by rw [HB.out, HPF.out]; rfl
            subst hBf
            go_wp2_with fail
            go_region_law (first | fail)
            all_goals
              have HF2 : Hid (Mk2 w (((((wr.setCell ⟨w.heap.size, 0, none⟩ (.string nm)).setCell ⟨w.heap.size, 1, none⟩ (.int .i64 0)).setCell ⟨w.heap.size, 2, none⟩ (.int .i64 cnt)).setCell ⟨w.heap.size, 3, none⟩ (.slice qj j cj)).setCell ⟨w.heap.size, 4, none⟩ (.int .i64 rs)) w.heap.size p3 (ev nm 0 cnt (.slice qj j cj) rs) (ev nm 0 cnt (.slice qj j cj) rs) 43) := ((((hM.out.res 0 _).res 1 _).res 2 _).res 3 _).res 4 _
              have hOF : Hid ((((((wr.setCell ⟨w.heap.size, 0, none⟩ (.string nm)).setCell ⟨w.heap.size, 1, none⟩ (.int .i64 0)).setCell ⟨w.heap.size, 2, none⟩ (.int .i64 cnt)).setCell ⟨w.heap.size, 3, none⟩ (.slice qj j cj)).setCell ⟨w.heap.size, 4, none⟩ (.int .i64 rs)).ownsRow w.heap.size 41 1 (.slice qj SO.length cj) SO.length (sv SO)) :=
                own_setB (own_setB (own_setB (own_setB (own_setB hO'.out hM.out.b2 (by decide) _) (hM.out.res 0 _).b2 (by decide) _) ((hM.out.res 0 _).res 1 _).b2 (by decide) _) (((hM.out.res 0 _).res 1 _).res 2 _).b2 (by decide) _) ((((hM.out.res 0 _).res 1 _).res 2 _).res 3 _).b2 (by decide) _
              have HF3 : Hid (Mk2 w (((((wr.setCell ⟨w.heap.size, 0, none⟩ (.string nm)).setCell ⟨w.heap.size, 1, none⟩ (.int .i64 0)).setCell ⟨w.heap.size, 2, none⟩ (.int .i64 cnt)).setCell ⟨w.heap.size, 3, none⟩ (.slice qj j cj)).setCell ⟨w.heap.size, 4, none⟩ (.int .i64 rs)).drew w.heap.size p3 (ev nm 0 cnt (.slice qj j cj) rs) (ev nm 0 cnt (.slice qj j cj) rs) 43) := HF2.out.next (Below.refl _ _).drew
              have hOG : Hid ((((((wr.setCell ⟨w.heap.size, 0, none⟩ (.string nm)).setCell ⟨w.heap.size, 1, none⟩ (.int .i64 0)).setCell ⟨w.heap.size, 2, none⟩ (.int .i64 cnt)).setCell ⟨w.heap.size, 3, none⟩ (.slice qj j cj)).setCell ⟨w.heap.size, 4, none⟩ (.int .i64 rs)).drew.ownsRow w.heap.size 41 1 (.slice qj SO.length cj) SO.length (sv SO)) := own_next hOF.out (Below.refl _ _).drew
              clear HF2 hOF
              generalize (((((wr.setCell ⟨w.heap.size, 0, none⟩ (.string nm)).setCell ⟨w.heap.size, 1, none⟩ (.int .i64 0)).setCell ⟨w.heap.size, 2, none⟩ (.int .i64 cnt)).setCell ⟨w.heap.size, 3, none⟩ (.slice qj j cj)).setCell ⟨w.heap.size, 4, none⟩ (.int .i64 rs)).drew = WF at HF3 hOG ⊢
              obtain ⟨k0, -⟩ := blk_cell HF3.out.b2 0 (.string nm) rfl
              obtain ⟨k1, -⟩ := blk_cell HF3.out.b2 1 (.int .i64 0) rfl
              obtain ⟨k2, -⟩ := blk_cell HF3.out.b2 2 (.int .i64 cnt) rfl
              obtain ⟨k3, -⟩ := blk_cell HF3.out.b2 3 (.slice qj j cj) rfl
              obtain ⟨k4, -⟩ := blk_cell HF3.out.b2 4 (.int .i64 rs) rfl
              go_wp2
              first | (change bodyPost Tryz.prog Tryz.f73 _ Exit.ret _ _) | (simp only [Exit.noGoto]) | skip
              refine bodyPost_ret (v := .tuple #[.agg (ev nm 0 cnt (.slice qj j cj) rs), .bool false]) (by simp [results, Tryz.results73, go_sem, k0, k1, k2, k3, k4]) rfl ⟨nm, cnt, rs, qj, j, cj, by rfl, ⟨SO, HSL.out.symm, hOG.out, ?_⟩, HF3.out.b⟩
              intro t e
              rw [HPF.out] at e
              cases e
          obtain ⟨g2, p2, hq4, hg2, cw⟩ := HDH.out.at j (by exact hlt)
          have bd : Below wr.heap.size wr wr.drew := (Below.refl _ wr).drew
          have cw' : wr.cell? ⟨g2, p2 + j, none⟩ = some (.string (YtcjnejdemfemfaaGreatDoor.bk (wAt ws4 j))) := (hM.out.b.cell (p := ⟨g2, p2 + j, none⟩) hg2).trans cw
          have n2 := sort_v (YtcjnejdemfemfaaGreatDoor.bk (wAt ws4 j)) wr.drew (HT.out.next (below2 hM.out.b bd))
          rw [show lt (YtcjnejdemfemfaaGreatDoor.bk (wAt ws4 j)) = wAt ws4 j from bk_data _] at n2
          have HS1 : Hid (SO.take (j + 1) = SO.take j ++ [rdSort (wAt ws4 j)]) := HSj.out j hlt
          generalize YtcjnejdemfemfaaGreatDoor.bk (wAt ws4 j) = xw at *
          generalize rdSort (wAt ws4 j) = vr at *
          have hMd := hM.out.next bd
          have hOd := own_next hO.out bd
          have HW8 : Hid (∀ W8, W8 = wr.drew → Mk2 w W8 w.heap.size p3 (ev e0 0 0 (.slice none 0 0) 0) (ev nm 0 cnt (.slice qj j cj) rs) 43 ∧ W8.ownsRow w.heap.size 41 1 (.slice qj j cj) j (sv (SO.take j))) := fun W8 e => by subst e; exact ⟨hMd, hOd⟩
          obtain ⟨x3, -⟩ := blk_cell hM.out.b3 3 (.slice qj j cj) rfl
          have HWA : Hid (∀ W8 W9, Mk2 w W8 w.heap.size p3 (ev e0 0 0 (.slice none 0 0) 0) (ev nm 0 cnt (.slice qj j cj) rs) 43 → W8.ownsRow w.heap.size 41 1 (.slice qj j cj) j (sv (SO.take j)) → (W8.alloc (.cells #[.int .i64 vr] 41)).grownBy W9 (Value.slice qj j cj).ownBlock → Mk2 w W9 w.heap.size p3 (ev e0 0 0 (.slice none 0 0) 0) (ev nm 0 cnt (.slice qj j cj) rs) 43) := fun W8 W9 hm ho hg => by
            refine (hm.next ((Below.refl _ W8).alloc (Nat.le_refl _) _)).grown hg (fun g hg' => ⟨own_ge ho g hg', fun e => ?_, fun e => ?_⟩)
            · subst e; exact own_ne ho (b := w.heap.size) (t := 43) (m := 5) ⟨_, hm.b2, Nat.le_refl _⟩ (by decide) hg'
            · subst e; exact own_ne ho (b := g) (t := 43) (m := 5) ⟨_, hm.b3, Nat.le_refl _⟩ (by decide) hg'
          have H1 : Hid (∀ u ∈ ([.int .i64 vr] : List Value), u.oneCell' = true) := fun u hu => by obtain rfl := List.mem_singleton.1 hu; rfl
          have j0 : (j : Int) < (m4 : Int) := by omega
          subst hq4
          clear bd hMd hOd hM hO cw hg2 HSj HT HDH
          go_wp2_with fail
          go_region_law (first
            | (refine step_call (by rfl) 90 [.tmp 50] #[9] [.string xw] (by rfl) (by rfl) (calls _) _ n2 ?_; rintro v8 W8 ⟨rfl, hw8⟩; obtain ⟨m8, o8⟩ := HW8.out W8 hw8.out; obtain ⟨x8, -⟩ := blk_cell m8.b3 3 (.slice qj j cj) rfl; obtain ⟨x8a, -⟩ := blk_cell (m8.next ((Below.refl _ W8).alloc (Nat.le_refl _) (.cells #[.int .i64 vr] 41))).b3 3 (.slice qj j cj) rfl)
            | (refine step_app 40 41 _ 1 8 Tryz.underlying40 infoSort (by rfl) (by decide) (by decide) (by rfl) _ _ (by rfl) w.heap.size (.slice qj j cj) j (sv (SO.take j)) (by rfl) (own_next o8 ((Below.refl _ W8).alloc (Nat.le_refl _) _)) W8.heap.size [.int .i64 vr] rfl H1.out (by rfl) (range_new W8 _ _) (by omega) (by have := m8.b.size; simp; omega) ?_; intro v9 W9 ho9 hg9; have m9 := HWA.out W8 W9 m8 o8 hg9.out.1; obtain ⟨x9, y9⟩ := blk_cell m9.b3 3 (.slice qj j cj) rfl; obtain ⟨q9, c9, rfl, -, -⟩ := own_slice ho9.out))
          all_goals
            have HM10 : Hid (Mk2 w (W9.setCell ⟨p3, 3, none⟩ (.slice q9 (j + 1) c9)) w.heap.size p3 (ev e0 0 0 (.slice none 0 0) 0) (ev nm 0 cnt (.slice q9 (j + 1) c9) rs) 43) := m9.set 3 _
            have hO10 : Hid ((W9.setCell ⟨p3, 3, none⟩ (.slice q9 (j + 1) c9)).ownsRow w.heap.size 41 1 (.slice q9 (j + 1) c9) (j + 1) (sv (SO.take j) ++ [.int .i64 vr])) := own_setB ho9.out m9.b3 (by decide) _
            clear m9 ho9 hg9 x8 x8a x9 y9 m8 o8 hw8 HWA HW8 n2 x3
            generalize W9.setCell ⟨p3, 3, none⟩ (.slice q9 (j + 1) c9) = W10 at *
            go_wp2
            exact ⟨⟨j + 1, q9, c9, by omega, by go_num, HM10, by rw [HS1.out, sv_app]; exact hO10⟩, by simp [intOf]; omega⟩
      · have f5 : (rs != 0) = true := by simp [hr0]
        have HPT : Hid (R = if entS ⟨nm, 0, cnt, SO, rs⟩ then some ⟨nm, 0, cnt, SO, rs⟩ else none) := (HOK2.out true (by simp [hr0])).1 rfl
        clear HOK2 hr0
        go_upto_region 8 with fail
        try rw [f5]
        clear f4
        go_wp2_with fail
        go_loopw [44] (fun i wr => ∃ (j : Nat) (qj : Option Addr) (cj : Nat), j ≤ m4 ∧ i = .int .i64 (j : Int) ∧ Hid (Mk2 w wr w.heap.size p3 (ev e0 0 0 (.slice none 0 0) 0) (ev nm 0 cnt (.slice qj j cj) rs) 43) ∧ Hid (wr.ownsRow w.heap.size 41 1 (.slice qj j cj) j (sv (SO.take j)))) (fun i _ => m4 - (intOf i).toNat)
        case atStart => exact ⟨0, none, 0, Nat.zero_le _, rfl, HMW, by rw [List.take_zero]; exact World.ownsRow_nil _ _ _ _⟩
        case round =>
          clear HMW
          obtain ⟨j, qj, cj, hj, rfl, hM, hO⟩ := hrel
          by_cases hlt : j < m4
          case neg =>
            obtain rfl : j = m4 := by omega
            have hO' : Hid (wr.ownsRow w.heap.size 41 1 (.slice qj SO.length cj) SO.length (sv SO)) := by
              have e := hO.out
              rw [List.take_of_length_le (by rw [HSL.out]; exact Nat.le_refl _)] at e
              rw [HSL.out]
              exact e
            clear hO
            obtain ⟨d0, -⟩ := blk_cell hM.out.b3 0 (.string nm) rfl
            obtain ⟨d1, -⟩ := blk_cell hM.out.b3 1 (.int .i64 0) rfl
            obtain ⟨d2, -⟩ := blk_cell hM.out.b3 2 (.int .i64 cnt) rfl
            obtain ⟨d3, -⟩ := blk_cell hM.out.b3 3 (.slice qj j cj) rfl
            obtain ⟨d4, -⟩ := blk_cell hM.out.b3 4 (.int .i64 rs) rfl
            obtain ⟨z0, y0⟩ := blk_cell hM.out.b2 0 (.string e0) rfl
            obtain ⟨z1, y1⟩ := blk_cell hM.out.b2 1 (.int .i64 0) rfl
            obtain ⟨z2, y2⟩ := blk_cell hM.out.b2 2 (.int .i64 0) rfl
            obtain ⟨z3, y3⟩ := blk_cell hM.out.b2 3 (.slice none 0 0) rfl
            obtain ⟨z4, y4⟩ := blk_cell hM.out.b2 4 (.int .i64 0) rfl
            have bd : Below wr.heap.size wr wr.drew := (Below.refl _ wr).drew
            have n3 : Calls Tryz.prog 68 #[.agg (ev nm 0 cnt (.slice qj j cj) rs)] wr.drew fun e w' => ∃ v, e = .returned v ∧ (v = .bool (entS ⟨nm, 0, cnt, SO, rs⟩) ∧ Hid (Below wr.drew.heap.size wr.drew w')) := by
              have e1 := entry_any (⟨nm, 0, cnt, SO, rs⟩, qj, cj) wr.drew (HT.out.next (below2 hM.out.b bd)) (row_of_own (own_next hO'.out bd)) (Nat.le_trans HnN.out (by decide)) (by have := HSL.out; show SO.length ≤ _; omega)
              have e2 : (ec (⟨nm, 0, cnt, SO, rs⟩, qj, cj)).toArray = (ev nm 0 cnt (.slice qj j cj) rs) := by show #[_, _, _, Value.slice qj SO.length cj, _] = _; rw [HSL.out]
              rw [e2] at e1
              exact e1.mono fun _ _ ⟨a, b⟩ => ⟨_, a, rfl, b⟩
            have HW8 : Hid (∀ W8, Below wr.drew.heap.size wr.drew W8 → Mk2 w W8 w.heap.size p3 (ev e0 0 0 (.slice none 0 0) 0) (ev nm 0 cnt (.slice qj j cj) rs) 43 ∧ W8.ownsRow w.heap.size 41 1 (.slice qj SO.length cj) SO.length (sv SO)) := fun W8 hb => ⟨hM.out.next (below2 bd hb), own_next hO'.out (below2 bd hb)⟩
            generalize entS ⟨nm, 0, cnt, SO, rs⟩ = EB at *
            have hBE : B = EB := by rw [HB.out, HPT.out]; cases EB <;> rfl
            subst hBE
            clear bd
            go_wp2_with fail
            go_region_law (first
              | (refine step_callw (by rfl) 68 [.tmp 59] #[43] [.agg (ev nm 0 cnt (.slice qj j cj) rs)] (by rfl) (by rfl) (callm _) _ n3 ?_; rintro v8 W8 ⟨rfl, hb8⟩; obtain ⟨m8, o8⟩ := HW8.out W8 hb8.out; have M8 : Hid (Mk2 w W8 w.heap.size p3 (ev e0 0 0 (.slice none 0 0) 0) (ev nm 0 cnt (.slice qj j cj) rs) 43) := m8; obtain ⟨g0, -⟩ := blk_cell m8.b3 0 (.string nm) rfl; obtain ⟨g1, -⟩ := blk_cell m8.b3 1 (.int .i64 0) rfl; obtain ⟨g2, -⟩ := blk_cell m8.b3 2 (.int .i64 cnt) rfl; obtain ⟨g3, -⟩ := blk_cell m8.b3 3 (.slice qj j cj) rfl; obtain ⟨g4, -⟩ := blk_cell m8.b3 4 (.int .i64 rs) rfl; obtain ⟨v0, h0⟩ := blk_cell m8.b2 0 (.string e0) rfl; obtain ⟨v1, h1⟩ := blk_cell m8.b2 1 (.int .i64 0) rfl; obtain ⟨v2, h2⟩ := blk_cell m8.b2 2 (.int .i64 0) rfl; obtain ⟨v3, h3⟩ := blk_cell m8.b2 3 (.slice none 0 0) rfl; obtain ⟨v4, h4⟩ := blk_cell m8.b2 4 (.int .i64 0) rfl))
            all_goals
              have HF2 : Hid (Mk2 w (((((W8.setCell ⟨w.heap.size, 0, none⟩ (.string nm)).setCell ⟨w.heap.size, 1, none⟩ (.int .i64 0)).setCell ⟨w.heap.size, 2, none⟩ (.int .i64 cnt)).setCell ⟨w.heap.size, 3, none⟩ (.slice qj j cj)).setCell ⟨w.heap.size, 4, none⟩ (.int .i64 rs)) w.heap.size p3 (ev nm 0 cnt (.slice qj j cj) rs) (ev nm 0 cnt (.slice qj j cj) rs) 43) := ((((M8.out.res 0 _).res 1 _).res 2 _).res 3 _).res 4 _
              have hOF : Hid ((((((W8.setCell ⟨w.heap.size, 0, none⟩ (.string nm)).setCell ⟨w.heap.size, 1, none⟩ (.int .i64 0)).setCell ⟨w.heap.size, 2, none⟩ (.int .i64 cnt)).setCell ⟨w.heap.size, 3, none⟩ (.slice qj j cj)).setCell ⟨w.heap.size, 4, none⟩ (.int .i64 rs)).ownsRow w.heap.size 41 1 (.slice qj SO.length cj) SO.length (sv SO)) :=
                own_setB (own_setB (own_setB (own_setB (own_setB o8 M8.out.b2 (by decide) _) (M8.out.res 0 _).b2 (by decide) _) ((M8.out.res 0 _).res 1 _).b2 (by decide) _) (((M8.out.res 0 _).res 1 _).res 2 _).b2 (by decide) _) ((((M8.out.res 0 _).res 1 _).res 2 _).res 3 _).b2 (by decide) _
              have HF3 := HF2
              have hOG := hOF
              clear HF2 hOF
              generalize (((((W8.setCell ⟨w.heap.size, 0, none⟩ (.string nm)).setCell ⟨w.heap.size, 1, none⟩ (.int .i64 0)).setCell ⟨w.heap.size, 2, none⟩ (.int .i64 cnt)).setCell ⟨w.heap.size, 3, none⟩ (.slice qj j cj)).setCell ⟨w.heap.size, 4, none⟩ (.int .i64 rs)) = WF at HF3 hOG ⊢
              obtain ⟨k0, -⟩ := blk_cell HF3.out.b2 0 (.string nm) rfl
              obtain ⟨k1, -⟩ := blk_cell HF3.out.b2 1 (.int .i64 0) rfl
              obtain ⟨k2, -⟩ := blk_cell HF3.out.b2 2 (.int .i64 cnt) rfl
              obtain ⟨k3, -⟩ := blk_cell HF3.out.b2 3 (.slice qj j cj) rfl
              obtain ⟨k4, -⟩ := blk_cell HF3.out.b2 4 (.int .i64 rs) rfl
              go_wp2
              first | (change bodyPost Tryz.prog Tryz.f73 _ Exit.ret _ _) | (simp only [Exit.noGoto]) | skip
              refine bodyPost_ret (v := .tuple #[.agg (ev nm 0 cnt (.slice qj j cj) rs), .bool B]) (by simp [results, Tryz.results73, go_sem, k0, k1, k2, k3, k4]) rfl ⟨nm, cnt, rs, qj, j, cj, by rfl, ⟨SO, HSL.out.symm, hOG.out, ?_⟩, HF3.out.b⟩
              intro t e
              rw [HPT.out] at e
              cases B with
              | false => cases e
              | true => cases e; rfl
          obtain ⟨g2, p2, hq4, hg2, cw⟩ := HDH.out.at j (by exact hlt)
          have bd : Below wr.heap.size wr wr.drew := (Below.refl _ wr).drew
          have cw' : wr.cell? ⟨g2, p2 + j, none⟩ = some (.string (YtcjnejdemfemfaaGreatDoor.bk (wAt ws4 j))) := (hM.out.b.cell (p := ⟨g2, p2 + j, none⟩) hg2).trans cw
          have n2 := sort_v (YtcjnejdemfemfaaGreatDoor.bk (wAt ws4 j)) wr.drew (HT.out.next (below2 hM.out.b bd))
          rw [show lt (YtcjnejdemfemfaaGreatDoor.bk (wAt ws4 j)) = wAt ws4 j from bk_data _] at n2
          have HS1 : Hid (SO.take (j + 1) = SO.take j ++ [rdSort (wAt ws4 j)]) := HSj.out j hlt
          generalize YtcjnejdemfemfaaGreatDoor.bk (wAt ws4 j) = xw at *
          generalize rdSort (wAt ws4 j) = vr at *
          have hMd := hM.out.next bd
          have hOd := own_next hO.out bd
          have HW8 : Hid (∀ W8, W8 = wr.drew → Mk2 w W8 w.heap.size p3 (ev e0 0 0 (.slice none 0 0) 0) (ev nm 0 cnt (.slice qj j cj) rs) 43 ∧ W8.ownsRow w.heap.size 41 1 (.slice qj j cj) j (sv (SO.take j))) := fun W8 e => by subst e; exact ⟨hMd, hOd⟩
          obtain ⟨x3, -⟩ := blk_cell hM.out.b3 3 (.slice qj j cj) rfl
          have HWA : Hid (∀ W8 W9, Mk2 w W8 w.heap.size p3 (ev e0 0 0 (.slice none 0 0) 0) (ev nm 0 cnt (.slice qj j cj) rs) 43 → W8.ownsRow w.heap.size 41 1 (.slice qj j cj) j (sv (SO.take j)) → (W8.alloc (.cells #[.int .i64 vr] 41)).grownBy W9 (Value.slice qj j cj).ownBlock → Mk2 w W9 w.heap.size p3 (ev e0 0 0 (.slice none 0 0) 0) (ev nm 0 cnt (.slice qj j cj) rs) 43) := fun W8 W9 hm ho hg => by
            refine (hm.next ((Below.refl _ W8).alloc (Nat.le_refl _) _)).grown hg (fun g hg' => ⟨own_ge ho g hg', fun e => ?_, fun e => ?_⟩)
            · subst e; exact own_ne ho (b := w.heap.size) (t := 43) (m := 5) ⟨_, hm.b2, Nat.le_refl _⟩ (by decide) hg'
            · subst e; exact own_ne ho (b := g) (t := 43) (m := 5) ⟨_, hm.b3, Nat.le_refl _⟩ (by decide) hg'
          have H1 : Hid (∀ u ∈ ([.int .i64 vr] : List Value), u.oneCell' = true) := fun u hu => by obtain rfl := List.mem_singleton.1 hu; rfl
          have j0 : (j : Int) < (m4 : Int) := by omega
          subst hq4
          clear bd hMd hOd hM hO cw hg2 HSj HT HDH
          go_wp2_with fail
          go_region_law (first
            | (refine step_call (by rfl) 90 [.tmp 50] #[9] [.string xw] (by rfl) (by rfl) (calls _) _ n2 ?_; rintro v8 W8 ⟨rfl, hw8⟩; obtain ⟨m8, o8⟩ := HW8.out W8 hw8.out; obtain ⟨x8, -⟩ := blk_cell m8.b3 3 (.slice qj j cj) rfl; obtain ⟨x8a, -⟩ := blk_cell (m8.next ((Below.refl _ W8).alloc (Nat.le_refl _) (.cells #[.int .i64 vr] 41))).b3 3 (.slice qj j cj) rfl)
            | (refine step_app 40 41 _ 1 8 Tryz.underlying40 infoSort (by rfl) (by decide) (by decide) (by rfl) _ _ (by rfl) w.heap.size (.slice qj j cj) j (sv (SO.take j)) (by rfl) (own_next o8 ((Below.refl _ W8).alloc (Nat.le_refl _) _)) W8.heap.size [.int .i64 vr] rfl H1.out (by rfl) (range_new W8 _ _) (by omega) (by have := m8.b.size; simp; omega) ?_; intro v9 W9 ho9 hg9; have m9 := HWA.out W8 W9 m8 o8 hg9.out.1; obtain ⟨x9, y9⟩ := blk_cell m9.b3 3 (.slice qj j cj) rfl; obtain ⟨q9, c9, rfl, -, -⟩ := own_slice ho9.out))
          all_goals
            have HM10 : Hid (Mk2 w (W9.setCell ⟨p3, 3, none⟩ (.slice q9 (j + 1) c9)) w.heap.size p3 (ev e0 0 0 (.slice none 0 0) 0) (ev nm 0 cnt (.slice q9 (j + 1) c9) rs) 43) := m9.set 3 _
            have hO10 : Hid ((W9.setCell ⟨p3, 3, none⟩ (.slice q9 (j + 1) c9)).ownsRow w.heap.size 41 1 (.slice q9 (j + 1) c9) (j + 1) (sv (SO.take j) ++ [.int .i64 vr])) := own_setB ho9.out m9.b3 (by decide) _
            clear m9 ho9 hg9 x8 x8a x9 y9 m8 o8 hw8 HWA HW8 n2 x3
            generalize W9.setCell ⟨p3, 3, none⟩ (.slice q9 (j + 1) c9) = W10 at *
            go_wp2
            exact ⟨⟨j + 1, q9, c9, by omega, by go_num, HM10, by rw [HS1.out, sv_app]; exact hO10⟩, by simp [intOf]; omega⟩
end Go.Proofs.YtcjnejdemfemfaaGreatDoor

