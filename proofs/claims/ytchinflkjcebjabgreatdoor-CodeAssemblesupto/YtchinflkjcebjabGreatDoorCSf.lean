import Derived.Test.YtchinflkjcebjabGreatDoorCS1
namespace Go.Proofs.YtchinflkjcebjabGreatDoor
open Go.RowKit

theorem parse_ok (s : ByteArray) (w : World) (hs : s.size ≤ 281474976710656) (v : Int) (h : Lib.parseIntB 64 (lt s) = .ok v) :
    Calls Tryz.prog 117 #[.string s, .int .i64 10, .int .i64 64] w fun e w' => e = .returned (.tuple #[.int .i64 v, .nilIface]) ∧ Below w.heap.size w w' := by
  refine (Tryz.strconv_ParseInt_10_at64_ok s (by omega) v h w).mono ?_
  rintro e w' ⟨rfl, hw | ⟨t, hw⟩⟩
  · subst hw; exact ⟨rfl, Below.refl _ _⟩
  · subst hw; exact ⟨rfl, Lib.bytesWorld_below _ _ _⟩
theorem parse_no (s : ByteArray) (w : World) (hs : s.size ≤ 281474976710656) (ht : Tabs w) (h : ∀ v, Lib.parseIntB 64 (lt s) ≠ .ok v) :
    Calls Tryz.prog 117 #[.string s, .int .i64 10, .int .i64 64] w fun e w' => (∃ u t N, e = .returned (.tuple #[.int .i64 u, .iface t (.pointer (some ⟨N, 0, none⟩))])) ∧ Below w.heap.size w w' := by
  obtain ⟨t1, p1, h1⟩ := ht.syn
  obtain ⟨t2, p2, h2⟩ := ht.rng
  cases hp : Lib.parseIntB 64 (lt s) with
  | ok v => exact absurd hp (h v)
  | «syntax» =>
    refine (Tryz.strconv_ParseInt_10_at64_syntax s (by omega) hp _ w h1 (Or.inr ⟨_, _, rfl⟩)).mono ?_
    rintro e w' ⟨N, rfl, _, _, hb⟩
    exact ⟨⟨_, _, _, rfl⟩, hb⟩
  | range =>
    refine (Tryz.strconv_ParseInt_10_at64_range s (by omega) hp _ w h2 (Or.inr ⟨_, _, rfl⟩)).mono ?_
    rintro e w' ⟨N, rfl, _, _, hb⟩
    exact ⟨⟨_, _, _, rfl⟩, hb⟩
theorem seekO_s (o : Nat) (w : Bs) (k : Nat) (n : Int) : seekO o w (k + 1) n = if mayS o n && opW o n == w then some n else seekO o w k (n + 1) := rfl
set_option maxRecDepth 100000 in
set_option maxHeartbeats 2000000 in
theorem readT_any (o : Nat) (s : ByteArray) (w : World) (ht : Tabs w) (ho : o = 2 ∨ o = 5 ∨ o = 6 ∨ o = 9) :
    Calls Tryz.prog 98 #[.int .i64 (o : Int), .string s] w fun e w' => ∃ n' : Int, e = .returned (.tuple #[.int .i64 n', .bool (readO o (lt s)).isSome]) ∧ Hid ((∀ n, readO o (lt s) = some n → n' = n) ∧ Below w.heap.size w w') := by
  have hR : readO o (lt s) = seekO o (lt s) (shHi.getD o 0 - shLo.getD o 0 + 1).toNat (shLo.getD o 0) := by
    unfold readO
    rw [if_pos]
    rcases ho with rfl | rfl | rfl | rfl <;> rfl
  have hbd : 0 ≤ shLo.getD o 0 ∧ shLo.getD o 0 ≤ shHi.getD o 0 ∧ shHi.getD o 0 ≤ 1000 := by rcases ho with rfl | rfl | rfl | rfl <;> decide
  have ho' : o < 13 := by omega
  obtain ⟨c0, c1, -⟩ := ht.shp o ho'
  have HC : Hid (∀ W : World, Below w.heap.size w W → W.cell? ⟨1, o * 3 + 1, none⟩ = some (.int .i64 (shHi.getD o 0))) := fun W hb => ((ht.next hb).shp o ho').2.1
  have HM : Hid (∀ (n : Int) (W : World), Below w.heap.size w W → Calls Tryz.prog 107 #[.int .i64 (o : Int), .int .i64 n] W fun e w' => e = .returned (.bool (mayS o n)) ∧ Below W.heap.size W w') := fun n W hb => mayBe_any o n W ho' (ht.next hb)
  have HW : Hid (∀ (n : Int) (W : World), mayS o n = true → 0 ≤ n → n ≤ 1000 → Below w.heap.size w W → Calls Tryz.prog 29 #[.int .i64 (o : Int), .int .i64 n] W fun e w' => e = .returned (.string (YtchinflkjcebjabGreatDoor.bk (opW o n))) ∧ Below W.heap.size W w') := fun n W hm h0 h1 hb => word_any o n W ho' hm (ht.next hb) (by omega) (by omega)
  have key : (((o : Int) == 2) = true) ∨ ((((o : Int) == 2) = false) ∧ ((o : Int) == 5) = true) ∨ ((((o : Int) == 2) = false) ∧ (((o : Int) == 5) = false) ∧ ((o : Int) == 6) = true) ∨ ((((o : Int) == 2) = false) ∧ (((o : Int) == 5) = false) ∧ (((o : Int) == 6) = false) ∧ ((o : Int) == 9) = true) := by
    rcases ho with rfl | rfl | rfl | rfl <;> decide
  have i0 : (0 : Int) ≤ (o : Int) := by omega
  have i1 : (o : Int) < 13 := by omega
  obtain ⟨R, HR⟩ : ∃ R, Hid (R = readO o (lt s)) := ⟨_, rfl⟩
  rw [← HR.out] at hR ⊢
  obtain ⟨B, HB⟩ : ∃ B : Bool, Hid (B = R.isSome) := ⟨_, rfl⟩
  rw [← HB.out]
  have HS : Hid (R = seekO o (lt s) (shHi.getD o 0 - shLo.getD o 0 + 1).toNat (shLo.getD o 0)) := hR
  clear hR HR ht ho ho'
  generalize shLo.getD o 0 = lo at *
  generalize shHi.getD o 0 = hi at *
  obtain ⟨l0, l1, l2⟩ := hbd
  go_enter Tryz.func98, Tryz.ntmps98
  rcases key with t2 | ⟨t2, t5⟩ | ⟨t2, t5, t6⟩ | ⟨t2, t5, t6, t9⟩
  all_goals
    go_wp2
    go_loopw [6] (fun v wr => ∃ (k : Nat) (n : Int), v = .int .i64 n ∧ lo ≤ n ∧ n + (k : Int) = hi + 1 ∧ Hid (seekO o (lt s) k n = R) ∧ Hid (Below w.heap.size w wr)) (fun v _ => (hi + 1 - intOf v).toNat)
    case atStart => exact ⟨(hi - lo + 1).toNat, lo, rfl, by omega, by omega, HS.out.symm, Below.refl _ _⟩
    case round =>
      obtain ⟨k, n, rfl, hn0, hnk, hI, hbw⟩ := hrel
      have c1' := HC.out wr hbw.out
      by_cases hlt : n ≤ hi
      case neg =>
        have HF : Hid (R = none) := by
          show R = none
          rw [← hI.out]
          obtain rfl : k = 0 := by omega
          rfl
        have hBf : B = false := by rw [HB.out, HF.out]; rfl
        subst hBf
        go_wp2
        first | (change bodyPost Tryz.prog Tryz.f98 _ Exit.ret _ _) | (simp only [Exit.noGoto]) | skip
        refine bodyPost_ret (v := .tuple #[.int .i64 0, .bool false]) (by simp [results, Tryz.results98, go_sem]) rfl ⟨0, rfl, ?_, hbw.out⟩
        intro t ht
        rw [HF.out] at ht
        cases ht
      obtain ⟨k', rfl⟩ : ∃ k', k = k' + 1 := ⟨k - 1, by omega⟩
      have HJ : Hid ((if mayS o n && opW o n == lt s then some n else seekO o (lt s) k' (n + 1)) = R) := by
        have h := hI.out
        rw [seekO_s] at h
        exact h
      clear hI
      have n1 : n + 1 ≤ 1001 := by omega
      have n0 : 0 ≤ n := by omega
      cases hm : mayS o n with
      | false =>
        rw [hm] at HJ
        have HJ' : Hid (seekO o (lt s) k' (n + 1) = R) := by have h := HJ.out; simp at h; exact h
        clear HJ
        have hmb := HM.out n wr hbw.out
        rw [hm] at hmb
        go_wp2_with (first
          | (go_at_call 107; refine hmb.mono ?_; rintro e w1 ⟨rfl, hw1⟩; have hb1 : Hid (Below w.heap.size w w1) := hbw.out.trans (hw1.mono hbw.out.size))
          | go_in)
        exact ⟨⟨k', n + 1, by go_num, by omega, by omega, HJ', hb1⟩, by simp [intOf]; omega⟩
      | true =>
        have hmb := HM.out n wr hbw.out
        rw [hm] at hmb HJ
        have HWn : Hid (∀ W : World, Below w.heap.size w W → Calls Tryz.prog 29 #[.int .i64 (o : Int), .int .i64 n] W fun e w' => e = .returned (.string (YtchinflkjcebjabGreatDoor.bk (opW o n))) ∧ Below W.heap.size W w') := fun W hb => HW.out n W hm n0 (by omega) hb
        obtain ⟨x, HX⟩ : ∃ x, Hid (x = YtchinflkjcebjabGreatDoor.bk (opW o n)) := ⟨_, rfl⟩
        rw [← HX.out] at HWn
        have hxl : x.data.toList = opW o n := by rw [HX.out]; exact bk_data _
        rw [← hxl] at HJ
        clear HX hxl hm
        by_cases hx : x.data.toList = lt s
        · have hx1 : (x.toList == s.toList) = true := by rw [toL, toL, hx]; simp [lt]
          have HF : Hid (R = some n) := by show R = some n; rw [← HJ.out, if_pos]; simp [hx]
          have hBf : B = true := by rw [HB.out, HF.out]; rfl
          subst hBf
          clear HJ
          go_wp2_with (first
            | (go_at_call 107; refine hmb.mono ?_; rintro e w1 ⟨rfl, hw1⟩; have hb1 : Hid (Below w.heap.size w w1) := hbw.out.trans (hw1.mono hbw.out.size))
            | (go_at_call 29; refine (HWn.out _ hb1.out).mono ?_; rintro e w2 ⟨rfl, hw2⟩; have hb2 : Hid (Below w.heap.size w w2) := hb1.out.trans (hw2.mono hb1.out.size))
            | go_in)
          first | (change bodyPost Tryz.prog Tryz.f98 _ Exit.ret _ _) | (simp only [Exit.noGoto]) | skip
          refine bodyPost_ret (v := .tuple #[.int .i64 n, .bool true]) (by simp [results, Tryz.results98, go_sem]) rfl ⟨n, rfl, ?_, hb2.out⟩
          intro t ht
          rw [HF.out] at ht
          cases ht
          rfl
        · have hx1 : (x.toList == s.toList) = false := by rw [toL, toL, beq_eq_false_iff_ne]; exact hx
          have HJ' : Hid (seekO o (lt s) k' (n + 1) = R) := by
            have h := HJ.out
            rw [if_neg] at h
            · exact h
            · simpa using hx
          clear HJ
          go_wp2_with (first
            | (go_at_call 107; refine hmb.mono ?_; rintro e w1 ⟨rfl, hw1⟩; have hb1 : Hid (Below w.heap.size w w1) := hbw.out.trans (hw1.mono hbw.out.size))
            | (go_at_call 29; refine (HWn.out _ hb1.out).mono ?_; rintro e w2 ⟨rfl, hw2⟩; have hb2 : Hid (Below w.heap.size w w2) := hb1.out.trans (hw2.mono hb1.out.size))
            | go_in)
          exact ⟨⟨k', n + 1, by go_num, by omega, by omega, HJ', hb2⟩, by simp [intOf]; omega⟩
theorem numS_ok {w : Bs} {v : Int} (h : Lib.parseIntB 64 w = .ok v) : numS w = if Lib.itoa v = w then some v else none := by unfold numS; rw [h]
theorem numS_no {w : Bs} (h : ∀ v, Lib.parseIntB 64 w ≠ .ok v) : numS w = none := by
  unfold numS
  split
  · rename_i v e; exact absurd e (h v)
  · rfl
set_option maxRecDepth 100000 in
set_option maxHeartbeats 2000000 in
theorem readN_any (o : Nat) (s : ByteArray) (w : World) (ht : Tabs w) (ho : o < 13) (h2 : o ≠ 2) (h5 : o ≠ 5) (h6 : o ≠ 6) (h9 : o ≠ 9) (hs : s.size ≤ 281474976710656) :
    Calls Tryz.prog 98 #[.int .i64 (o : Int), .string s] w fun e w' => ∃ n' : Int, e = .returned (.tuple #[.int .i64 n', .bool (readO o (lt s)).isSome]) ∧ Hid ((∀ n, readO o (lt s) = some n → n' = n) ∧ Below w.heap.size w w') := by
  have hR : readO o (lt s) = match numS (lt s) with | some n => if mayS o n then some n else none | none => none := by
    unfold readO
    rw [if_neg (by simp [tabO, h2, h5, h6, h9])]
    rfl
  have hoW : ∀ v, opW o v = Lib.itoa v := by intro v; unfold opW; rw [if_neg h2, if_neg (by omega), if_neg h9]
  have HM : Hid (∀ (n : Int) (W : World), Below w.heap.size w W → Calls Tryz.prog 107 #[.int .i64 (o : Int), .int .i64 n] W fun e w' => e = .returned (.bool (mayS o n)) ∧ Below W.heap.size W w') := fun n W hb => mayBe_any o n W ho (ht.next hb)
  have HW : Hid (∀ (n : Int) (W : World), mayS o n = true → -9223372036854775808 ≤ n → n ≤ 9223372036854775807 → Below w.heap.size w W → Calls Tryz.prog 29 #[.int .i64 (o : Int), .int .i64 n] W fun e w' => e = .returned (.string (YtchinflkjcebjabGreatDoor.bk (Lib.itoa n))) ∧ Below W.heap.size W w') := fun n W hm h0 h1 hb => by
    rw [← hoW n]
    exact word_any o n W ho hm (ht.next hb) h0 h1
  have t2 : ((o : Int) == 2) = false := by rw [beq_eq_false_iff_ne]; omega
  have t5 : ((o : Int) == 5) = false := by rw [beq_eq_false_iff_ne]; omega
  have t6 : ((o : Int) == 6) = false := by rw [beq_eq_false_iff_ne]; omega
  have t9 : ((o : Int) == 9) = false := by rw [beq_eq_false_iff_ne]; omega
  obtain ⟨R, HR⟩ : ∃ R, Hid (R = readO o (lt s)) := ⟨_, rfl⟩
  rw [← HR.out] at hR ⊢
  obtain ⟨B, HB⟩ : ∃ B : Bool, Hid (B = R.isSome) := ⟨_, rfl⟩
  rw [← HB.out]
  clear HR hoW
  by_cases hp : ∃ v, Lib.parseIntB 64 (lt s) = .ok v
  case neg =>
    have hno : ∀ v, Lib.parseIntB 64 (lt s) ≠ .ok v := fun v e => hp ⟨v, e⟩
    have HP := parse_no s w hs ht hno
    rw [numS_no hno] at hR
    have HF : Hid (R = none) := hR
    have hBf : B = false := by rw [HB.out, HF.out]; rfl
    subst hBf
    clear hp hno hR ht HM HW
    go_enter Tryz.func98, Tryz.ntmps98
    go_wp2_with (first
      | (go_at_call 117; refine HP.mono ?_; rintro e w1 ⟨⟨u, t, N, rfl⟩, hw1⟩; have hb1 : Hid (Below w.heap.size w w1) := hw1; clear hw1)
      | go_in)
    refine bodyPost_ret (v := .tuple #[.int .i64 u, .bool false]) (by simp [results, Tryz.results98, go_sem]) rfl ⟨u, rfl, ?_, hb1.out⟩
    intro t ht
    rw [HF.out] at ht
    cases ht
  obtain ⟨v, hv⟩ := hp
  obtain ⟨v0, v1⟩ := Lib.parseIntB_bounds hv
  have HP := parse_ok s w hs v hv
  have v0' : -9223372036854775808 ≤ v := by have := v0; omega
  have v1' : v ≤ 9223372036854775807 := by have := v1; omega
  rw [numS_ok hv] at hR
  cases hm : mayS o v with
  | false =>
    have HF : Hid (R = none) := by
      show R = none
      rw [hR]
      by_cases e : Lib.itoa v = lt s
      · rw [if_pos e]; simp [hm]
      · rw [if_neg e]
    have hBf : B = false := by rw [HB.out, HF.out]; rfl
    subst hBf
    have HMv : Hid (∀ W, Below w.heap.size w W → Calls Tryz.prog 107 #[.int .i64 (o : Int), .int .i64 v] W fun e w' => e = .returned (.bool false) ∧ Below W.heap.size W w') := by
      intro W hb
      have := HM.out v W hb
      rw [hm] at this
      exact this
    clear hm hR ht HM HW hv v0 v1 v0' v1'
    go_enter Tryz.func98, Tryz.ntmps98
    go_wp2_with (first
      | (go_at_call 117; refine HP.mono ?_; rintro e w1 ⟨rfl, hw1⟩; have hb1 : Hid (Below w.heap.size w w1) := hw1; clear hw1)
      | (go_at_call 107; refine (HMv.out _ hb1.out).mono ?_; rintro e w2 ⟨rfl, hw2⟩; have hb2 : Hid (Below w.heap.size w w2) := hb1.out.trans (hw2.mono hb1.out.size); clear hw2)
      | go_in)
    refine bodyPost_ret (v := .tuple #[.int .i64 v, .bool false]) (by simp [results, Tryz.results98, go_sem]) rfl ⟨v, rfl, ?_, hb2.out⟩
    intro t ht
    rw [HF.out] at ht
    cases ht
  | true =>
    have HMv : Hid (∀ W, Below w.heap.size w W → Calls Tryz.prog 107 #[.int .i64 (o : Int), .int .i64 v] W fun e w' => e = .returned (.bool true) ∧ Below W.heap.size W w') := by
      intro W hb
      have := HM.out v W hb
      rw [hm] at this
      exact this
    have HWv : Hid (∀ W, Below w.heap.size w W → Calls Tryz.prog 29 #[.int .i64 (o : Int), .int .i64 v] W fun e w' => e = .returned (.string (YtchinflkjcebjabGreatDoor.bk (Lib.itoa v))) ∧ Below W.heap.size W w') := fun W hb => HW.out v W hm v0' v1' hb
    obtain ⟨x, HX⟩ : ∃ x, Hid (x = YtchinflkjcebjabGreatDoor.bk (Lib.itoa v)) := ⟨_, rfl⟩
    rw [← HX.out] at HWv
    have hxl : x.data.toList = Lib.itoa v := by rw [HX.out]; exact bk_data _
    have HJ : Hid (R = if x.data.toList = lt s then some v else none) := by
      show R = _
      rw [hR, hxl]
      by_cases e : Lib.itoa v = lt s
      · rw [if_pos e]; simp [hm]
      · rw [if_neg e]
    clear HX hxl hm hR ht HM HW hv v0 v1 v0' v1'
    by_cases hx : x.data.toList = lt s
    · have hx1 : (x.toList == s.toList) = true := by rw [toL, toL, hx]; simp [lt]
      have HF : Hid (R = some v) := by show R = some v; rw [HJ.out, if_pos hx]
      have hBf : B = true := by rw [HB.out, HF.out]; rfl
      subst hBf
      clear HJ
      go_enter Tryz.func98, Tryz.ntmps98
      go_wp2_with (first
        | (go_at_call 117; refine HP.mono ?_; rintro e w1 ⟨rfl, hw1⟩; have hb1 : Hid (Below w.heap.size w w1) := hw1; clear hw1)
        | (go_at_call 107; refine (HMv.out _ hb1.out).mono ?_; rintro e w2 ⟨rfl, hw2⟩; have hb2 : Hid (Below w.heap.size w w2) := hb1.out.trans (hw2.mono hb1.out.size); clear hw2)
        | (go_at_call 29; refine (HWv.out _ hb2.out).mono ?_; rintro e w3 ⟨rfl, hw3⟩; have hb3 : Hid (Below w.heap.size w w3) := hb2.out.trans (hw3.mono hb2.out.size); clear hw3)
        | go_in)
      refine bodyPost_ret (v := .tuple #[.int .i64 v, .bool true]) (by simp [results, Tryz.results98, go_sem]) rfl ⟨v, rfl, ?_, hb3.out⟩
      intro t ht
      rw [HF.out] at ht
      cases ht
      rfl
    · have hx1 : (x.toList == s.toList) = false := by rw [toL, toL, beq_eq_false_iff_ne]; exact hx
      have HF : Hid (R = none) := by show R = none; rw [HJ.out, if_neg hx]
      have hBf : B = false := by rw [HB.out, HF.out]; rfl
      subst hBf
      clear HJ
      go_enter Tryz.func98, Tryz.ntmps98
      go_wp2_with (first
        | (go_at_call 117; refine HP.mono ?_; rintro e w1 ⟨rfl, hw1⟩; have hb1 : Hid (Below w.heap.size w w1) := hw1; clear hw1)
        | (go_at_call 107; refine (HMv.out _ hb1.out).mono ?_; rintro e w2 ⟨rfl, hw2⟩; have hb2 : Hid (Below w.heap.size w w2) := hb1.out.trans (hw2.mono hb1.out.size); clear hw2)
        | (go_at_call 29; refine (HWv.out _ hb2.out).mono ?_; rintro e w3 ⟨rfl, hw3⟩; have hb3 : Hid (Below w.heap.size w w3) := hb2.out.trans (hw3.mono hb2.out.size); clear hw3)
        | go_in)
      refine bodyPost_ret (v := .tuple #[.int .i64 v, .bool false]) (by simp [results, Tryz.results98, go_sem]) rfl ⟨v, rfl, ?_, hb3.out⟩
      intro t ht
      rw [HF.out] at ht
      cases ht
theorem read_any (o : Nat) (s : ByteArray) (w : World) (ht : Tabs w) (ho : o < 13) (hs : s.size ≤ 281474976710656) :
    Calls Tryz.prog 98 #[.int .i64 (o : Int), .string s] w fun e w' => ∃ n' : Int, e = .returned (.tuple #[.int .i64 n', .bool (readO o (lt s)).isSome]) ∧ Hid ((∀ n, readO o (lt s) = some n → n' = n) ∧ Below w.heap.size w w') := by
  by_cases h : o = 2 ∨ o = 5 ∨ o = 6 ∨ o = 9
  · exact readT_any o s w ht h
  · exact readN_any o s w ht ho (by omega) (by omega) (by omega) (by omega) hs
end Go.Proofs.YtchinflkjcebjabGreatDoor
