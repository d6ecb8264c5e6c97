import Derived.Lib.QuietBelow
import Derived.BigQuiet
import Derived.Test.YtlahcmhjnhangaaDoorQMath
import Derived.Test.YtlahcmhjnhangaaDoorGap
namespace Go.Proofs.YtlahcmhjnhangaaDoor
open Go.RowKit Go.Shelf

theorem cell_regrown {W : World} {a : Addr} {v : Value} (h : W.cell? a = some v) (d : Nat) (os : Array Obj) : (Sort.grow (redrawn W d) os).cell? a = some v :=
  ((below_regrown W d os).cell (World.block_lt_of_cell? W a h)).trans h

set_option maxRecDepth 100000 in
set_option maxHeartbeats 8000000 in
theorem lexQuotes_any (A B : ByteArray) (w : World) (hA : A.size ≤ 1048576) (hBs : B.size ≤ 1048576) (hT : Tabs w) :
    Calls Tryd.prog 5 #[.agg #[.string A, .string B]] w fun e w' => e = .returned (.bool true) ∧ Below w.heap.size w w' := by
  obtain ⟨q, hq⟩ : ∃ q : ByteArray, q = ⟨(qt A.data.toList).toArray⟩ := ⟨_, rfl⟩
  obtain ⟨p, hp⟩ : ∃ p : ByteArray, p = ⟨(qt B.data.toList).toArray⟩ := ⟨_, rfl⟩
  have HQ : Hid (q = ⟨(qt A.data.toList).toArray⟩) := hq
  have HP : Hid (p = ⟨(qt B.data.toList).toArray⟩) := hp
  have hqd : q.data.toList = qt A.data.toList := by rw [hq]
  have hpd : p.data.toList = qt B.data.toList := by rw [hp]
  have hqs : q.size ≤ 4194306 := by
    rw [Lib.size_eq, hqd]
    have := pcs_len A.data.toList
    rw [← Lib.size_eq] at this
    unfold qt
    rw [List.length_cons, List.length_append]
    simp
    omega
  have HEq : Hid ((q.toList == p.toList) = (A.toList == B.toList)) := by
    show (q.toList == p.toList) = (A.toList == B.toList)
    rw [ByteArray.toList_eq, ByteArray.toList_eq, ByteArray.toList_eq, ByteArray.toList_eq, hqd, hpd]
    by_cases h : A.data.toList = B.data.toList
    · rw [h]; simp
    · rw [beq_eq_false_iff_ne.2 h, beq_eq_false_iff_ne.2 (fun e => h (qt_inj _ _ e))]
  have HBy : Hid (∀ j (h : j < q.size), ¬ ((q[j]'h).toNat : Int) < 32 ∧ ¬ (126 : Int) < ((q[j]'h).toNat : Int)) := by
    intro j h
    have h' : j < q.data.toList.length := by rw [← Lib.size_eq]; exact h
    have hm : q.data.toList[j]'h' ∈ q.data.toList := List.getElem_mem _
    rw [byte_at' q j h h'] at hm
    rw [hqd] at hm
    have := qt_bytes _ _ hm
    omega
  have HSc : Hid (scanS (q.size + 1) 0 q.data.toList = if A.data.toList.length ≤ 200 then .inr [(0, ⟨3, q.size, A.data.toList, 0⟩), (q.size, ⟨0, 0, [], 0⟩)] else .inl (22, 0)) := by
    have h := scan_q A.data.toList
    rw [← hqd, ← Lib.size_eq q] at h
    exact h
  have HT : Hid (Tabs w) := hT
  clear hq hp hqd hpd hT
  have F0 : Hid (Two (w.alloc (.cells #[.string A, .string B] 32)) w.heap.size (.string A) (.string B)) := two_new w _ _ 32
  have HB0 : Hid (Below w.heap.size w (w.alloc (.cells #[.string A, .string B] 32))) := (Below.refl _ w).alloc (Nat.le_refl _) _
  have hl0 : w.heap.size < (w.alloc (.cells #[.string A, .string B] 32)).heap.size := World.block_lt_of_cell? _ _ F0.out.c0
  have HC1 : Hid (∀ w, Calls Tryd.prog 11 #[.string A] w fun e w' => e = .returned (.string q) ∧ Below w.heap.size w w') := fun w => quote_any A q w (by omega) HQ
  have HC2 : Hid (∀ w, Calls Tryd.prog 11 #[.string B] w fun e w' => e = .returned (.string p) ∧ Below w.heap.size w w') := fun w => quote_any B p w (by omega) HP
  go_enter Tryd.func5, Tryd.ntmps5
  go_wp2_with (first
    | (go_at_call 11; refine (HC1.out _).mono ?_; rintro e w1 ⟨rfl, hb1⟩)
    | go_in)
  have F1 : Hid (Two w1 w.heap.size (.string A) (.string B)) := F0.out.below hb1 hl0
  have HB1 : Hid (Below w.heap.size w w1) := HB0.out.trans (hb1.mono HB0.out.size)
  have hl1 : w.heap.size < w1.heap.size := Nat.lt_of_lt_of_le hl0 hb1.size
  clear F0 HB0 hb1 hl0 HC1
  go_loop [12] (fun i => ∃ n : Nat, n ≤ q.size ∧ i = .int .i64 (n : Int)) (fun i => q.size - (intOf i).toNat)
  case atStart => exact ⟨0, Nat.zero_le _, rfl⟩
  case round =>
    obtain ⟨n, hn, rfl⟩ := hrel
    by_cases hlt : n < q.size
    · obtain ⟨b1, b2⟩ := HBy.out n hlt
      obtain ⟨c, hc⟩ : ∃ c, q[n]'hlt = c := ⟨_, rfl⟩
      rw [hc] at b1 b2
      clear HC2 HSc HEq
      go_wp2
      exact ⟨⟨n + 1, by omega, by go_num⟩, by simp [intOf]; omega⟩
    · obtain rfl : n = q.size := by omega
      clear HBy
      have k1 := cell_regrown F1.out.c0
      have k2 := cell_regrown F1.out.c1
      have c11 : ∀ d os, Calls Tryd.prog 11 #[.string B] (Sort.grow (redrawn w1 d) os) fun e w'' => e = .returned (.string p) ∧ ∃ z : Regrown, w'' = Sort.grow (redrawn w1 z.d) z.os := fun d os => Calls.regrown_of (HC2.out _)
      have hEq := HEq.out
      clear HC2
      go_wp2_with fail
      refine wp_region_quiet_below (by kernel_rfl) (by kernel_rfl) ?_
      repeat (first | go_big_quiet_step (exact c11 _ _) | quiet_step (exact c11 _ _))
      refine wpQuiet_nil ?_
      intro _ hw'
      obtain ⟨⟨dq, osq⟩, hw''⟩ := hw'
      subst hw''
      have hY := below_regrown w1 dq osq
      change Exit.then _ _ Exit.normal _ (Sort.grow (redrawn w1 dq) osq)
      generalize Sort.grow (redrawn w1 dq) osq = Y at hY ⊢
      have F2 : Hid (Two Y w.heap.size (.string A) (.string B)) := F1.out.below hY hl1
      have HB2 : Hid (Below w.heap.size w Y) := HB1.out.trans (hY.mono HB1.out.size)
      have HT2 : Hid (Tabs Y) := HT.out.next HB2.out
      have hl2 : w.heap.size < Y.heap.size := Nat.lt_of_lt_of_le hl1 hY.size
      clear k1 k2 c11 hEq HEq F1 HB1 HT hl1 hY
      obtain ⟨y0, y1, _⟩ := F2.out
      by_cases hz : 4194304 < q.size
      · have HC := scan_over q hz
        have hz' : (4194304 : Int) < (q.size : Int) := by omega
        go_wp2_with (first
          | (go_at_call 14; refine (HC.out Y).mono ?_; rintro e w2 ⟨rfl, hb2⟩)
          | go_in)
        go_ret
        exact ⟨rfl, (HB2.out.trans (hb2.mono HB2.out.size)).alloc (Nat.le_trans HB2.out.size hb2.size) _⟩
      · have hz' : ¬ (4194304 : Int) < (q.size : Int) := by omega
        by_cases hl : A.data.toList.length ≤ 200
        · have hs := HSc.out
          rw [if_pos hl] at hs
          have HC := scan_yes q (by omega) _ hs
          have hl' : ¬ (200 : Int) < (A.size : Int) := by rw [Lib.size_eq]; omega
          clear hs HSc hl
          go_wp2_with (first
            | (go_at_call 14; refine (HC.out Y HT2.out).mono ?_; rintro e w2 ⟨v, rfl, ho, hb2⟩; obtain ⟨g, cap, rfl, hcap, hg0, hg1, hcell⟩ := toks_at (l := [(0, ⟨3, q.size, A.data.toList, 0⟩), (q.size, ⟨0, 0, [], 0⟩)]) ho (by simp);
               have c0 := hcell 0 _ rfl; have c1 := hcell 1 _ rfl; have c2 := hcell 2 _ rfl; have c3 : w2.cell? ⟨g, 3, none⟩ = some (.string A) := hcell 3 _ rfl; have c4 := hcell 4 _ rfl; clear hcell ho;
               obtain ⟨z0, z1, _⟩ := F2.out.below hb2 hl2; have hl3 : w.heap.size < w2.heap.size := Nat.lt_of_lt_of_le hl2 hb2.size)
            | go_in)
          clear HC y0 y1
          go_quiet (fail)
          go_wp2
          go_ret
          have hfin := (HB2.out.trans (hb2.mono HB2.out.size)).alloc (Nat.le_trans HB2.out.size hb2.size) (.cells #[.int .i64 0, .int .i64 0] 28)
          exact ⟨rfl, ⟨hfin.os, hfin.tape, hfin.output, hfin.size, hfin.block⟩⟩
        · have hs := HSc.out
          rw [if_neg hl] at hs
          have HC := scan_no q (by omega) _ _ hs
          have hl' : (200 : Int) < (A.size : Int) := by rw [Lib.size_eq]; omega
          clear hs HSc hl
          go_wp2_with (first
            | (go_at_call 14; refine (HC.out Y HT2.out).mono ?_; rintro e w2 ⟨rfl, hb2⟩; obtain ⟨z0, z1, _⟩ := F2.out.below hb2 hl2; have hl3 : w.heap.size < w2.heap.size := Nat.lt_of_lt_of_le hl2 hb2.size)
            | go_in)
          go_ret
          exact ⟨rfl, (HB2.out.trans (hb2.mono HB2.out.size)).alloc (Nat.le_trans HB2.out.size hb2.size) _⟩
end Go.Proofs.YtlahcmhjnhangaaDoor
