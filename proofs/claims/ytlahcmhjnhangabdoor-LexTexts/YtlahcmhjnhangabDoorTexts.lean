import Derived.Test.YtlahcmhjnhangabDoorRefText
namespace Go.Proofs.YtlahcmhjnhangabDoor
open Go.RowKit Go.Shelf

theorem refText_any (k a z n : Int) (s : ByteArray) (w : World) (h0 : -9223372036854775808 ≤ n) (h1 : n ≤ 9223372036854775807) (ht : Tab10 w) (hT : RTabs w) :
    Calls Tryd.prog 5 #[.agg #[.int .i64 k, .int .i64 a, .int .i64 z, .string s, .int .i64 n]] w fun e w' => e = .returned (.tuple #[.string (rfS k s n).1, .int .i64 (rfS k s n).2]) ∧ Below w.heap.size w w' := by
  unfold rfS
  by_cases hs : 4194304 < s.size
  · rw [if_pos hs]
    exact refText_big k a z n s w hs
  · rw [if_neg hs]
    by_cases hq : 4194304 < (sdS k s n).size
    · rw [if_pos hq]
      exact refText_no k a z n s w (by omega) h0 h1 ht hT _ rfl 2 4194304 rfl (fun W _ => refScan_big _ W hq)
    · rw [if_neg hq]
      have HS : ∀ W, RTabs W → Calls Tryd.prog 10 #[.string (sdS k s n)] W (scanPost W (scanS ((sdS k s n).size + 1) 0 (sdS k s n).data.toList)) := fun W hW => refScan_any _ W (by omega) hW
      cases hc : scanS ((sdS k s n).size + 1) 0 (sdS k s n).data.toList with
      | inl q =>
        obtain ⟨e, p⟩ := q
        rw [hc] at HS
        obtain ⟨m, _, _, c, r, _, _, _, hq3, _⟩ := scan_err _ _ _ _ _ (by rw [← Lib.size_eq]; omega) hc
        have he := tok_err hq3
        exact refText_no k a z n s w (by omega) h0 h1 ht hT _ rfl e p (by rw [beq_eq_false_iff_ne]; omega) HS
      | inr toks =>
        rw [hc] at HS
        match toks, scan_some _ _ _ _ hc with
        | [], hn => exact absurd rfl hn
        | (p, x) :: rest, _ =>
          refine (refText_yes k a z n s w (by omega) h0 h1 ht hT _ rfl p x rest HS).mono ?_
          rintro e w' ⟨rfl, hb⟩
          refine ⟨?_, hb⟩
          dsimp only
          by_cases hm : (x.kind : Int) = k ∧ (⟨x.text.toArray⟩ : ByteArray) = s ∧ x.int = n ∧ (p : Int) = 0 ∧ (p : Int) + (x.len : Int) = ((sdS k s n).size : Int)
          · obtain ⟨q1, q2, q3, q4, q5⟩ := hm
            have : ((((p, x) :: rest).head?.map (hdM k s n (sdS k s n).size)).getD false) = true := decide_eq_true ⟨q1, by rw [← q2], q3, by simp only; omega, by simp only; omega⟩
            rw [if_pos ⟨q1, q2, q3, q4, q5⟩, if_pos this]
          · have : ¬ ((((p, x) :: rest).head?.map (hdM k s n (sdS k s n).size)).getD false) = true := by
              intro hh
              obtain ⟨q1, q2, q3, q4, q5⟩ := of_decide_eq_true hh
              simp only at q1 q2 q3 q4 q5
              exact hm ⟨q1, by rw [q2], q3, by omega, by omega⟩
            rw [if_neg hm, if_neg this]

set_option maxRecDepth 100000 in
set_option maxHeartbeats 1000000 in
theorem lexTexts_any (k a z n : Int) (s : ByteArray) (w : World) (h0 : -9223372036854775808 ≤ n) (h1 : n ≤ 9223372036854775807) (hs : s.size ≤ 140737488355328) (ht : Tab10 w) (hT : Tabs w) (hRT : RTabs w) :
    Calls Tryd.prog 3 #[.agg #[.int .i64 k, .int .i64 a, .int .i64 z, .string s, .int .i64 n]] w fun e w' => e = .returned (.bool true) ∧ Below w.heap.size w w' := by
  have HB0 : Hid (Below w.heap.size w (w.alloc (.cells #[.int .i64 k, .int .i64 a, .int .i64 z, .string s, .int .i64 n] 24))) := (Below.refl _ w).alloc (Nat.le_refl _) _
  have F0 : Hid (Five (w.alloc (.cells #[.int .i64 k, .int .i64 a, .int .i64 z, .string s, .int .i64 n] 24)) w.heap.size (.int .i64 k) (.int .i64 a) (.int .i64 z) (.string s) (.int .i64 n)) := five_new w _ _ _ _ _ 24
  have hl0 : w.heap.size < (w.alloc (.cells #[.int .i64 k, .int .i64 a, .int .i64 z, .string s, .int .i64 n] 24)).heap.size := World.block_lt_of_cell? _ _ F0.out.c0
  have HA := text_any k a z n s _ h0 h1 hs (ht.next HB0.out) (hT.next HB0.out)
  have HR : ∀ W, Tab10 W → RTabs W → Calls Tryd.prog 5 #[.agg #[.int .i64 k, .int .i64 a, .int .i64 z, .string s, .int .i64 n]] W fun e w' => e = .returned (.tuple #[.string (txS k s n).1, .int .i64 (txS k s n).2]) ∧ Below W.heap.size W w' := by
    intro W q1 q2
    rw [← rf_tx k s n h0 h1]
    exact refText_any k a z n s W h0 h1 q1 q2
  have HT0 : Hid (Tab10 (w.alloc (.cells #[.int .i64 k, .int .i64 a, .int .i64 z, .string s, .int .i64 n] 24)) ∧ RTabs (w.alloc (.cells #[.int .i64 k, .int .i64 a, .int .i64 z, .string s, .int .i64 n] 24))) := ⟨ht.next HB0.out, hRT.next HB0.out⟩
  obtain ⟨r, hr⟩ : ∃ r, (txS k s n).1 = r := ⟨_, rfl⟩
  obtain ⟨y, hy⟩ : ∃ y, (txS k s n).2 = y := ⟨_, rfl⟩
  rw [hr, hy] at HA
  simp only [hr, hy] at HR
  have HA' : Hid (Calls Tryd.prog 4 #[.agg #[.int .i64 k, .int .i64 a, .int .i64 z, .string s, .int .i64 n]] (w.alloc (.cells #[.int .i64 k, .int .i64 a, .int .i64 z, .string s, .int .i64 n] 24)) fun e w' => e = .returned (.tuple #[.string r, .int .i64 y]) ∧ Below (w.alloc (.cells #[.int .i64 k, .int .i64 a, .int .i64 z, .string s, .int .i64 n] 24)).heap.size (w.alloc (.cells #[.int .i64 k, .int .i64 a, .int .i64 z, .string s, .int .i64 n] 24)) w') := HA
  have HR' : Hid (∀ W, Tab10 W → RTabs W → Calls Tryd.prog 5 #[.agg #[.int .i64 k, .int .i64 a, .int .i64 z, .string s, .int .i64 n]] W fun e w' => e = .returned (.tuple #[.string r, .int .i64 y]) ∧ Below W.heap.size W w') := HR
  clear HA HR hr hy ht hT hRT
  go_enter Tryd.func3, Tryd.ntmps3
  go_wp2_with (first
    | (go_at_call 4; refine HA'.out.mono ?_; rintro e w2 ⟨rfl, hb2⟩; obtain ⟨d0, d1, d2, d3, d4, _⟩ := F0.out.below hb2 hl0)
    | (go_at_call 5; refine (HR'.out _ (HT0.out.1.next hb2) (HT0.out.2.next hb2)).mono ?_; rintro e w3 ⟨rfl, hb3⟩)
    | go_in)
  go_ret
  have hb5 := HB0.out.trans (hb2.mono HB0.out.size)
  exact ⟨rfl, hb5.trans (hb3.mono hb5.size)⟩
end Go.Proofs.YtlahcmhjnhangabDoor
