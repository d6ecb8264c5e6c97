import Derived.Test.YtljhobjgofhldaaDoordDeep
import Derived.Test.YtljhobjgofhldaaDoordEShow
namespace Go.Proofs.YtljhobjgofhldaaDoor
open Go.RowKit
/-- Show alone. -/
theorem show_arr (v : V) : showS v.1 v.2.1 v.2.2 = ⟨(shL v).toArray⟩ := by
  unfold shL
  rfl
set_option maxRecDepth 100000 in
set_option maxHeartbeats 1000000 in
theorem rdeep_plain {q : Option Addr} {cq : Nat} {Ls : List (List V)} {v : V} {dp : Int} {w : World} (ht : Tab10 w) (hv : vIn v) (hd : dp < 1 ∨ hasS Ls.length v = false) :
    Calls Tryd.prog 6 #[.agg #[.int .i64 v.1, .int .i64 v.2.1, .string v.2.2], .slice q Ls.length cq, .int .i64 dp] w fun e w' => e = .returned (.string ⟨(shL v).toArray⟩) ∧ Below w.heap.size w w' := by
  rw [← show_arr]
  obtain ⟨k, n, s⟩ := v
  obtain ⟨Z, hZ⟩ : ∃ Z, showS k n s = Z := ⟨_, rfl⟩
  have B1 : Below w.heap.size w (w.alloc (.cells #[.int .i64 k, .int .i64 n, .string s] 26)) := (Below.refl _ w).alloc (Nat.le_refl _) _
  have HB1 : Hid _ := B1
  have HT : Hid (Tab10 (w.alloc (.cells #[.int .i64 k, .int .i64 n, .string s] 26))) := ht.next B1
  have HM : Hid (Box3 (w.alloc (.cells #[.int .i64 k, .int .i64 n, .string s] 26)) w.heap.size k n s) := Box3.new w k n s 26
  have HSZ : Hid (w.heap.size < (w.alloc (.cells #[.int .i64 k, .int .i64 n, .string s] 26)).heap.size) := by show w.heap.size < _; simp
  obtain ⟨⟨⟨x0, f0⟩, ⟨x1, f1⟩⟩, x2, f2⟩ := HM.out
  have dS : ∀ W, Tab10 W → Calls Tryd.prog 13 #[.agg #[.int .i64 k, .int .i64 n, .string s]] W fun e w' => e = .returned (.string Z) ∧ Below W.heap.size W w' := fun W t => by rw [← hZ]; exact rshow_any k n s W hv.2 hv.1 t
  have dV := fun W : World => rvalid_any k n s W hv.2
  show Calls _ _ _ _ fun e w' => e = .returned (.string (showS k n s)) ∧ _
  rw [hZ]
  have hc : dp < 1 ∨ (1 ≤ dp ∧ okV k n s = false) ∨ (1 ≤ dp ∧ okV k n s = true ∧ k ≠ 4) ∨ (1 ≤ dp ∧ okV k n s = true ∧ k = 4 ∧ (Ls.length : Int) ≤ n) := by
    rcases Int.lt_or_le dp 1 with h | h
    · exact .inl h
    · rcases hd with h' | h'
      · omega
      · cases ho : okV k n s with
        | false => exact .inr (.inl ⟨h, rfl⟩)
        | true =>
          by_cases h4 : k = 4
          · refine .inr (.inr (.inr ⟨h, rfl, h4, ?_⟩))
            subst h4
            simpa [hasS, ho] using h'
          · exact .inr (.inr (.inl ⟨h, rfl, h4⟩))
  have hmn : (4 < dp) ∨ ¬ (4 < dp) := by omega
  clear hd hZ B1 ht f0 f1 f2
  rcases hc with h1 | ⟨h1, h2⟩ | ⟨h1, h2, h3⟩ | ⟨h1, h2, rfl, h3⟩
  · have h4 : ¬ 4 < dp := by omega
    go_enter Tryd.func6, Tryd.ntmps6
    go_wp2_with (first
      | (go_at_call 12; refine (dV _).mono ?_; rintro z1 w1 ⟨rfl, hb1⟩; have HT1 : Hid (Tab10 w1) := HT.out.next hb1; have HB2 : Hid (Below w.heap.size w w1) := HB1.out.trans (hb1.mono HB1.out.size); obtain ⟨⟨⟨y0, -⟩, ⟨y1, -⟩⟩, y2, -⟩ := HM.out.below hb1 HSZ.out; clear hb1 x0 x1 x2)
      | (go_at_call 13; refine (dS _ HT1.out).mono ?_; rintro z2 w2 ⟨rfl, hb2⟩; have HB3 : Hid (Below w.heap.size w w2) := HB2.out.trans (hb2.mono HB2.out.size); clear hb2)
      | fail)
    go_ret
    exact ⟨rfl, HB3.out⟩
  · rw [h2] at dV
    clear h2
    rcases hmn with h4 | h4
    all_goals
      go_enter Tryd.func6, Tryd.ntmps6
      go_wp2_with (first
        | (go_at_call 12; refine (dV _).mono ?_; rintro z1 w1 ⟨rfl, hb1⟩; have HT1 : Hid (Tab10 w1) := HT.out.next hb1; have HB2 : Hid (Below w.heap.size w w1) := HB1.out.trans (hb1.mono HB1.out.size); obtain ⟨⟨⟨y0, -⟩, ⟨y1, -⟩⟩, y2, -⟩ := HM.out.below hb1 HSZ.out; clear hb1 x0 x1 x2)
        | (go_at_call 13; refine (dS _ HT1.out).mono ?_; rintro z2 w2 ⟨rfl, hb2⟩; have HB3 : Hid (Below w.heap.size w w2) := HB2.out.trans (hb2.mono HB2.out.size); clear hb2)
        | fail)
      go_ret
      exact ⟨rfl, HB3.out⟩
  · rw [h2] at dV
    clear h2
    rcases hmn with h4 | h4
    all_goals
      go_enter Tryd.func6, Tryd.ntmps6
      go_wp2_with (first
        | (go_at_call 12; refine (dV _).mono ?_; rintro z1 w1 ⟨rfl, hb1⟩; have HT1 : Hid (Tab10 w1) := HT.out.next hb1; have HB2 : Hid (Below w.heap.size w w1) := HB1.out.trans (hb1.mono HB1.out.size); obtain ⟨⟨⟨y0, -⟩, ⟨y1, -⟩⟩, y2, -⟩ := HM.out.below hb1 HSZ.out; clear hb1 x0 x1 x2)
        | (go_at_call 13; refine (dS _ HT1.out).mono ?_; rintro z2 w2 ⟨rfl, hb2⟩; have HB3 : Hid (Below w.heap.size w w2) := HB2.out.trans (hb2.mono HB2.out.size); clear hb2)
        | fail)
      go_ret
      exact ⟨rfl, HB3.out⟩
  · rw [h2] at dV
    clear h2
    rcases hmn with h4 | h4
    all_goals
      go_enter Tryd.func6, Tryd.ntmps6
      go_wp2_with (first
        | (go_at_call 12; refine (dV _).mono ?_; rintro z1 w1 ⟨rfl, hb1⟩; have HT1 : Hid (Tab10 w1) := HT.out.next hb1; have HB2 : Hid (Below w.heap.size w w1) := HB1.out.trans (hb1.mono HB1.out.size); obtain ⟨⟨⟨y0, -⟩, ⟨y1, -⟩⟩, y2, -⟩ := HM.out.below hb1 HSZ.out; clear hb1 x0 x1 x2)
        | (go_at_call 13; refine (dS _ HT1.out).mono ?_; rintro z2 w2 ⟨rfl, hb2⟩; have HB3 : Hid (Below w.heap.size w w2) := HB2.out.trans (hb2.mono HB2.out.size); clear hb2)
        | fail)
      go_ret
      exact ⟨rfl, HB3.out⟩
end Go.Proofs.YtljhobjgofhldaaDoor
