import Derived.Test.YtichbejmelkjeaaDoorcNo
namespace Go.Proofs.YtichbejmelkjeaaDoor
open Go.RowKit

def preB (s p : ByteArray) : Bool := decide (p.size ≤ s.size) && ((s.extract 0 p.size).toList == p.toList)

set_option maxHeartbeats 1000000 in
theorem hasPrefix_any (s p : ByteArray) (w : World) : Calls Tryd.prog 54 #[.string s, .string p] w fun e w' => e = .returned (.bool (preB s p)) ∧ w' = w := by
  unfold preB
  go_enter Tryd.func54, Tryd.ntmps54
  go_wp2
  · rename_i h
    go_ret
    refine ⟨?_, rfl⟩
    show Ending.returned (Value.bool ((s.extract 0 p.size).toList == p.toList)) = _
    simp [h]
  · rename_i h
    go_ret
    refine ⟨?_, rfl⟩
    show Ending.returned (Value.bool false) = _
    simp [h]
set_option maxHeartbeats 1000000 in
theorem cutPrefixL_any (s p : ByteArray) (w : World) : Calls Tryd.prog 45 #[.string s, .string p] w fun e w' => e = .returned (.tuple #[.string (if preB s p then s.extract p.size s.size else s), .bool (preB s p)]) ∧ w' = w := by
  cases h : preB s p with
  | false =>
    go_enter Tryd.func45, Tryd.ntmps45
    go_wp2_with (first | (go_at_call 54; refine (hasPrefix_any s p _).mono ?_; rintro e w1 ⟨rfl, hw⟩; rw [hw, h]) | go_in)
    go_ret2
    exact ⟨rfl, rfl⟩
  | true =>
    have h1 : p.size ≤ s.size := by unfold preB at h; simp at h; exact h.1
    go_enter Tryd.func45, Tryd.ntmps45
    go_wp2_with (first | (go_at_call 54; refine (hasPrefix_any s p _).mono ?_; rintro e w1 ⟨rfl, hw⟩; rw [hw, h]) | go_in)
    go_ret2
    exact ⟨rfl, rfl⟩
set_option maxHeartbeats 1000000 in
theorem cutPrefix_any (s p : ByteArray) (w : World) : Calls Tryd.prog 37 #[.string s, .string p] w fun e w' => e = .returned (.tuple #[.string (if preB s p then s.extract p.size s.size else s), .bool (preB s p)]) ∧ w' = w := by
  go_enter Tryd.func37, Tryd.ntmps37
  go_wp2_with (first | (go_at_call 45; refine (cutPrefixL_any s p _).mono ?_; rintro e w1 ⟨rfl, hw⟩; rw [hw]) | go_in)
  all_goals go_ret2
  all_goals exact ⟨rfl, rfl⟩
theorem w64_eq (x : Int) : wrap64 x = IntKind.i64.wrap x := by
  first | rfl | (rw [IntKind.wrap_i64]; rfl) | (rw [IntKind.wrap_i64]; unfold wrap64; omega) | (simp [IntKind.wrap_i64, wrap64])
/-- A minus ahead is cut off. -/
theorem cut_minus (s : ByteArray) (w : World) : Calls Tryd.prog 37 #[.string s, .string ⟨#[45]⟩] w fun e w' => ∃ t b, e = .returned (.tuple #[.string t, .bool b]) ∧ Hid ((b = true ∧ s.data.toList = 45 :: t.data.toList) ∨ (b = false ∧ t = s ∧ ∀ r, s.data.toList ≠ 45 :: r)) ∧ w' = w := by
  refine (cutPrefix_any s ⟨#[45]⟩ w).mono ?_
  rintro e w' ⟨rfl, rfl⟩
  refine ⟨_, _, rfl, ?_, rfl⟩
  have hsz := Lib.size_eq s
  have hp1 : (⟨#[45]⟩ : ByteArray).size = 1 := rfl
  show (preB s ⟨#[45]⟩ = true ∧ _) ∨ (preB s ⟨#[45]⟩ = false ∧ _)
  cases hl : s.data.toList with
  | nil =>
    right
    have hp : preB s ⟨#[45]⟩ = false := by
      unfold preB; rw [hp1]; rw [hl] at hsz; simp at hsz; simp [hsz]
    rw [hp]
    exact ⟨rfl, if_neg (by simp), fun r h => by cases h⟩
  | cons c q =>
    have hs1 : 1 ≤ s.size := by rw [hsz, hl]; simp
    have hex : (s.extract 0 1).toList = [c] := by rw [Lx.toL, Lib.extract_data, hl]; simp
    have hpl : (⟨#[45]⟩ : ByteArray).toList = [45] := by rw [Lx.toL]
    by_cases hc : c = 45
    · left
      have hp : preB s ⟨#[45]⟩ = true := by
        unfold preB; rw [hp1, hex, hpl, hc]; simp [hs1]
      rw [hp]
      refine ⟨rfl, ?_⟩
      rw [if_pos rfl, hp1, Lib.extract_data, hl, hc]
      simp only [List.drop_succ_cons, List.drop_zero]
      rw [List.take_of_length_le (by rw [hsz, hl]; simp)]
    · right
      have hp : preB s ⟨#[45]⟩ = false := by
        unfold preB; rw [hp1, hex, hpl]; simp [hc]
      rw [hp]
      exact ⟨rfl, if_neg (by simp), fun r h => by cases h; exact hc rfl⟩

set_option maxRecDepth 100000 in
set_option maxHeartbeats 2000000 in
theorem position_any (s : ByteArray) (w : World) (hs : s.size ≤ 300) (hT : Tb w) :
    Calls Tryd.prog 31 #[.string s] w fun e w' => e = .returned (.tuple #[.int .i64 (posO s.data.toList).1, .bool (posO s.data.toList).2]) ∧ Below w.heap.size w w' := by
  have hsz := Lib.size_eq s
  have HC : Hid (∀ t : ByteArray, t.size ≤ 300 → Calls Tryd.prog 30 #[.string t] w fun e w' => e = .returned (.tuple #[.int .i64 (numO t.data.toList).1, .bool (numO t.data.toList).2]) ∧ Below w.heap.size w w') := fun t ht => number_any t w ht hT
  have HM := cut_minus s w
  clear hT
  go_enter Tryd.func31, Tryd.ntmps31
  go_wp2_with fail
  refine HM.mono ?_
  rintro e w1 ⟨t, b, rfl, hq, hw1⟩
  subst hw1
  clear HM
  rcases hq.out with ⟨rfl, hl⟩ | ⟨rfl, rfl, hl⟩
  · have ht : t.size ≤ 300 := by have h2 := congrArg List.length hl; simp only [List.length_cons] at h2; rw [Lib.size_eq]; omega
    have HN := HC.out t ht
    have HP : Hid (posO s.data.toList = (IntKind.i64.wrap (-(numO t.data.toList).1), (numO t.data.toList).2 && decide (1 ≤ (numO t.data.toList).1))) := by
      show posO s.data.toList = _
      rw [hl]; rfl
    clear HC hq hl hsz ht hs
    generalize numO t.data.toList = N at HN HP
    obtain ⟨n, f⟩ := N
    go_wp2_with fail
    refine HN.mono ?_
    rintro e w2 ⟨rfl, hb2⟩
    clear HN
    cases f
    · go_wp2
      go_ret2
      refine ⟨?_, hb2⟩
      rw [HP.out, ← w64_eq]
      rfl
    · by_cases h1 : 1 ≤ n
      · have h1d : decide (1 ≤ n) = true := decide_eq_true h1
        go_wp2
        go_ret2
        refine ⟨?_, hb2⟩
        rw [HP.out, ← w64_eq]
        simp only [h1d]
        rfl
      · have h1d : decide (1 ≤ n) = false := decide_eq_false h1
        go_wp2
        go_ret2
        refine ⟨?_, hb2⟩
        rw [HP.out, ← w64_eq]
        simp only [h1d]
        rfl
  · have HN := HC.out t hs
    have HP : Hid (posO t.data.toList = numO t.data.toList) := by
      show posO t.data.toList = _
      unfold posO
      split
      · rename_i r h; exact absurd h (hl r)
      · rfl
    clear HC hq hl hsz hs
    generalize numO t.data.toList = N at HN HP
    obtain ⟨n, f⟩ := N
    go_wp2_with fail
    refine HN.mono ?_
    rintro e w2 ⟨rfl, hb2⟩
    clear HN
    go_wp2
    go_ret2
    exact ⟨by rw [HP.out]; rfl, hb2⟩
end Go.Proofs.YtichbejmelkjeaaDoor
