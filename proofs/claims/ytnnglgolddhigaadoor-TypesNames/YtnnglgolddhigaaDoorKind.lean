import Derived.Test.YtnnglgolddhigaaDoorRSort
namespace Go.Proofs.YtnnglgolddhigaaDoor
open Go.RowKit

/-- The kind of a type's values, by its number. -/
def kindN (n : Nat) : Nat := if n ≤ 3 then n else 4
set_option maxHeartbeats 1000000 in
theorem kind_any (t : ByteArray) (w : World) (hs : t.size ≤ 9223372036854775807) (hr : w.rangeAt 0 0 plCells) :
    Calls Tryd.prog 6 #[.string t] w fun e w' => e = .returned (.int .i64 (kindN (sortR 0 t) : Int)) ∧ w' = w := by
  have H := sort_any t w hs hr
  have hlt := sort_lt t.size 0 t (Nat.le_refl _)
  obtain ⟨n, hn⟩ : ∃ n, n = sortR 0 t := ⟨_, rfl⟩
  rw [← hn] at H hlt ⊢
  clear hn hr
  have hc : n = 0 ∨ n = 1 ∨ n = 2 ∨ n = 3 ∨ 4 ≤ n := by omega
  rcases hc with rfl | rfl | rfl | rfl | hc
  · go_enter Tryd.func6, Tryd.ntmps6
    go_wp2_with (first | (go_at_call 4; refine H.mono ?_; rintro e w1 ⟨rfl, hw⟩; rw [hw]) | go_in)
    go_ret
    exact ⟨rfl, rfl⟩
  · go_enter Tryd.func6, Tryd.ntmps6
    go_wp2_with (first | (go_at_call 4; refine H.mono ?_; rintro e w1 ⟨rfl, hw⟩; rw [hw]) | go_in)
    go_ret
    exact ⟨rfl, rfl⟩
  · go_enter Tryd.func6, Tryd.ntmps6
    go_wp2_with (first | (go_at_call 4; refine H.mono ?_; rintro e w1 ⟨rfl, hw⟩; rw [hw]) | go_in)
    go_ret
    exact ⟨rfl, rfl⟩
  · go_enter Tryd.func6, Tryd.ntmps6
    go_wp2_with (first | (go_at_call 4; refine H.mono ?_; rintro e w1 ⟨rfl, hw⟩; rw [hw]) | go_in)
    go_ret
    exact ⟨rfl, rfl⟩
  · have hk : kindN n = 4 := by unfold kindN; rw [if_neg (by omega)]
    rw [hk]
    have n0 : ((n : Int) == 0) = false := by rw [beq_eq_false_iff_ne]; omega
    have n1 : ((n : Int) == 1) = false := by rw [beq_eq_false_iff_ne]; omega
    have n2 : ((n : Int) == 2) = false := by rw [beq_eq_false_iff_ne]; omega
    have n3 : ((n : Int) == 3) = false := by rw [beq_eq_false_iff_ne]; omega
    go_enter Tryd.func6, Tryd.ntmps6
    go_wp2_with (first | (go_at_call 4; refine H.mono ?_; rintro e w1 ⟨rfl, hw⟩; rw [hw]) | go_in)
    go_ret
    exact ⟨rfl, rfl⟩
set_option maxHeartbeats 1000000 in
theorem refKind_any (t : ByteArray) (w : World) (hs : t.size ≤ 9223372036854775807) :
    Calls Tryd.prog 7 #[.string t] w fun e w' => e = .returned (.int .i64 (kindN (sortR 0 t) : Int)) ∧ w' = w := by
  have H := refSort_any t w hs
  have hlt := sort_lt t.size 0 t (Nat.le_refl _)
  obtain ⟨n, hn⟩ : ∃ n, n = sortR 0 t := ⟨_, rfl⟩
  rw [← hn] at H hlt ⊢
  clear hn
  have hc : n = 0 ∨ n = 1 ∨ n = 2 ∨ n = 3 ∨ 4 ≤ n := by omega
  rcases hc with rfl | rfl | rfl | rfl | hc
  · go_enter Tryd.func7, Tryd.ntmps7
    go_wp2_with (first | (go_at_call 5; refine H.mono ?_; rintro e w1 ⟨rfl, hw⟩; rw [hw]) | go_in)
    go_ret
    exact ⟨rfl, rfl⟩
  · go_enter Tryd.func7, Tryd.ntmps7
    go_wp2_with (first | (go_at_call 5; refine H.mono ?_; rintro e w1 ⟨rfl, hw⟩; rw [hw]) | go_in)
    go_ret
    exact ⟨rfl, rfl⟩
  · go_enter Tryd.func7, Tryd.ntmps7
    go_wp2_with (first | (go_at_call 5; refine H.mono ?_; rintro e w1 ⟨rfl, hw⟩; rw [hw]) | go_in)
    go_ret
    exact ⟨rfl, rfl⟩
  · go_enter Tryd.func7, Tryd.ntmps7
    go_wp2_with (first | (go_at_call 5; refine H.mono ?_; rintro e w1 ⟨rfl, hw⟩; rw [hw]) | go_in)
    go_ret
    exact ⟨rfl, rfl⟩
  · have hk : kindN n = 4 := by unfold kindN; rw [if_neg (by omega)]
    rw [hk]
    have n0 : ((n : Int) == 0) = false := by rw [beq_eq_false_iff_ne]; omega
    have n1 : ((n : Int) == 1) = false := by rw [beq_eq_false_iff_ne]; omega
    have n2 : ((n : Int) == 2) = false := by rw [beq_eq_false_iff_ne]; omega
    have n3 : ((n : Int) == 3) = false := by rw [beq_eq_false_iff_ne]; omega
    go_enter Tryd.func7, Tryd.ntmps7
    go_wp2_with (first | (go_at_call 5; refine H.mono ?_; rintro e w1 ⟨rfl, hw⟩; rw [hw]) | go_in)
    go_ret
    exact ⟨rfl, rfl⟩

end Go.Proofs.YtnnglgolddhigaaDoor
