import Derived.Test.YtnnglgolddhigaaDoorKind
namespace Go.Proofs.YtnnglgolddhigaaDoor
open Go.RowKit

def intArr : ByteArray := ⟨#[91, 105, 110, 116, 93]⟩
theorem sort_head : sortR 0 intArr = 5 := by
  rw [sort_go 0 intArr (by decide), sort_stop 1 _ (by decide)]
  unfold finN baseN
  rw [ByteArray.toList_eq]
  decide

set_option maxRecDepth 100000 in
set_option maxHeartbeats 1000000 in
theorem names_walk (t u : ByteArray) (w : World) (n m : Int) (hu : Hid (u = ⟨#[91, 105, 110, 116, 93]⟩))
    (F4 : Hid (Calls Tryd.prog 4 #[.string t] w fun e w' => e = .returned (.int .i64 n) ∧ w' = w))
    (H5 : Hid (Calls Tryd.prog 5 #[.string t] w fun e w' => e = .returned (.int .i64 n) ∧ w' = w))
    (F6 : Hid (Calls Tryd.prog 6 #[.string t] w fun e w' => e = .returned (.int .i64 m) ∧ w' = w))
    (H7 : Hid (Calls Tryd.prog 7 #[.string t] w fun e w' => e = .returned (.int .i64 m) ∧ w' = w))
    (G4 : Hid (Calls Tryd.prog 4 #[.string u] w fun e w' => e = .returned (.int .i64 5) ∧ w' = w))
    (G6 : Hid (Calls Tryd.prog 6 #[.string u] w fun e w' => e = .returned (.int .i64 4) ∧ w' = w)) :
    Calls Tryd.prog 3 #[.string t] w fun e w' => e = .returned (.bool true) ∧ w' = w := by
  have n1 : (n != n) = false := by simp
  have m1 : (m != m) = false := by simp
  go_enter Tryd.func3, Tryd.ntmps3
  go_wp2_with (first
    | (go_at_call 5; refine H5.out.mono ?_; rintro e _ ⟨rfl, rfl⟩)
    | (go_at_call 7; refine H7.out.mono ?_; rintro e _ ⟨rfl, rfl⟩)
    | (go_at_call 4; rw [← hu.out]; refine G4.out.mono ?_; rintro e _ ⟨rfl, rfl⟩)
    | (go_at_call 4; refine F4.out.mono ?_; rintro e _ ⟨rfl, rfl⟩)
    | (go_at_call 6; rw [← hu.out]; refine G6.out.mono ?_; rintro e _ ⟨rfl, rfl⟩)
    | (go_at_call 6; refine F6.out.mono ?_; rintro e _ ⟨rfl, rfl⟩)
    | go_in)
  all_goals go_ret
  all_goals exact ⟨rfl, rfl⟩

theorem typesNames_any (t : ByteArray) (w : World) (hs : t.size ≤ 9223372036854775807) (hr : w.rangeAt 0 0 plCells) :
    Calls Tryd.prog 3 #[.string t] w fun e w' => e = .returned (.bool true) ∧ w' = w := by
  refine names_walk t intArr w (sortR 0 t : Int) (kindN (sortR 0 t) : Int) rfl (sort_any t w hs hr) (refSort_any t w hs) (kind_any t w hs hr) (refKind_any t w hs) ?_ ?_
  · have := sort_any intArr w (by decide) hr
    rw [sort_head] at this
    exact this
  · have := kind_any intArr w (by decide) hr
    rw [sort_head] at this
    exact this
end Go.Proofs.YtnnglgolddhigaaDoor
