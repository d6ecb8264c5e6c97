import Derived.Test.YtgncoeihlfcaiaaRefLine
import Derived.Test.YtgncoeihlfcaiaaRound
namespace Go.Proofs.Ytgncoeihlfcaiaa
open Go.RowKit Go.Shelf

theorem rline_is (s : ByteArray) (n : Int) (b : ByteArray) (f : Int) (w : World) (hs : s.size ≤ 140737488355328) (h : Hid (LineIs s.data.toList n b f)) :
    Calls Try.prog 9 #[.string s, .int .i64 n] w fun e w' => e = .returned (.tuple #[.string b, .int .i64 f]) ∧ Below w.heap.size w w' := by
  rcases h.out with ⟨i, hi, h1, h2, rfl, rfl⟩ | ⟨hn, rfl, rfl⟩
  · exact rline_hit s n i w hs (by rw [Lib.size_eq]; exact hi) (Or.inl ⟨i, hi, h1, h2, rfl, rfl⟩)
  · exact rline_miss s n w hs (Or.inr ⟨hn, rfl, rfl⟩)

set_option maxRecDepth 100000 in
set_option maxHeartbeats 2000000 in
theorem slines_core (s : ByteArray) (at_ line col n ar : Int) (b : ByteArray) (f : Int) (w : World) (hs : s.size ≤ 140737488355328) (hl : Hid (LineIs s.data.toList n b f)) :
    Calls Try.prog 3 #[.agg #[.string s, .int .i64 at_, .int .i64 line, .int .i64 col, .int .i64 n, .int .i64 ar]] w fun e w' => e = .returned (.bool true) ∧ Below w.heap.size w w' := by
  have n0 := Spot.new w s at_ line col n ar 25
  go_enter Try.func3, Try.ntmps3
  go_wp2_with fail
  refine (line_is s n b f _ hs hl).mono ?_
  rintro e w1 ⟨rfl, hb⟩
  have m1 := n0.below hb (by simp)
  have B1 : Below w.heap.size w w1 := ((Below.refl _ w).alloc (Nat.le_refl _) _).trans (hb.mono (by simp))
  obtain ⟨q0, q1, q2, q3, q4, q5⟩ := id m1
  clear n0 hb
  go_wp2_with fail
  refine (rline_is s n b f _ hs hl).mono ?_
  rintro e w2 ⟨rfl, hb2⟩
  have B2 : Below w.heap.size w w2 := B1.trans (hb2.mono B1.size)
  clear q0 q1 q2 q3 q4 q5 hb2 m1
  go_wp2
  go_ret
  exact ⟨rfl, B2⟩

/-- SourceLines, at every input. -/
theorem slines_walk (s : ByteArray) (at_ line col n ar : Int) (w : World) (hs : s.size ≤ 140737488355328) :
    Calls Try.prog 3 #[.agg #[.string s, .int .i64 at_, .int .i64 line, .int .i64 col, .int .i64 n, .int .i64 ar]] w fun e w' => e = .returned (.bool true) ∧ Below w.heap.size w w' :=
  slines_core s at_ line col n ar _ _ w hs (lineL_is s.data.toList n)

end Go.Proofs.Ytgncoeihlfcaiaa
