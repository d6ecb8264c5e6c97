import Derived.Test.YtfghajokmmlijaaOrdA
namespace Go.Proofs.Ytfghajokmmlijaa
open Go.RowKit

set_option maxRecDepth 100000 in
set_option maxHeartbeats 2000000 in
theorem onward_any (k n : Int) (s : ByteArray) (k' n' : Int) (s' : ByteArray) (k2 n2 : Int) (s2 : ByteArray) (c1 c2 c3 : Bool) (w : World) (hs : s.size ≤ 9223372036854775807) (hs' : s'.size ≤ 9223372036854775807) (hs2 : s2.size ≤ 9223372036854775807)
    (h1 : binS 11 k n s k' n' s' = truS c1) (h2 : binS 11 k' n' s' k2 n2 s2 = truS c2) (h3 : binS 11 k n s k2 n2 s2 = truS c3) (hc : c1 = true → c2 = true → c3 = true) :
    Calls Try.prog 21 #[.agg #[.int .i64 k, .int .i64 n, .string s], .agg #[.int .i64 k', .int .i64 n', .string s'], .agg #[.int .i64 k2, .int .i64 n2, .string s2]] w fun e w' => e = .returned (.bool true) ∧ Below w.heap.size w w' := by
  have y1 := fun W : World => yes_any 11 k n s k' n' s' c1 W hs hs' h1
  have y2 := fun W : World => yes_any 11 k' n' s' k2 n2 s2 c2 W hs' hs2 h2
  have y3 := fun W : World => yes_any 11 k n s k2 n2 s2 c3 W hs hs2 h3
  clear h1 h2 h3
  have i0 := Thr.new w k n s k' n' s' k2 n2 s2
  go_enter Try.func21, Try.ntmps21
  go_wp2_with fail
  refine (y1 _).mono ?_
  rintro e w1 ⟨rfl, hb⟩
  have i1 := i0.next hb
  clear hb i0 y1
  obtain ⟨⟨⟨a0, g0⟩, ⟨a1, g1⟩⟩, a2, g2⟩ := id i1.a
  obtain ⟨⟨⟨u0, k0⟩, ⟨u1, k1⟩⟩, u2, v2⟩ := id i1.b
  obtain ⟨⟨⟨d0, j0⟩, ⟨d1, j1⟩⟩, d2, j2⟩ := id i1.c
  go_wp2_with fail
  refine (y2 _).mono ?_
  rintro e w2 ⟨rfl, hb⟩
  have i2 := i1.next hb
  clear hb i1 y2 a0 a1 a2 g0 g1 g2 u0 u1 u2 k0 k1 v2 d0 d1 d2 j0 j1 j2
  obtain ⟨⟨⟨a0, g0⟩, ⟨a1, g1⟩⟩, a2, g2⟩ := id i2.a
  obtain ⟨⟨⟨u0, k0⟩, ⟨u1, k1⟩⟩, u2, v2⟩ := id i2.b
  obtain ⟨⟨⟨d0, j0⟩, ⟨d1, j1⟩⟩, d2, j2⟩ := id i2.c
  go_wp2_with fail
  refine (y3 _).mono ?_
  rintro e w3 ⟨rfl, hb⟩
  have i3 := i2.next hb
  have B := i3.below
  clear hb i2 y3 a0 a1 a2 g0 g1 g2 u0 u1 u2 k0 k1 v2 d0 d1 d2 j0 j1 j2 i3
  cases c3 with
  | true =>
    clear hc
    go_wp2
    all_goals (go_ret; exact ⟨rfl, B⟩)
  | false =>
    cases c1 with
    | false =>
      clear hc
      go_wp2
      all_goals (go_ret; exact ⟨rfl, B⟩)
    | true =>
      cases c2 with
      | true => exact absurd (hc rfl rfl) (by simp)
      | false =>
        clear hc
        go_wp2
        all_goals (go_ret; exact ⟨rfl, B⟩)
end Go.Proofs.Ytfghajokmmlijaa
