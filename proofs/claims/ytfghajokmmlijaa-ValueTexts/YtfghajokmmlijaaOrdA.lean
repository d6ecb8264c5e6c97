import Derived.Test.YtfghajokmmlijaaOrd
namespace Go.Proofs.Ytfghajokmmlijaa
open Go.RowKit

/-- What the comparisons of two values are told from. -/
structure Cmps (k n : Int) (s : ByteArray) (k' n' : Int) (s' : ByteArray) (o : Int) : Prop where
  bin : ∀ op, 8 ≤ op → op ≤ 13 → binS op k n s k' n' s' = cmpS op o
  back : ∀ op, 8 ≤ op → op ≤ 13 → binS op k' n' s' k n s = cmpS op (-o)
  eq : ((k == k' && n == n') && s.toList == s'.toList) = (o == 0)
  rng : o = -1 ∨ o = 0 ∨ o = 1

set_option maxRecDepth 100000 in
set_option maxHeartbeats 2000000 in
theorem ordered_n (k n : Int) (s : ByteArray) (k' n' : Int) (s' : ByteArray) (w : World) (hs : s.size ≤ 9223372036854775807) (hs' : s'.size ≤ 9223372036854775807) (h : Cmps k n s k' n' s' (-1)) :
    Calls Try.prog 20 #[.agg #[.int .i64 k, .int .i64 n, .string s], .agg #[.int .i64 k', .int .i64 n', .string s']] w fun e w' => e = .returned (.bool true) ∧ Below w.heap.size w w' := by
  have y10 := fun W : World => yes_any 10 k n s k' n' s' true W hs hs' (by rw [h.bin 10 (by decide) (by decide)]; rfl)
  have y12 := fun W : World => yes_any 12 k n s k' n' s' false W hs hs' (by rw [h.bin 12 (by decide) (by decide)]; rfl)
  have y8 := fun W : World => yes_any 8 k n s k' n' s' false W hs hs' (by rw [h.bin 8 (by decide) (by decide)]; rfl)
  have y9 := fun W : World => yes_any 9 k n s k' n' s' true W hs hs' (by rw [h.bin 9 (by decide) (by decide)]; rfl)
  have y11 := fun W : World => yes_any 11 k n s k' n' s' true W hs hs' (by rw [h.bin 11 (by decide) (by decide)]; rfl)
  have y13 := fun W : World => yes_any 13 k n s k' n' s' false W hs hs' (by rw [h.bin 13 (by decide) (by decide)]; rfl)
  have yb := fun W : World => yes_any 10 k' n' s' k n s false W hs' hs (by rw [h.back 10 (by decide) (by decide)]; rfl)
  have he : ∀ W : World, (binOp BinOp.eql 25 (.agg #[.int .i64 k, .int .i64 n, .string s]) (.agg #[.int .i64 k', .int .i64 n', .string s'])).run Try.prog W = .ok (.bool false) W := fun W => by rw [eqlV, h.eq]; rfl
  clear h
  have i0 := Two.new w k n s k' n' s'
  go_enter Try.func20, Try.ntmps20
  go_wp2_with fail
  refine (y10 _).mono ?_
  rintro e w1 ⟨rfl, hb⟩
  have i1 := i0.next hb
  clear hb i0 y10
  obtain ⟨⟨⟨a0, g0⟩, ⟨a1, g1⟩⟩, a2, g2⟩ := id i1.a
  obtain ⟨⟨⟨c0, k0⟩, ⟨c1, k1⟩⟩, c2, k2⟩ := id i1.b
  go_wp2_with fail
  refine (y12 _).mono ?_
  rintro e w2 ⟨rfl, hb⟩
  have i2 := i1.next hb
  clear hb i1 y12 a0 a1 a2 g0 g1 g2 c0 c1 c2 k0 k1 k2
  obtain ⟨⟨⟨a0, g0⟩, ⟨a1, g1⟩⟩, a2, g2⟩ := id i2.a
  obtain ⟨⟨⟨c0, k0⟩, ⟨c1, k1⟩⟩, c2, k2⟩ := id i2.b
  go_wp2_with fail
  refine (y8 _).mono ?_
  rintro e w3 ⟨rfl, hb⟩
  have i3 := i2.next hb
  clear hb i2 y8 a0 a1 a2 g0 g1 g2 c0 c1 c2 k0 k1 k2
  obtain ⟨⟨⟨a0, g0⟩, ⟨a1, g1⟩⟩, a2, g2⟩ := id i3.a
  obtain ⟨⟨⟨c0, k0⟩, ⟨c1, k1⟩⟩, c2, k2⟩ := id i3.b
  go_wp2_with fail
  refine (y9 _).mono ?_
  rintro e w4 ⟨rfl, hb⟩
  have i4 := i3.next hb
  clear hb i3 y9 a0 a1 a2 g0 g1 g2 c0 c1 c2 k0 k1 k2
  obtain ⟨⟨⟨a0, g0⟩, ⟨a1, g1⟩⟩, a2, g2⟩ := id i4.a
  obtain ⟨⟨⟨c0, k0⟩, ⟨c1, k1⟩⟩, c2, k2⟩ := id i4.b
  go_wp2_with fail
  refine (y11 _).mono ?_
  rintro e w5 ⟨rfl, hb⟩
  have i5 := i4.next hb
  clear hb i4 y11 a0 a1 a2 g0 g1 g2 c0 c1 c2 k0 k1 k2
  obtain ⟨⟨⟨a0, g0⟩, ⟨a1, g1⟩⟩, a2, g2⟩ := id i5.a
  obtain ⟨⟨⟨c0, k0⟩, ⟨c1, k1⟩⟩, c2, k2⟩ := id i5.b
  go_wp2_with fail
  refine (y13 _).mono ?_
  rintro e w6 ⟨rfl, hb⟩
  have i6 := i5.next hb
  clear hb i5 y13 a0 a1 a2 g0 g1 g2 c0 c1 c2 k0 k1 k2
  obtain ⟨⟨⟨a0, g0⟩, ⟨a1, g1⟩⟩, a2, g2⟩ := id i6.a
  obtain ⟨⟨⟨c0, k0⟩, ⟨c1, k1⟩⟩, c2, k2⟩ := id i6.b
  go_wp2_with fail
  refine (yb _).mono ?_
  rintro e w7 ⟨rfl, hb⟩
  have i7 := i6.next hb
  clear hb i6 yb a0 a1 a2 g0 g1 g2 c0 c1 c2 k0 k1 k2
  obtain ⟨⟨⟨a0, g0⟩, ⟨a1, g1⟩⟩, a2, g2⟩ := id i7.a
  obtain ⟨⟨⟨c0, k0⟩, ⟨c1, k1⟩⟩, c2, k2⟩ := id i7.b
  go_wp2
  go_ret
  exact ⟨rfl, i7.below⟩

set_option maxRecDepth 100000 in
set_option maxHeartbeats 2000000 in
theorem ordered_z (k n : Int) (s : ByteArray) (k' n' : Int) (s' : ByteArray) (w : World) (hs : s.size ≤ 9223372036854775807) (hs' : s'.size ≤ 9223372036854775807) (h : Cmps k n s k' n' s' (0)) :
    Calls Try.prog 20 #[.agg #[.int .i64 k, .int .i64 n, .string s], .agg #[.int .i64 k', .int .i64 n', .string s']] w fun e w' => e = .returned (.bool true) ∧ Below w.heap.size w w' := by
  have y10 := fun W : World => yes_any 10 k n s k' n' s' false W hs hs' (by rw [h.bin 10 (by decide) (by decide)]; rfl)
  have y12 := fun W : World => yes_any 12 k n s k' n' s' false W hs hs' (by rw [h.bin 12 (by decide) (by decide)]; rfl)
  have y8 := fun W : World => yes_any 8 k n s k' n' s' true W hs hs' (by rw [h.bin 8 (by decide) (by decide)]; rfl)
  have y9 := fun W : World => yes_any 9 k n s k' n' s' false W hs hs' (by rw [h.bin 9 (by decide) (by decide)]; rfl)
  have y11 := fun W : World => yes_any 11 k n s k' n' s' true W hs hs' (by rw [h.bin 11 (by decide) (by decide)]; rfl)
  have y13 := fun W : World => yes_any 13 k n s k' n' s' true W hs hs' (by rw [h.bin 13 (by decide) (by decide)]; rfl)
  have yb := fun W : World => yes_any 10 k' n' s' k n s false W hs' hs (by rw [h.back 10 (by decide) (by decide)]; rfl)
  have he : ∀ W : World, (binOp BinOp.eql 25 (.agg #[.int .i64 k, .int .i64 n, .string s]) (.agg #[.int .i64 k', .int .i64 n', .string s'])).run Try.prog W = .ok (.bool true) W := fun W => by rw [eqlV, h.eq]; rfl
  clear h
  have i0 := Two.new w k n s k' n' s'
  go_enter Try.func20, Try.ntmps20
  go_wp2_with fail
  refine (y10 _).mono ?_
  rintro e w1 ⟨rfl, hb⟩
  have i1 := i0.next hb
  clear hb i0 y10
  obtain ⟨⟨⟨a0, g0⟩, ⟨a1, g1⟩⟩, a2, g2⟩ := id i1.a
  obtain ⟨⟨⟨c0, k0⟩, ⟨c1, k1⟩⟩, c2, k2⟩ := id i1.b
  go_wp2_with fail
  refine (y12 _).mono ?_
  rintro e w2 ⟨rfl, hb⟩
  have i2 := i1.next hb
  clear hb i1 y12 a0 a1 a2 g0 g1 g2 c0 c1 c2 k0 k1 k2
  obtain ⟨⟨⟨a0, g0⟩, ⟨a1, g1⟩⟩, a2, g2⟩ := id i2.a
  obtain ⟨⟨⟨c0, k0⟩, ⟨c1, k1⟩⟩, c2, k2⟩ := id i2.b
  go_wp2_with fail
  refine (y8 _).mono ?_
  rintro e w3 ⟨rfl, hb⟩
  have i3 := i2.next hb
  clear hb i2 y8 a0 a1 a2 g0 g1 g2 c0 c1 c2 k0 k1 k2
  obtain ⟨⟨⟨a0, g0⟩, ⟨a1, g1⟩⟩, a2, g2⟩ := id i3.a
  obtain ⟨⟨⟨c0, k0⟩, ⟨c1, k1⟩⟩, c2, k2⟩ := id i3.b
  go_wp2_with fail
  refine (y9 _).mono ?_
  rintro e w4 ⟨rfl, hb⟩
  have i4 := i3.next hb
  clear hb i3 y9 a0 a1 a2 g0 g1 g2 c0 c1 c2 k0 k1 k2
  obtain ⟨⟨⟨a0, g0⟩, ⟨a1, g1⟩⟩, a2, g2⟩ := id i4.a
  obtain ⟨⟨⟨c0, k0⟩, ⟨c1, k1⟩⟩, c2, k2⟩ := id i4.b
  go_wp2_with fail
  refine (y11 _).mono ?_
  rintro e w5 ⟨rfl, hb⟩
  have i5 := i4.next hb
  clear hb i4 y11 a0 a1 a2 g0 g1 g2 c0 c1 c2 k0 k1 k2
  obtain ⟨⟨⟨a0, g0⟩, ⟨a1, g1⟩⟩, a2, g2⟩ := id i5.a
  obtain ⟨⟨⟨c0, k0⟩, ⟨c1, k1⟩⟩, c2, k2⟩ := id i5.b
  go_wp2_with fail
  refine (y13 _).mono ?_
  rintro e w6 ⟨rfl, hb⟩
  have i6 := i5.next hb
  clear hb i5 y13 a0 a1 a2 g0 g1 g2 c0 c1 c2 k0 k1 k2
  obtain ⟨⟨⟨a0, g0⟩, ⟨a1, g1⟩⟩, a2, g2⟩ := id i6.a
  obtain ⟨⟨⟨c0, k0⟩, ⟨c1, k1⟩⟩, c2, k2⟩ := id i6.b
  go_wp2_with fail
  refine (yb _).mono ?_
  rintro e w7 ⟨rfl, hb⟩
  have i7 := i6.next hb
  clear hb i6 yb a0 a1 a2 g0 g1 g2 c0 c1 c2 k0 k1 k2
  obtain ⟨⟨⟨a0, g0⟩, ⟨a1, g1⟩⟩, a2, g2⟩ := id i7.a
  obtain ⟨⟨⟨c0, k0⟩, ⟨c1, k1⟩⟩, c2, k2⟩ := id i7.b
  go_wp2
  go_ret
  exact ⟨rfl, i7.below⟩

set_option maxRecDepth 100000 in
set_option maxHeartbeats 2000000 in
theorem ordered_p (k n : Int) (s : ByteArray) (k' n' : Int) (s' : ByteArray) (w : World) (hs : s.size ≤ 9223372036854775807) (hs' : s'.size ≤ 9223372036854775807) (h : Cmps k n s k' n' s' (1)) :
    Calls Try.prog 20 #[.agg #[.int .i64 k, .int .i64 n, .string s], .agg #[.int .i64 k', .int .i64 n', .string s']] w fun e w' => e = .returned (.bool true) ∧ Below w.heap.size w w' := by
  have y10 := fun W : World => yes_any 10 k n s k' n' s' false W hs hs' (by rw [h.bin 10 (by decide) (by decide)]; rfl)
  have y12 := fun W : World => yes_any 12 k n s k' n' s' true W hs hs' (by rw [h.bin 12 (by decide) (by decide)]; rfl)
  have y8 := fun W : World => yes_any 8 k n s k' n' s' false W hs hs' (by rw [h.bin 8 (by decide) (by decide)]; rfl)
  have y9 := fun W : World => yes_any 9 k n s k' n' s' true W hs hs' (by rw [h.bin 9 (by decide) (by decide)]; rfl)
  have y11 := fun W : World => yes_any 11 k n s k' n' s' false W hs hs' (by rw [h.bin 11 (by decide) (by decide)]; rfl)
  have y13 := fun W : World => yes_any 13 k n s k' n' s' true W hs hs' (by rw [h.bin 13 (by decide) (by decide)]; rfl)
  have yb := fun W : World => yes_any 10 k' n' s' k n s true W hs' hs (by rw [h.back 10 (by decide) (by decide)]; rfl)
  have he : ∀ W : World, (binOp BinOp.eql 25 (.agg #[.int .i64 k, .int .i64 n, .string s]) (.agg #[.int .i64 k', .int .i64 n', .string s'])).run Try.prog W = .ok (.bool false) W := fun W => by rw [eqlV, h.eq]; rfl
  clear h
  have i0 := Two.new w k n s k' n' s'
  go_enter Try.func20, Try.ntmps20
  go_wp2_with fail
  refine (y10 _).mono ?_
  rintro e w1 ⟨rfl, hb⟩
  have i1 := i0.next hb
  clear hb i0 y10
  obtain ⟨⟨⟨a0, g0⟩, ⟨a1, g1⟩⟩, a2, g2⟩ := id i1.a
  obtain ⟨⟨⟨c0, k0⟩, ⟨c1, k1⟩⟩, c2, k2⟩ := id i1.b
  go_wp2_with fail
  refine (y12 _).mono ?_
  rintro e w2 ⟨rfl, hb⟩
  have i2 := i1.next hb
  clear hb i1 y12 a0 a1 a2 g0 g1 g2 c0 c1 c2 k0 k1 k2
  obtain ⟨⟨⟨a0, g0⟩, ⟨a1, g1⟩⟩, a2, g2⟩ := id i2.a
  obtain ⟨⟨⟨c0, k0⟩, ⟨c1, k1⟩⟩, c2, k2⟩ := id i2.b
  go_wp2_with fail
  refine (y8 _).mono ?_
  rintro e w3 ⟨rfl, hb⟩
  have i3 := i2.next hb
  clear hb i2 y8 a0 a1 a2 g0 g1 g2 c0 c1 c2 k0 k1 k2
  obtain ⟨⟨⟨a0, g0⟩, ⟨a1, g1⟩⟩, a2, g2⟩ := id i3.a
  obtain ⟨⟨⟨c0, k0⟩, ⟨c1, k1⟩⟩, c2, k2⟩ := id i3.b
  go_wp2_with fail
  refine (y9 _).mono ?_
  rintro e w4 ⟨rfl, hb⟩
  have i4 := i3.next hb
  clear hb i3 y9 a0 a1 a2 g0 g1 g2 c0 c1 c2 k0 k1 k2
  obtain ⟨⟨⟨a0, g0⟩, ⟨a1, g1⟩⟩, a2, g2⟩ := id i4.a
  obtain ⟨⟨⟨c0, k0⟩, ⟨c1, k1⟩⟩, c2, k2⟩ := id i4.b
  go_wp2_with fail
  refine (y11 _).mono ?_
  rintro e w5 ⟨rfl, hb⟩
  have i5 := i4.next hb
  clear hb i4 y11 a0 a1 a2 g0 g1 g2 c0 c1 c2 k0 k1 k2
  obtain ⟨⟨⟨a0, g0⟩, ⟨a1, g1⟩⟩, a2, g2⟩ := id i5.a
  obtain ⟨⟨⟨c0, k0⟩, ⟨c1, k1⟩⟩, c2, k2⟩ := id i5.b
  go_wp2_with fail
  refine (y13 _).mono ?_
  rintro e w6 ⟨rfl, hb⟩
  have i6 := i5.next hb
  clear hb i5 y13 a0 a1 a2 g0 g1 g2 c0 c1 c2 k0 k1 k2
  obtain ⟨⟨⟨a0, g0⟩, ⟨a1, g1⟩⟩, a2, g2⟩ := id i6.a
  obtain ⟨⟨⟨c0, k0⟩, ⟨c1, k1⟩⟩, c2, k2⟩ := id i6.b
  go_wp2_with fail
  refine (yb _).mono ?_
  rintro e w7 ⟨rfl, hb⟩
  have i7 := i6.next hb
  clear hb i6 yb a0 a1 a2 g0 g1 g2 c0 c1 c2 k0 k1 k2
  obtain ⟨⟨⟨a0, g0⟩, ⟨a1, g1⟩⟩, a2, g2⟩ := id i7.a
  obtain ⟨⟨⟨c0, k0⟩, ⟨c1, k1⟩⟩, c2, k2⟩ := id i7.b
  go_wp2
  go_ret
  exact ⟨rfl, i7.below⟩
theorem ordered_any (k n : Int) (s : ByteArray) (k' n' : Int) (s' : ByteArray) (o : Int) (w : World) (hs : s.size ≤ 9223372036854775807) (hs' : s'.size ≤ 9223372036854775807) (h : Cmps k n s k' n' s' o) :
    Calls Try.prog 20 #[.agg #[.int .i64 k, .int .i64 n, .string s], .agg #[.int .i64 k', .int .i64 n', .string s']] w fun e w' => e = .returned (.bool true) ∧ Below w.heap.size w w' := by
  rcases h.rng with rfl | rfl | rfl
  · exact ordered_n k n s k' n' s' w hs hs' h
  · exact ordered_z k n s k' n' s' w hs hs' h
  · exact ordered_p k n s k' n' s' w hs hs' h
end Go.Proofs.Ytfghajokmmlijaa
