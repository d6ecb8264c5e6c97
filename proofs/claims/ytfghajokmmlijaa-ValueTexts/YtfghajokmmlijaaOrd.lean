import Derived.Test.YtfghajokmmlijaaHelp
import Derived.Test.YtfghajokmmlijaaOMath
namespace Go.Proofs.Ytfghajokmmlijaa
open Go.RowKit

/-- Two values in memory. -/
structure Two (w W : World) (k n : Int) (s : ByteArray) (k' n' : Int) (s' : ByteArray) : Prop where
  a : Box3 W w.heap.size k n s
  b : Box3 W (w.heap.size + 1) k' n' s'
  below : Below w.heap.size w W
  size : w.heap.size + 1 < W.heap.size
theorem Two.next {w W W' : World} {k n : Int} {s : ByteArray} {k' n' : Int} {s' : ByteArray} (h : Two w W k n s k' n' s') (hb : Below W.heap.size W W') : Two w W' k n s k' n' s' :=
  ⟨h.a.below hb (by have := h.size; omega), h.b.below hb h.size, h.below.trans (hb.mono h.below.size), Nat.lt_of_lt_of_le h.size hb.size⟩
theorem Two.new (w : World) (k n : Int) (s : ByteArray) (k' n' : Int) (s' : ByteArray) :
    Two w ((w.alloc (.cells #[.int .i64 k, .int .i64 n, .string s] 25)).alloc (.cells #[.int .i64 k', .int .i64 n', .string s'] 25)) k n s k' n' s' := by
  have b0 := (Box3.new w k n s 25)
  have b1 := (Box3.new (w.alloc (.cells #[.int .i64 k, .int .i64 n, .string s] 25)) k' n' s' 25)
  simp only [World.size_alloc] at b1
  exact ⟨b0.alloc _, b1, ((Below.refl _ w).alloc (Nat.le_refl _) _).alloc (by simp) _, by simp⟩
/-- Three values in memory. -/
structure Thr (w W : World) (k n : Int) (s : ByteArray) (k' n' : Int) (s' : ByteArray) (k2 n2 : Int) (s2 : ByteArray) : Prop where
  a : Box3 W w.heap.size k n s
  b : Box3 W (w.heap.size + 1) k' n' s'
  c : Box3 W (w.heap.size + 1 + 1) k2 n2 s2
  below : Below w.heap.size w W
  size : w.heap.size + 1 + 1 < W.heap.size
theorem Thr.next {w W W' : World} {k n : Int} {s : ByteArray} {k' n' : Int} {s' : ByteArray} {k2 n2 : Int} {s2 : ByteArray} (h : Thr w W k n s k' n' s' k2 n2 s2) (hb : Below W.heap.size W W') : Thr w W' k n s k' n' s' k2 n2 s2 :=
  ⟨h.a.below hb (by have := h.size; omega), h.b.below hb (by have := h.size; omega), h.c.below hb h.size, h.below.trans (hb.mono h.below.size), Nat.lt_of_lt_of_le h.size hb.size⟩
theorem Thr.new (w : World) (k n : Int) (s : ByteArray) (k' n' : Int) (s' : ByteArray) (k2 n2 : Int) (s2 : ByteArray) :
    Thr w (((w.alloc (.cells #[.int .i64 k, .int .i64 n, .string s] 25)).alloc (.cells #[.int .i64 k', .int .i64 n', .string s'] 25)).alloc (.cells #[.int .i64 k2, .int .i64 n2, .string s2] 25)) k n s k' n' s' k2 n2 s2 := by
  have b0 := (Box3.new w k n s 25)
  have b1 := (Box3.new (w.alloc (.cells #[.int .i64 k, .int .i64 n, .string s] 25)) k' n' s' 25)
  have b2 := (Box3.new ((w.alloc (.cells #[.int .i64 k, .int .i64 n, .string s] 25)).alloc (.cells #[.int .i64 k', .int .i64 n', .string s'] 25)) k2 n2 s2 25)
  simp only [World.size_alloc] at b1 b2
  exact ⟨(b0.alloc _).alloc _, b1.alloc _, b2, (((Below.refl _ w).alloc (Nat.le_refl _) _).alloc (by simp) _).alloc (by simp; omega) _, by simp⟩

set_option maxRecDepth 100000 in
set_option maxHeartbeats 2000000 in
theorem yes_any (op k n : Int) (s : ByteArray) (k' n' : Int) (s' : ByteArray) (c : Bool) (w : World) (hs : s.size ≤ 9223372036854775807) (hs' : s'.size ≤ 9223372036854775807) (h : binS op k n s k' n' s' = truS c) :
    Calls Try.prog 22 #[.int .i64 op, .agg #[.int .i64 k, .int .i64 n, .string s], .agg #[.int .i64 k', .int .i64 n', .string s']] w fun e w' => e = .returned (.tuple #[.bool c, .bool true]) ∧ Below w.heap.size w w' := by
  have cb := fun W : World => binary_any op k n s k' n' s' W hs hs'
  rw [h] at cb
  have i0 := Two.new w k n s k' n' s'
  cases c with
  | false =>
    rw [show truS false = (2, 0, e0, 0) from rfl] at cb
    go_enter Try.func22, Try.ntmps22
    go_wp2_with fail
    refine (cb _).mono ?_
    rintro e w1 ⟨rfl, hb⟩
    have i1 := i0.next hb
    have B := i1.below.alloc i1.below.size (.cells #[.int .i64 2, .int .i64 0, .string e0] 25)
    have p := Box3.new w1 2 0 e0 25
    clear i0 i1 hb cb h
    go_wp2_with fail
    generalize w1.alloc (.cells #[.int .i64 2, .int .i64 0, .string e0] 25) = X at p B ⊢
    generalize w1.heap.size = xb at *
    have k0 := cell_regrown p.1.1.1
    have k1 := cell_regrown p.1.2.1
    refine wp_region_quiet_below (by kernel_rfl) (by kernel_rfl) ?_
    repeat (first | go_big_quiet_step (fail) | quiet_step (fail))
    refine wpQuiet_nil ?_
    intro _ hw'
    obtain ⟨⟨dq, osq⟩, hw''⟩ := hw'
    subst hw''
    have hY := below_regrown X dq osq
    change Exit.then _ _ Exit.normal _ (Sort.grow (redrawn X dq) osq)
    generalize Sort.grow (redrawn X dq) osq = Y at hY ⊢
    have B8 : Below w.heap.size w Y := B.trans (hY.mono B.size)
    go_wp2
    exact bodyPost_ret (v := .tuple #[.bool false, .bool true]) (by simp [results, Try.results22, go_sem]) rfl ⟨rfl, B8⟩
  
  | true =>
    rw [show truS true = (2, 1, e0, 0) from rfl] at cb
    go_enter Try.func22, Try.ntmps22
    go_wp2_with fail
    refine (cb _).mono ?_
    rintro e w1 ⟨rfl, hb⟩
    have i1 := i0.next hb
    have B := i1.below.alloc i1.below.size (.cells #[.int .i64 2, .int .i64 1, .string e0] 25)
    have p := Box3.new w1 2 1 e0 25
    clear i0 i1 hb cb h
    go_wp2_with fail
    generalize w1.alloc (.cells #[.int .i64 2, .int .i64 1, .string e0] 25) = X at p B ⊢
    generalize w1.heap.size = xb at *
    have k0 := cell_regrown p.1.1.1
    have k1 := cell_regrown p.1.2.1
    refine wp_region_quiet_below (by kernel_rfl) (by kernel_rfl) ?_
    repeat (first | go_big_quiet_step (fail) | quiet_step (fail))
    refine wpQuiet_nil ?_
    intro _ hw'
    obtain ⟨⟨dq, osq⟩, hw''⟩ := hw'
    subst hw''
    have hY := below_regrown X dq osq
    change Exit.then _ _ Exit.normal _ (Sort.grow (redrawn X dq) osq)
    generalize Sort.grow (redrawn X dq) osq = Y at hY ⊢
    have B8 : Below w.heap.size w Y := B.trans (hY.mono B.size)
    go_wp2
    exact bodyPost_ret (v := .tuple #[.bool true, .bool true]) (by simp [results, Try.results22, go_sem]) rfl ⟨rfl, B8⟩
end Go.Proofs.Ytfghajokmmlijaa
