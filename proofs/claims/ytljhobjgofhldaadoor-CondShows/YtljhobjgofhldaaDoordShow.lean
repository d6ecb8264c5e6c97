import Derived.Lib.QuietBelow
import Derived.Lib.ItoaLen
import Derived.Test.YtljhobjgofhldaaDoorQQuote
import Derived.Test.YtljhobjgofhldaaDoordOfs
import Derived.Test.YtljhobjgofhldaaDoorShB
namespace Go.Proofs.YtljhobjgofhldaaDoor
open Go.RowKit Go.Shelf

/-- The library's table of the powers of ten stands as the program's text lays it. -/
def Tab10 (W : World) : Prop := Lib.TabIs Tryd.prog W "internal/strconv.uint64pow10" .u64 Lib.pow10Tab
theorem var_below {P : Program} {W W' : World} {n : String} {cs : Array Value} (h : W.var? P n = some cs) (hb : Below W.heap.size W W') : W'.var? P n = some cs := by
  unfold World.var? at h ⊢
  cases hg : P.globalNamed n with
  | none => simp [hg] at h
  | some g =>
    simp only [hg, Option.bind_some] at h ⊢
    have hlt : g < W.heap.size := by
      rcases Nat.lt_or_ge g W.heap.size with h' | h'
      · exact h'
      · simp [Array.getElem?_eq_none h'] at h
    rw [hb.block g hlt]
    exact h
theorem Tab10.next {W W' : World} (h : Tab10 W) (hb : Below W.heap.size W W') : Tab10 W' := var_below h hb
theorem fmt_any (n : Int) (w : World) (h0 : -9223372036854775808 ≤ n ∧ n ≤ 9223372036854775807) (ht : Tab10 w) :
    Calls Tryd.prog 21 #[.int .i64 n, .int .i64 10] w fun e w' => e = .returned (.string ⟨(Lib.itoa n).toArray⟩) ∧ Below w.heap.size w w' := by
  refine (Tryd.strconv_FormatInt_10 n h0.1 h0.2 w ht).mono ?_
  rintro e w' ⟨rfl, k, os, rfl⟩
  exact ⟨rfl, below_regrown w (w.drawn + k) os⟩

/-- What Str answers. -/
def strS (k n : Int) (s : ByteArray) : ByteArray :=
  if okV k n s = true then (if k = 1 then ⟨(Lib.itoa n).toArray⟩ else if k = 2 then ⟨(Lib.formatBool (n == 1)).toArray⟩ else if k = 3 then s else e0) else e0
/-- What Show answers. -/
def showS (k n : Int) (s : ByteArray) : ByteArray :=
  if okV k n s = true then (if k = 3 then ⟨(Lx.qt s.data.toList).toArray⟩ else if k = 4 then (⟨#[35]⟩ : ByteArray) ++ ⟨(Lib.itoa n).toArray⟩ else if k = 0 then ⟨#[45]⟩ else strS k n s) else ⟨#[63]⟩
theorem str_size {k n : Int} {s : ByteArray} (h : okV k n s = true) : s.size ≤ 256 := by
  have h0 : s.toList = [] → s.size ≤ 256 := fun e => by rw [eq_e0 e]; decide
  unfold okV at h
  repeat' split at h
  all_goals simp at h
  · exact h0 h.2
  · exact h0 h
  · exact h0 h.2
  · omega
  · exact h0 h.2

set_option maxRecDepth 100000 in
set_option maxHeartbeats 1000000 in
theorem str_any (k n : Int) (s : ByteArray) (w : World) (hs : s.size ≤ 9223372036854775807) (hn : -9223372036854775808 ≤ n ∧ n ≤ 9223372036854775807) (ht : Tab10 w) :
    Calls Tryd.prog 26 #[.agg #[.int .i64 k, .int .i64 n, .string s]] w fun e w' => e = .returned (.string (strS k n s)) ∧ Below w.heap.size w w' := by
  have B1 : Below w.heap.size w (w.alloc (.cells #[.int .i64 k, .int .i64 n, .string s] 26)) := (Below.refl _ w).alloc (Nat.le_refl _) _
  have m0 := Box3.new w k n s 26
  have cv := fun W : World => valid_any k n s W hs
  cases hv : okV k n s with
  | false =>
    rw [hv] at cv
    rw [show strS k n s = e0 by unfold strS; rw [hv]; rfl]
    go_enter Tryd.func26, Tryd.ntmps26
    go_wp2_with fail
    refine (cv _).mono ?_
    rintro e w1 ⟨rfl, hb⟩
    have m := m0.below hb (by simp)
    have B := B1.trans (hb.mono B1.size)
    have T : Tab10 w1 := ht.next B
    clear hb
    obtain ⟨⟨⟨x0, f0⟩, ⟨x1, f1⟩⟩, x2, f2⟩ := id m
    go_wp2
    go_ret
    exact ⟨rfl, B⟩
  | true =>
  rw [hv] at cv
  have hz := str_size hv
  rw [show strS k n s = (if k = 1 then ⟨(Lib.itoa n).toArray⟩ else if k = 2 then ⟨(Lib.formatBool (n == 1)).toArray⟩ else if k = 3 then s else e0) by unfold strS; rw [if_pos hv]]
  by_cases h1 : k = 1
  · subst h1
    rw [if_pos rfl]
    go_enter Tryd.func26, Tryd.ntmps26
    go_wp2_with fail
    refine (cv _).mono ?_
    rintro e w1 ⟨rfl, hb⟩
    have m := m0.below hb (by simp)
    have B := B1.trans (hb.mono B1.size)
    have T : Tab10 w1 := ht.next B
    clear hb
    obtain ⟨⟨⟨x0, f0⟩, ⟨x1, f1⟩⟩, x2, f2⟩ := id m
    go_wp2_with fail
    refine (fmt_any n _ hn T).mono ?_
    rintro e w2 ⟨rfl, hb2⟩
    go_wp2
    go_ret
    exact ⟨rfl, B.trans (hb2.mono B.size)⟩
  rw [if_neg h1]
  by_cases h2 : k = 2
  · subst h2
    rw [if_pos rfl]
    have cf := fun W : World => Tryd.strconv_FormatBool (n == 1) W
    go_enter Tryd.func26, Tryd.ntmps26
    go_wp2_with fail
    refine (cv _).mono ?_
    rintro e w1 ⟨rfl, hb⟩
    have m := m0.below hb (by simp)
    have B := B1.trans (hb.mono B1.size)
    have T : Tab10 w1 := ht.next B
    clear hb
    obtain ⟨⟨⟨x0, f0⟩, ⟨x1, f1⟩⟩, x2, f2⟩ := id m
    go_wp2_with fail
    refine (cf _).mono ?_
    rintro e _ ⟨rfl, rfl⟩
    go_wp2
    go_ret
    exact ⟨rfl, B⟩
  rw [if_neg h2]
  by_cases h3 : k = 3
  · subst h3
    rw [if_pos rfl]
    go_enter Tryd.func26, Tryd.ntmps26
    go_wp2_with fail
    refine (cv _).mono ?_
    rintro e w1 ⟨rfl, hb⟩
    have m := m0.below hb (by simp)
    have B := B1.trans (hb.mono B1.size)
    have T : Tab10 w1 := ht.next B
    clear hb
    obtain ⟨⟨⟨x0, f0⟩, ⟨x1, f1⟩⟩, x2, f2⟩ := id m
    go_wp2_with fail
    refine (clone_any s _ (by omega)).mono ?_
    rintro e w2 ⟨rfl, hb2⟩
    go_wp2
    go_ret
    exact ⟨rfl, B.trans (hb2.mono B.size)⟩
  rw [if_neg h3]
  go_enter Tryd.func26, Tryd.ntmps26
  go_wp2_with fail
  refine (cv _).mono ?_
  rintro e w1 ⟨rfl, hb⟩
  have m := m0.below hb (by simp)
  have B := B1.trans (hb.mono B1.size)
  have T : Tab10 w1 := ht.next B
  clear hb
  obtain ⟨⟨⟨x0, f0⟩, ⟨x1, f1⟩⟩, x2, f2⟩ := id m
  go_wp2
  go_ret
  exact ⟨rfl, B⟩

set_option maxRecDepth 100000 in
set_option maxHeartbeats 1000000 in
theorem show_any (k n : Int) (s : ByteArray) (w : World) (hs : s.size ≤ 9223372036854775807) (hn : -9223372036854775808 ≤ n ∧ n ≤ 9223372036854775807) (ht : Tab10 w) :
    Calls Tryd.prog 17 #[.agg #[.int .i64 k, .int .i64 n, .string s]] w fun e w' => e = .returned (.string (showS k n s)) ∧ Below w.heap.size w w' := by
  have B1 : Below w.heap.size w (w.alloc (.cells #[.int .i64 k, .int .i64 n, .string s] 26)) := (Below.refl _ w).alloc (Nat.le_refl _) _
  have m0 := Box3.new w k n s 26
  have cv := fun W : World => valid_any k n s W hs
  cases hv : okV k n s with
  | false =>
    rw [hv] at cv
    rw [show showS k n s = ⟨#[63]⟩ by unfold showS; rw [hv]; rfl]
    go_enter Tryd.func17, Tryd.ntmps17
    go_wp2_with fail
    refine (cv _).mono ?_
    rintro e w1 ⟨rfl, hb⟩
    have m := m0.below hb (by simp)
    have B := B1.trans (hb.mono B1.size)
    have T : Tab10 w1 := ht.next B
    clear hb
    obtain ⟨⟨⟨x0, f0⟩, ⟨x1, f1⟩⟩, x2, f2⟩ := id m
    go_wp2
    go_ret
    exact ⟨rfl, B⟩
  | true =>
  rw [hv] at cv
  have hz := str_size hv
  rw [show showS k n s = (if k = 3 then ⟨(Lx.qt s.data.toList).toArray⟩ else if k = 4 then (⟨#[35]⟩ : ByteArray) ++ ⟨(Lib.itoa n).toArray⟩ else if k = 0 then ⟨#[45]⟩ else strS k n s) by unfold showS; rw [if_pos hv]]
  by_cases h3 : k = 3
  · subst h3
    rw [if_pos rfl]
    go_enter Tryd.func17, Tryd.ntmps17
    go_wp2_with fail
    refine (cv _).mono ?_
    rintro e w1 ⟨rfl, hb⟩
    have m := m0.below hb (by simp)
    have B := B1.trans (hb.mono B1.size)
    have T : Tab10 w1 := ht.next B
    clear hb
    obtain ⟨⟨⟨x0, f0⟩, ⟨x1, f1⟩⟩, x2, f2⟩ := id m
    go_wp2_with fail
    refine (Lx.quoted_any s _ _ (by omega) rfl).mono ?_
    rintro e w2 ⟨rfl, hb2⟩
    go_wp2
    go_ret
    exact ⟨rfl, B.trans (hb2.mono B.size)⟩
  rw [if_neg h3]
  by_cases h4 : k = 4
  · subst h4
    rw [if_pos rfl]
    have cf := fun (W : World) (hT : Tab10 W) => fmt_any n W hn hT
    have hI : (⟨(Lib.itoa n).toArray⟩ : ByteArray).size ≤ 21 := by rw [show (⟨(Lib.itoa n).toArray⟩ : ByteArray).size = (Lib.itoa n).length from rfl]; exact Lib.itoa_length_le n hn.1 hn.2
    generalize (⟨(Lib.itoa n).toArray⟩ : ByteArray) = I at cf hI ⊢
    go_enter Tryd.func17, Tryd.ntmps17
    go_wp2_with fail
    refine (cv _).mono ?_
    rintro e w1 ⟨rfl, hb⟩
    have m := m0.below hb (by simp)
    have B := B1.trans (hb.mono B1.size)
    have T : Tab10 w1 := ht.next B
    clear hb
    obtain ⟨⟨⟨x0, f0⟩, ⟨x1, f1⟩⟩, x2, f2⟩ := id m
    go_wp2_with fail
    refine (cf _ T).mono ?_
    rintro e w2 ⟨rfl, hb2⟩
    go_wp2
    go_ret
    exact ⟨rfl, B.trans (hb2.mono B.size)⟩
  rw [if_neg h4]
  by_cases h0 : k = 0
  · subst h0
    rw [if_pos rfl]
    go_enter Tryd.func17, Tryd.ntmps17
    go_wp2_with fail
    refine (cv _).mono ?_
    rintro e w1 ⟨rfl, hb⟩
    have m := m0.below hb (by simp)
    have B := B1.trans (hb.mono B1.size)
    have T : Tab10 w1 := ht.next B
    clear hb
    obtain ⟨⟨⟨x0, f0⟩, ⟨x1, f1⟩⟩, x2, f2⟩ := id m
    go_wp2
    go_ret
    exact ⟨rfl, B⟩
  rw [if_neg h0]
  go_enter Tryd.func17, Tryd.ntmps17
  go_wp2_with fail
  refine (cv _).mono ?_
  rintro e w1 ⟨rfl, hb⟩
  have m := m0.below hb (by simp)
  have B := B1.trans (hb.mono B1.size)
  have T : Tab10 w1 := ht.next B
  clear hb
  obtain ⟨⟨⟨x0, f0⟩, ⟨x1, f1⟩⟩, x2, f2⟩ := id m
  go_wp2_with fail
  refine (str_any k n s _ hs hn T).mono ?_
  rintro e w2 ⟨rfl, hb2⟩
  go_wp2
  go_ret
  exact ⟨rfl, B.trans (hb2.mono B.size)⟩
end Go.Proofs.YtljhobjgofhldaaDoor
