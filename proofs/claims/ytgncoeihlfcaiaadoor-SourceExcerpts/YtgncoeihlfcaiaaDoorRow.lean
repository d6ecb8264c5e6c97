import Derived.Lib.QuietBelow
import Derived.Test.YtgncoeihlfcaiaaDoorShow
namespace Go.Proofs.YtgncoeihlfcaiaaDoor
open Go.RowKit Go.Shelf

/-- The library's table of the powers of ten stands as the program's text lays it. -/
def Tab (W : World) : Prop := Lib.TabIs Tryd.prog W "internal/strconv.uint64pow10" .u64 Lib.pow10Tab

theorem var_below {P : Program} {W W' : World} {n : String} {cs : Array Value} (h : W.var? P n = some cs) (hb : Below W.heap.size W W') : W'.var? P n = some cs := by
  unfold World.var? at h ⊢
  cases hg : P.globalNamed n with
  | none => simp [hg] at h
  | some g =>
    simp only [hg, Option.bind_some] at h ⊢
    have hlt : g < W.heap.size := by
      rcases Nat.lt_or_ge g W.heap.size with h' | h'
      · exact h'
      · simp [Array.getElem?_eq_none h'] at h
    rw [hb.block g hlt]
    exact h
theorem Tab.below {W W' : World} (h : Tab W) (hb : Below W.heap.size W W') : Tab W' := var_below h hb

def itB (n : Int) : ByteArray := ⟨(Lib.itoa n).toArray⟩
theorem itB_size (n : Int) (h0 : 0 ≤ n) (h1 : n ≤ 140737488355350) : (itB n).size ≤ 21 := by
  rw [Lib.size_eq]
  exact Lib.itoa_length_le n (by omega) (by omega)

theorem itoa_any (n : Int) (b : ByteArray) (w : World) (h0 : 0 ≤ n) (h1 : n ≤ 140737488355350) (hb : Hid (b = itB n)) (ht : Tab w) :
    Calls Tryd.prog 10 #[.int .i64 n] w fun e w' => e = .returned (.string b) ∧ Below w.heap.size w w' := by
  refine (Tryd.strconv_Itoa n (by omega) (by omega) w ht).mono ?_
  rintro e w' ⟨rfl, k, os, rfl⟩
  refine ⟨by rw [hb.out]; rfl, ?_⟩
  exact below_regrown w (w.drawn + k) os

/-- A line of an excerpt. -/
def rowB (n : Int) (width : Nat) (line : ByteArray) : ByteArray :=
  if line.size = 0 then (bl (width - (itB n).size) ++ itB n) ++ ⟨#[32, 124]⟩ else (((bl (width - (itB n).size) ++ itB n) ++ ⟨#[32, 124]⟩) ++ ⟨#[32]⟩) ++ shB line
/-- The mark below it. -/
def markB (width col : Nat) : ByteArray := ((bl width ++ ⟨#[32, 124, 32]⟩) ++ bl (col - 1)) ++ ⟨#[94]⟩

theorem empty_of_size {b : ByteArray} (h : b.size = 0) : b = ⟨#[]⟩ := by
  apply ByteArray.ext
  exact Array.eq_empty_of_size_eq_zero h

theorem hid_pair {α : Type} (a : α) : ∃ b : α, Hid (b = a) := ⟨a, rfl⟩

set_option maxRecDepth 100000 in
set_option maxHeartbeats 1000000 in
theorem nrow_any (n : Int) (width : Nat) (line r : ByteArray) (w : World) (h0 : 0 ≤ n) (h1 : n ≤ 140737488355350) (hw : width ≤ 21) (hwn : (itB n).size ≤ width) (hl : line.size ≤ 140737488355328) (hr : Hid (r = rowB n width line)) (ht : Tab w) :
    Calls Tryd.prog 12 #[.int .i64 n, .int .i64 (width : Int), .string line] w fun e w' => e = .returned (.string r) ∧ Below w.heap.size w w' := by
  obtain ⟨d, HD⟩ := hid_pair (itB n)
  obtain ⟨q, HQ⟩ := hid_pair (bl (width - d.size))
  obtain ⟨z, HZ⟩ := hid_pair (shB line)
  have hd : d.size ≤ width := by rw [HD.out]; exact hwn
  have hd1 : (d.size : Int) ≤ width := by omega
  have hq : q.size ≤ 21 := by rw [HQ.out, bl_size]; omega
  have hz : z.size ≤ 140737488355328 := by rw [HZ.out, shB_size]; exact hl
  have HT : Hid (Tab w) := ht
  have HC : Hid ((width : Int) - (d.size : Int) = ((width - d.size : Nat) : Int)) := by show (width : Int) - (d.size : Int) = ((width - d.size : Nat) : Int); omega
  clear ht hwn
  by_cases he : line.size = 0
  · have e : line = ⟨#[]⟩ := empty_of_size he
    have HR : Hid (r = (q ++ d) ++ ⟨#[32, 124]⟩) := by
      show r = _
      rw [hr.out]
      unfold rowB
      rw [if_pos he, HQ.out, HD.out]
    subst e
    clear hr he
    go_enter Tryd.func12, Tryd.ntmps12
    go_wp2_with (first
      | (go_at_call 10; refine (itoa_any n d _ h0 h1 HD HT.out).mono ?_; rintro e w1 ⟨rfl, hb1⟩)
      | (go_at_call 23; refine (blanks_any (width - d.size) _ q _ (by omega) HC HQ).mono ?_; rintro e w2 ⟨rfl, hb2⟩))
    go_ret
    exact ⟨by rw [HR.out]; rfl, hb1.trans (hb2.mono hb1.size)⟩
  · have HR : Hid (r = (((q ++ d) ++ ⟨#[32, 124]⟩) ++ ⟨#[32]⟩) ++ z) := by
      show r = _
      rw [hr.out]
      unfold rowB
      rw [if_neg he, HQ.out, HD.out, HZ.out]
    have be2 : (line.toList == []) = false := by
      rw [beq_eq_false_iff_ne]
      intro e
      rw [Lib.toList_data] at e
      exact he (by rw [Lib.size_eq, e]; rfl)
    clear hr he
    go_enter Tryd.func12, Tryd.ntmps12
    go_wp2_with (first
      | (go_at_call 10; refine (itoa_any n d _ h0 h1 HD HT.out).mono ?_; rintro e w1 ⟨rfl, hb1⟩)
      | (go_at_call 23; refine (blanks_any (width - d.size) _ q _ (by omega) HC HQ).mono ?_; rintro e w2 ⟨rfl, hb2⟩)
      | (go_at_call 24; refine (shown_any line z _ hl HZ).mono ?_; rintro e w3 ⟨rfl, hb3⟩))
    go_ret
    exact ⟨by rw [HR.out]; rfl, (hb1.trans (hb2.mono hb1.size)).trans (hb3.mono (Nat.le_trans hb1.size hb2.size))⟩

set_option maxRecDepth 100000 in
set_option maxHeartbeats 1000000 in
theorem mark_any (width col : Nat) (r : ByteArray) (w : World) (hw : width ≤ 21) (hc1 : 1 ≤ col) (hc2 : col ≤ 140737488355329) (hr : Hid (r = markB width col)) :
    Calls Tryd.prog 13 #[.int .i64 (width : Int), .int .i64 (col : Int)] w fun e w' => e = .returned (.string r) ∧ Below w.heap.size w w' := by
  obtain ⟨p, HP⟩ := hid_pair (bl width)
  obtain ⟨q, HQ⟩ := hid_pair (bl (col - 1))
  have hp : p.size ≤ 21 := by rw [HP.out, bl_size]; exact hw
  have hq : q.size ≤ 140737488355328 := by rw [HQ.out, bl_size]; omega
  have HR : Hid (r = ((p ++ ⟨#[32, 124, 32]⟩) ++ q) ++ ⟨#[94]⟩) := by
    show r = _
    rw [hr.out, HP.out, HQ.out]
    rfl
  have HC : Hid ((col : Int) - 1 = ((col - 1 : Nat) : Int)) := by show (col : Int) - 1 = ((col - 1 : Nat) : Int); omega

  clear hr
  go_enter Tryd.func13, Tryd.ntmps13
  go_wp2_with fail
  refine (blanks_any width _ p _ (by omega) (show Hid ((width : Int) = (width : Int)) from rfl) HP).mono ?_
  rintro e w1 ⟨rfl, hb1⟩
  go_wp2_with fail
  refine (blanks_any (col - 1) _ q _ (by omega) HC HQ).mono ?_
  rintro e w2 ⟨rfl, hb2⟩
  go_wp2
  go_ret
  exact ⟨by rw [HR.out]; rfl, hb1.trans (hb2.mono hb1.size)⟩

end Go.Proofs.YtgncoeihlfcaiaaDoor
