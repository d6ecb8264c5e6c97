import Derived.Lib.QuietBelow
import Derived.Test.YtlahcmhjnhangaaDoorFmt
import Derived.Test.YtlahcmhjnhangaaDoorTokAt
import Derived.Test.YtlahcmhjnhangaaDoorQuote
namespace Go.Proofs.YtlahcmhjnhangaaDoor
open Go.RowKit Go.Shelf

/-- The library's table of the powers of ten stands as the program's text lays it. -/
def Tab10 (W : World) : Prop := Lib.TabIs Tryd.prog W "internal/strconv.uint64pow10" .u64 Lib.pow10Tab

theorem var_below {P : Program} {W W' : World} {n : String} {cs : Array Value} (h : W.var? P n = some cs) (hb : Below W.heap.size W W') : W'.var? P n = some cs := by
  unfold World.var? at h ⊢
  cases hg : P.globalNamed n with
  | none => simp [hg] at h
  | some g =>
    simp only [hg, Option.bind_some] at h ⊢
    have hlt : g < W.heap.size := by
      rcases Nat.lt_or_ge g W.heap.size with h' | h'
      · exact h'
      · simp [Array.getElem?_eq_none h'] at h
    rw [hb.block g hlt]
    exact h
theorem Tab10.next {W W' : World} (h : Tab10 W) (hb : Below W.heap.size W W') : Tab10 W' := var_below h hb

theorem fmt_any (n : Int) (w : World) (h0 : -9223372036854775808 ≤ n) (h1 : n ≤ 9223372036854775807) (ht : Tab10 w) :
    Calls Tryd.prog 38 #[.int .i64 n, .int .i64 10] w fun e w' => e = .returned (.string ⟨(Lib.itoa n).toArray⟩) ∧ Below w.heap.size w w' := by
  refine (Tryd.strconv_FormatInt_10 n h0 h1 w ht).mono ?_
  rintro e w' ⟨rfl, k, os, rfl⟩
  exact ⟨rfl, below_regrown w (w.drawn + k) os⟩

/-- What a source would have to say for a token; nothing, if it can't say it. -/
def wrS (k : Int) (s : ByteArray) (n : Int) : ByteArray :=
  if k = 1 ∨ k = 4 ∨ k = 5 then s else if k = 2 then ⟨(Lib.itoa n).toArray⟩ else if k = 3 ∧ s.size ≤ 200 then ⟨(qt s.data.toList).toArray⟩ else ⟨#[]⟩

def tokV (k a e : Int) (s : ByteArray) (n : Int) : Value := .agg #[.int .i64 k, .int .i64 a, .int .i64 e, .string s, .int .i64 n]

set_option maxRecDepth 100000 in
set_option maxHeartbeats 1000000 in
theorem asW_any (k a e n : Int) (s : ByteArray) (w : World) (h0 : -9223372036854775808 ≤ n) (h1 : n ≤ 9223372036854775807) (ht : Tab10 w) :
    Calls Tryd.prog 26 #[.agg #[.int .i64 k, .int .i64 a, .int .i64 e, .string s, .int .i64 n]] w fun e w' => e = .returned (.string (wrS k s n)) ∧ Below w.heap.size w w' := by
  have HT : Hid (Tab10 w) := ht
  clear ht
  obtain ⟨b, hb⟩ : ∃ b : ByteArray, Hid (b = ⟨(qt s.data.toList).toArray⟩) := ⟨_, rfl⟩
  obtain ⟨c, hc⟩ : ∃ c : ByteArray, Hid (c = ⟨(Lib.itoa n).toArray⟩) := ⟨_, rfl⟩
  obtain ⟨r, hr⟩ : ∃ r : ByteArray, Hid (r = wrS k s n) := ⟨_, rfl⟩
  rw [← hr.out]
  go_enter Tryd.func26, Tryd.ntmps26
  go_wp2_with (first
    | (go_at_call 38; refine (fmt_any n _ h0 h1 (HT.out.next ((Below.refl _ w).alloc (Nat.le_refl _) _))).mono ?_; rintro e w2 ⟨rfl, hb2⟩; rw [← hc.out])
    | (go_at_call 11; refine (quote_any s b _ (by omega) hb).mono ?_; rintro e w2 ⟨rfl, hb2⟩)
    | go_in)
  all_goals go_ret
  all_goals simp only [beq_iff_eq, beq_eq_false_iff_ne, ne_eq] at *
  all_goals refine ⟨?_, ?_⟩
  all_goals first
    | exact (Below.refl _ w).alloc (Nat.le_refl _) _
    | exact ((Below.refl _ w).alloc (Nat.le_refl _) _).trans (hb2.mono (by simp))
    | skip
  all_goals rw [hr.out]
  · simp [wrS, *]
  · simp [wrS, *]
  · simp [wrS, *]
  · rw [hc.out]; simp [wrS, *]
  · have h3 : s.size ≤ 200 := by omega
    rw [hb.out]; simp [wrS, *]
  · have h3 : ¬ s.size ≤ 200 := by omega
    simp [wrS, *]
  · simp [wrS, *]
end Go.Proofs.YtlahcmhjnhangaaDoor
