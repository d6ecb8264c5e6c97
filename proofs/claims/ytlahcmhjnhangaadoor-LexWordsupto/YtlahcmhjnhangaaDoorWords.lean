import Derived.Test.YtlahcmhjnhangaaDoorKw
import Derived.Test.YtlahcmhjnhangaaDoorRefQuote
namespace Go.Proofs.YtlahcmhjnhangaaDoor
open Go.RowKit

set_option maxRecDepth 100000 in
set_option maxHeartbeats 1000000 in
theorem lexWords_any (s : ByteArray) (w : World) (hs : s.size ≤ 68719476736) (hk : StrIs Tryd.prog w "retrace/lex.keywords" kws) (hk2 : StrIs Tryd.prog w "retrace/retraceref02.keywords" kws) :
    Calls Tryd.prog 3 #[.string s] w fun e w' => e = .returned (.bool true) ∧ Below w.heap.size w w' := by
  have H1 : Hid (StrIs Tryd.prog w "retrace/lex.keywords" kws) := hk
  have H2 : Hid (StrIs Tryd.prog w "retrace/retraceref02.keywords" kws) := hk2
  clear hk hk2
  obtain ⟨b, hb⟩ : ∃ b : ByteArray, b = ⟨(qt s.data.toList).toArray⟩ := ⟨_, rfl⟩
  have HB : Hid (b = ⟨(qt s.data.toList).toArray⟩) := hb
  clear hb
  generalize hq : kw s = q
  have HQ : Hid (kw s = q) := hq
  clear hq
  go_enter Tryd.func3, Tryd.ntmps3
  go_wp2_with (first
    | (go_at_call 9; refine (keyword_any s _ H1.out).mono ?_; rw [HQ.out]; rintro e _ ⟨rfl, rfl⟩)
    | (go_at_call 10; refine (refKeyword_any s _ H2.out).mono ?_; rw [HQ.out]; rintro e _ ⟨rfl, rfl⟩)
    | (go_at_call 11; refine (quote_any s b _ hs HB).mono ?_; rintro e w1 ⟨rfl, hb1⟩)
    | (go_at_call 12; refine (refQuote_any s b _ hs HB).mono ?_; rintro e w2 ⟨rfl, hb2⟩)
    | go_in)
  go_ret
  exact ⟨rfl, hb1.trans (hb2.mono hb1.size)⟩
end Go.Proofs.YtlahcmhjnhangaaDoor
