import Derived.Test.YtlahcmhjnhangabDoorTextMath
import Derived.Test.YtlahcmhjnhangabDoorRefQuote
namespace Go.Proofs.YtlahcmhjnhangabDoor
open Go.RowKit Go.Shelf

set_option maxRecDepth 100000 in
set_option maxHeartbeats 1000000 in
theorem said_any (k a z n : Int) (s : ByteArray) (w : World) (h0 : -9223372036854775808 ≤ n) (h1 : n ≤ 9223372036854775807) (hs : s.size ≤ 4194304) (ht : Tab10 w) :
    Calls Tryd.prog 9 #[.agg #[.int .i64 k, .int .i64 a, .int .i64 z, .string s, .int .i64 n]] w fun e w' => e = .returned (.string (sdS k s n)) ∧ Below w.heap.size w w' := by
  have HT : Hid (Tab10 w) := ht
  clear ht
  obtain ⟨b, hb⟩ : ∃ b : ByteArray, Hid (b = ⟨(qt s.data.toList).toArray⟩) := ⟨_, rfl⟩
  obtain ⟨c, hc⟩ : ∃ c : ByteArray, Hid (c = ⟨(Lib.itoa n).toArray⟩) := ⟨_, rfl⟩
  obtain ⟨r, hr⟩ : ∃ r : ByteArray, Hid (r = sdS k s n) := ⟨_, rfl⟩
  rw [← hr.out]
  go_enter Tryd.func9, Tryd.ntmps9
  go_wp2_with (first
    | (go_at_call 11; refine (fmt_any n _ h0 h1 (HT.out.next ((Below.refl _ w).alloc (Nat.le_refl _) _))).mono ?_; rintro e w2 ⟨rfl, hb2⟩; rw [← hc.out])
    | (go_at_call 20; refine (refQuote_any s b _ (by omega) hb).mono ?_; rintro e w2 ⟨rfl, hb2⟩)
    | go_in)
  all_goals go_ret
  all_goals simp only [beq_iff_eq, beq_eq_false_iff_ne, ne_eq] at *
  all_goals refine ⟨?_, ?_⟩
  all_goals first
    | exact (Below.refl _ w).alloc (Nat.le_refl _) _
    | exact ((Below.refl _ w).alloc (Nat.le_refl _) _).trans (hb2.mono (by simp))
    | skip
  all_goals rw [hr.out]
  · rw [hc.out]; simp [sdS, *]
  · rw [hb.out]; simp [sdS, *]
  · simp [sdS, *]
end Go.Proofs.YtlahcmhjnhangabDoor
