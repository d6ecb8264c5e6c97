import Derived.Test.YtekgnogjfggnmaaGreatDoorN40
import Derived.Test.YtekgnogjfggnmaaGreatDoorN25
namespace Go.Proofs.YtekgnogjfggnmaaGreatDoor
open Go.RowKit
set_option maxRecDepth 100000
set_option maxHeartbeats 400000
def ErrT (w : World) : Prop := (∃ te pe, w.cell? ⟨10, 0, none⟩ = some (.iface te pe)) ∧ ∃ te pe, w.cell? ⟨11, 0, none⟩ = some (.iface te pe)
theorem parse_ok (s : ByteArray) (w : World) (hs : s.size ≤ 140737488355328) (v : Int) (h : Lib.parseIntB 64 s.data.toList = .ok v) :
 Calls Tryz.prog 97 #[.string s, .int .i64 10, .int .i64 64] w fun e w' => e = .returned (.tuple #[.int .i64 v, .nilIface]) ∧ Below w.heap.size w w' := by
 refine (Tryz.strconv_ParseInt_10_at64_ok s (by omega) v h w).mono ?_
 rintro e w' ⟨rfl, hw | ⟨t, hw⟩⟩
 ·subst hw; exact ⟨rfl, Below.refl _ _⟩
 ·subst hw; exact ⟨rfl, Lib.bytesWorld_below _ _ _⟩
theorem parse_no (s : ByteArray) (w : World) (hs : s.size ≤ 140737488355328) (he : ErrT w) (h : ∀ v, Lib.parseIntB 64 s.data.toList ≠ .ok v) :
 Calls Tryz.prog 97 #[.string s, .int .i64 10, .int .i64 64] w fun e w' => (∃ u t N, e = .returned (.tuple #[.int .i64 u, .iface t (.pointer (some ⟨N, 0, none⟩))])) ∧ Below w.heap.size w w' := by
 obtain ⟨⟨t1, p1, h1⟩, ⟨t2, p2, h2⟩⟩ := he
 cases hp : Lib.parseIntB 64 s.data.toList with
 | ok v => exact absurd hp (h v)
 | «syntax» =>
  refine (Tryz.strconv_ParseInt_10_at64_syntax s (by omega) hp _ w h1 (Or.inr ⟨_, _, rfl⟩)).mono ?_
  rintro e w' ⟨N, rfl, _, _, hb⟩
  exact ⟨⟨_, _, _, rfl⟩, hb⟩
 | range =>
  refine (Tryz.strconv_ParseInt_10_at64_range s (by omega) hp _ w h2 (Or.inr ⟨_, _, rfl⟩)).mono ?_
  rintro e w' ⟨N, rfl, _, _, hb⟩
  exact ⟨⟨_, _, _, rfl⟩, hb⟩
theorem readNumber_any (s : ByteArray) (w : World) (T : TypeId) (p : Value) (h : NoD w T p) (ht : Tab10 w) (hB : 15 ≤ w.heap.size) (he : ErrT w) (hs : s.size ≤ 140737488355328) :
 Calls Tryz.prog 64 #[.string s] w fun e w' => Hid (Ans e T p ((numS s.data.toList).map fun v => .int .i64 v)) ∧ Below w.heap.size w w' := by
 have HN : Hid (∀ w' : World, Below w.heap.size w w' → w'.cell? ⟨0, 0, none⟩ = some (.iface T p)) := fun w' hb => h.next hb
 have HT : Hid (∀ w' : World, Below w.heap.size w w' → Tab10 w') := fun w' hb => ht.on hb hB
 by_cases hp : ∃ v, Lib.parseIntB 64 s.data.toList = .ok v
 ·obtain ⟨v, hv⟩ := hp
  have hbd := Lib.parseIntB_bounds hv
  have HP : Hid (∀ w', Calls Tryz.prog 97 #[.string s, .int .i64 10, .int .i64 64] w' fun e w'' => e = .returned (.tuple #[.int .i64 v, .nilIface]) ∧ Below w'.heap.size w' w'') := fun w' => parse_ok s w' hs v hv
  obtain ⟨x, hx⟩ : ∃ x, x = bk (Lib.itoa v) := ⟨_, rfl⟩
  have HF : Hid (∀ w', Below w.heap.size w w' → Calls Tryz.prog 41 #[.int .i64 v, .int .i64 10] w' fun e w'' => e = .returned (.string x) ∧ Below w'.heap.size w' w'') := fun w' hb => by
   rw [hx]
   exact fmt_any v w' (by have := hbd.1; omega) (by have := hbd.2; omega) (HT.out w' hb)
  have HX : Hid (x = bk (Lib.itoa v)) := hx
  have HV : Hid (Lib.parseIntB 64 s.data.toList = .ok v) := hv
  clear hx hv hbd ht he h HT
  go_enter Tryz.func64, Tryz.ntmps64
  go_wp2_with (first
   | (go_at_call 97; refine (HP.out _).mono ?_; rintro e w1 ⟨rfl, hw1⟩; have hn1 := HN.out w1 hw1)
   | (go_at_call 41; refine (HF.out _ hw1).mono ?_; rintro e w2 ⟨rfl, hw2⟩; have hw12 := hw1.trans (hw2.mono hw1.size); have hn2 := HN.out w2 hw12)
   | go_in)
  ·have h1 : (!x.toList == s.toList) = true := by assumption
   refine ⟨rfl, ?_, hw12⟩
   show Ans _ T p _
   have : numS s.data.toList = none := by
    unfold numS
    rw [HV.out]
    refine if_neg fun e => ?_
    rw [toL, toL, HX.out, bk_list, e] at h1
    simp at h1
   rw [this]
   exact (rfl : _ = _)
  ·have h1 : (!x.toList == s.toList) = false := by assumption
   go_ret
   refine ⟨?_, hw12⟩
   show Ans _ T p _
   have : numS s.data.toList = some v := by
    unfold numS
    rw [HV.out]
    refine if_pos ?_
    rw [toL, toL, HX.out, bk_list] at h1
    simpa using h1
   rw [this]
   exact (rfl : _ = _)
 ·have hno : ∀ v, Lib.parseIntB 64 s.data.toList ≠ .ok v := fun v e => hp ⟨v, e⟩
  have HE : Hid (numS s.data.toList = none) := by
   show numS s.data.toList = none
   unfold numS
   split
   ·rename_i v e; exact absurd e (hno v)
   ·rfl
  have HP : Hid (Calls Tryz.prog 97 #[.string s, .int .i64 10, .int .i64 64] w fun e w' => (∃ u t N, e = .returned (.tuple #[.int .i64 u, .iface t (.pointer (some ⟨N, 0, none⟩))])) ∧ Below w.heap.size w w') := parse_no s w hs he hno
  clear hp hno ht he h HT
  go_enter Tryz.func64, Tryz.ntmps64
  go_wp2_with (first
   | (go_at_call 97; refine HP.out.mono ?_; rintro e w1 ⟨⟨u, t, N, rfl⟩, hw1⟩; have hn1 := HN.out w1 hw1)
   | go_in)
  refine ⟨rfl, ?_, hw1⟩
  show Ans _ T p _
  rw [HE.out]
  exact (rfl : _ = _)
end Go.Proofs.YtekgnogjfggnmaaGreatDoor
