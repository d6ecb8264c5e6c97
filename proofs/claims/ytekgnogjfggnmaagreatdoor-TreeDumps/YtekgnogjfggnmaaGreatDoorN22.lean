import Derived.Test.YtekgnogjfggnmaaGreatDoorN20
namespace Go.Proofs.YtekgnogjfggnmaaGreatDoor
open Go.RowKit
set_option maxRecDepth 100000
set_option maxHeartbeats 1000000
theorem fields_8 (ps : Int) (nm lb ty : ByteArray) (op it : Int) (tx : ByteArray) (zz : Int) (w : World) (N rl rn rt : Bool) (hN : ∀ w : World, (binOp BinOp.neq 42 (.agg #[.int .i64 8, .int .i64 0, .string nm, .string ⟨#[]⟩, .string ty, .int .i64 op, .int .i64 it, .string tx, .int .i64 0]) (.agg #[.int .i64 8, .int .i64 0, .string ⟨#[]⟩, .string ⟨#[]⟩, .string ⟨#[]⟩, .int .i64 0, .int .i64 0, .string ⟨#[]⟩, .int .i64 0])).run Tryz.prog w = .ok (.bool N) w)
 (HL : Hid (rCB w 66 lb rl)) (HM : Hid (rCB w 66 nm rn)) (HY : Hid (rCB w 67 ty rt)) :
 Calls Tryz.prog 39 #[.agg #[.int .i64 8, .int .i64 ps, .string nm, .string lb, .string ty, .int .i64 op, .int .i64 it, .string tx, .int .i64 zz]] w fun e w' => e = .returned (.bool ((decide (0 ≤ ps) && !N) && ((lb.toList == []) || rl))) ∧ Below w.heap.size w w' := by
 have hu := And.intro HL (And.intro HM HY)
 clear hu
 obtain ⟨w1, hw1⟩ : ∃ w1, w.alloc (.cells #[.int .i64 8, .int .i64 ps, .string nm, .string lb, .string ty, .int .i64 op, .int .i64 it, .string tx, .int .i64 zz] 42) = w1 := ⟨_, rfl⟩
 have z1 : w.heap.size < w1.heap.size := by rw [← hw1]; simp
 have B1 : Hid (Below w.heap.size w w1) := by show Below _ _ _; rw [← hw1]; exact (Below.refl _ w).alloc (Nat.le_refl _) _
 have SV : Hid (∀ w' : World, Below w1.heap.size w1 w' → nin w w1 8 ps nm lb ty op it tx zz w') := nin_of z1 hw1
 have HBr : Hid _ := bare_8 ps nm lb ty op it tx zz
 by_cases hps : ps < 0
 ·have hf : ((decide (0 ≤ ps) && !N) && ((lb.toList == []) || rl)) = false := by simp [show ¬ 0 ≤ ps by omega]
  rw [hf]
  exact fields_neg hps
 ·have hp0 : decide (0 ≤ ps) = true := by simp; omega
  rw [hp0, Bool.true_and]
  clear hp0
  cases N with
  | true =>
   rw [Bool.not_true, Bool.false_and]
   exact fields_bad _ hps hN fun w' => bare_8 ps nm lb ty op it tx zz w'
  | false =>
   rw [Bool.not_false, Bool.true_and]
   obtain ⟨b, hb⟩ : ∃ b, ((lb.toList == []) || rl) = b := ⟨_, rfl⟩
   have HB : Hid (((lb.toList == []) || rl) = b) := hb
   rw [hb]
   clear hb
   go_enter Tryz.func39, Tryz.ntmps39
   go_upto_region 1 with fail
   have hcd : Below w1.heap.size w1 w1.drew := (Below.refl _ w1).drew
   obtain ⟨c0, c1, c2, c3, c4, c5, c6, c7, c8, _⟩ := SV.out w1 (Below.refl _ _)
   go_region_held3 (nin w w1 8 ps nm lb ty op it tx zz) (exact SV.out _ (by assumption))
    (first
    | (go_at_call 65; refine (HBr.out _).mono ?_; rintro e w2 ⟨rfl, hb2⟩; replace hcd := hcd.trans (hb2.mono hcd.size)))
   obtain ⟨d0, d1, d2, d3, d4, d5, d6, d7, d8, _⟩ := SV.out w2 hcd
   have HBw : Hid (Below w.heap.size w w2) := B1.out.trans (hcd.mono B1.out.size)
   clear SV HBr c0 c1 c2 c3 c4 c5 c6 c7 c8 hN hps hw1
   cases hel : (lb.toList == [])
   all_goals go_upto_region 4 with (first
    | (go_at_call 66; refine (HL.out w2 HBw.out).mono ?_; rintro e w3 ⟨rfl, hw3⟩; subst hw3)
    | go_in)
   all_goals clear HL
   all_goals go_wp2_with (first
    | (go_at_call 66; refine (HM.out w2 HBw.out).mono ?_; rintro e w3 ⟨rfl, hw3⟩; subst hw3)
    | (go_at_call 67; refine (HY.out w2 HBw.out).mono ?_; rintro e w3 ⟨rfl, hw3⟩; subst hw3)
    | go_in)
   all_goals rw [← HB.out]
   all_goals go_ret
   all_goals (refine ⟨?_, HBw.out⟩; first | rfl | (simp; done) | (simp_all; done) | (simp_all; omega))
theorem fields_10 (ps : Int) (nm lb ty : ByteArray) (op it : Int) (tx : ByteArray) (zz : Int) (w : World) (N rl rn rt : Bool) (hN : ∀ w : World, (binOp BinOp.neq 42 (.agg #[.int .i64 10, .int .i64 0, .string nm, .string ⟨#[]⟩, .string ty, .int .i64 op, .int .i64 it, .string tx, .int .i64 0]) (.agg #[.int .i64 10, .int .i64 0, .string ⟨#[]⟩, .string ⟨#[]⟩, .string ⟨#[]⟩, .int .i64 0, .int .i64 0, .string ⟨#[]⟩, .int .i64 0])).run Tryz.prog w = .ok (.bool N) w)
 (HL : Hid (rCB w 66 lb rl)) (HM : Hid (rCB w 66 nm rn)) (HY : Hid (rCB w 67 ty rt)) :
 Calls Tryz.prog 39 #[.agg #[.int .i64 10, .int .i64 ps, .string nm, .string lb, .string ty, .int .i64 op, .int .i64 it, .string tx, .int .i64 zz]] w fun e w' => e = .returned (.bool ((decide (0 ≤ ps) && !N) && ((lb.toList == []) || rl))) ∧ Below w.heap.size w w' := by
 have hu := And.intro HL (And.intro HM HY)
 clear hu
 obtain ⟨w1, hw1⟩ : ∃ w1, w.alloc (.cells #[.int .i64 10, .int .i64 ps, .string nm, .string lb, .string ty, .int .i64 op, .int .i64 it, .string tx, .int .i64 zz] 42) = w1 := ⟨_, rfl⟩
 have z1 : w.heap.size < w1.heap.size := by rw [← hw1]; simp
 have B1 : Hid (Below w.heap.size w w1) := by show Below _ _ _; rw [← hw1]; exact (Below.refl _ w).alloc (Nat.le_refl _) _
 have SV : Hid (∀ w' : World, Below w1.heap.size w1 w' → nin w w1 10 ps nm lb ty op it tx zz w') := nin_of z1 hw1
 have HBr : Hid _ := bare_10 ps nm lb ty op it tx zz
 by_cases hps : ps < 0
 ·have hf : ((decide (0 ≤ ps) && !N) && ((lb.toList == []) || rl)) = false := by simp [show ¬ 0 ≤ ps by omega]
  rw [hf]
  exact fields_neg hps
 ·have hp0 : decide (0 ≤ ps) = true := by simp; omega
  rw [hp0, Bool.true_and]
  clear hp0
  cases N with
  | true =>
   rw [Bool.not_true, Bool.false_and]
   exact fields_bad _ hps hN fun w' => bare_10 ps nm lb ty op it tx zz w'
  | false =>
   rw [Bool.not_false, Bool.true_and]
   obtain ⟨b, hb⟩ : ∃ b, ((lb.toList == []) || rl) = b := ⟨_, rfl⟩
   have HB : Hid (((lb.toList == []) || rl) = b) := hb
   rw [hb]
   clear hb
   go_enter Tryz.func39, Tryz.ntmps39
   go_upto_region 1 with fail
   have hcd : Below w1.heap.size w1 w1.drew := (Below.refl _ w1).drew
   obtain ⟨c0, c1, c2, c3, c4, c5, c6, c7, c8, _⟩ := SV.out w1 (Below.refl _ _)
   go_region_held3 (nin w w1 10 ps nm lb ty op it tx zz) (exact SV.out _ (by assumption))
    (first
    | (go_at_call 65; refine (HBr.out _).mono ?_; rintro e w2 ⟨rfl, hb2⟩; replace hcd := hcd.trans (hb2.mono hcd.size)))
   obtain ⟨d0, d1, d2, d3, d4, d5, d6, d7, d8, _⟩ := SV.out w2 hcd
   have HBw : Hid (Below w.heap.size w w2) := B1.out.trans (hcd.mono B1.out.size)
   clear SV HBr c0 c1 c2 c3 c4 c5 c6 c7 c8 hN hps hw1
   cases hel : (lb.toList == [])
   all_goals go_upto_region 4 with (first
    | (go_at_call 66; refine (HL.out w2 HBw.out).mono ?_; rintro e w3 ⟨rfl, hw3⟩; subst hw3)
    | go_in)
   all_goals clear HL
   all_goals go_wp2_with (first
    | (go_at_call 66; refine (HM.out w2 HBw.out).mono ?_; rintro e w3 ⟨rfl, hw3⟩; subst hw3)
    | (go_at_call 67; refine (HY.out w2 HBw.out).mono ?_; rintro e w3 ⟨rfl, hw3⟩; subst hw3)
    | go_in)
   all_goals rw [← HB.out]
   all_goals go_ret
   all_goals (refine ⟨?_, HBw.out⟩; first | rfl | (simp; done) | (simp_all; done) | (simp_all; omega))
theorem fields_11 (ps : Int) (nm lb ty : ByteArray) (op it : Int) (tx : ByteArray) (zz : Int) (w : World) (N rl rn rt : Bool) (hN : ∀ w : World, (binOp BinOp.neq 42 (.agg #[.int .i64 11, .int .i64 0, .string nm, .string ⟨#[]⟩, .string ty, .int .i64 op, .int .i64 it, .string tx, .int .i64 0]) (.agg #[.int .i64 11, .int .i64 0, .string ⟨#[]⟩, .string ⟨#[]⟩, .string ⟨#[]⟩, .int .i64 0, .int .i64 0, .string ⟨#[]⟩, .int .i64 0])).run Tryz.prog w = .ok (.bool N) w)
 (HL : Hid (rCB w 66 lb rl)) (HM : Hid (rCB w 66 nm rn)) (HY : Hid (rCB w 67 ty rt)) :
 Calls Tryz.prog 39 #[.agg #[.int .i64 11, .int .i64 ps, .string nm, .string lb, .string ty, .int .i64 op, .int .i64 it, .string tx, .int .i64 zz]] w fun e w' => e = .returned (.bool ((decide (0 ≤ ps) && !N) && ((lb.toList == []) || rl))) ∧ Below w.heap.size w w' := by
 have hu := And.intro HL (And.intro HM HY)
 clear hu
 obtain ⟨w1, hw1⟩ : ∃ w1, w.alloc (.cells #[.int .i64 11, .int .i64 ps, .string nm, .string lb, .string ty, .int .i64 op, .int .i64 it, .string tx, .int .i64 zz] 42) = w1 := ⟨_, rfl⟩
 have z1 : w.heap.size < w1.heap.size := by rw [← hw1]; simp
 have B1 : Hid (Below w.heap.size w w1) := by show Below _ _ _; rw [← hw1]; exact (Below.refl _ w).alloc (Nat.le_refl _) _
 have SV : Hid (∀ w' : World, Below w1.heap.size w1 w' → nin w w1 11 ps nm lb ty op it tx zz w') := nin_of z1 hw1
 have HBr : Hid _ := bare_11 ps nm lb ty op it tx zz
 by_cases hps : ps < 0
 ·have hf : ((decide (0 ≤ ps) && !N) && ((lb.toList == []) || rl)) = false := by simp [show ¬ 0 ≤ ps by omega]
  rw [hf]
  exact fields_neg hps
 ·have hp0 : decide (0 ≤ ps) = true := by simp; omega
  rw [hp0, Bool.true_and]
  clear hp0
  cases N with
  | true =>
   rw [Bool.not_true, Bool.false_and]
   exact fields_bad _ hps hN fun w' => bare_11 ps nm lb ty op it tx zz w'
  | false =>
   rw [Bool.not_false, Bool.true_and]
   obtain ⟨b, hb⟩ : ∃ b, ((lb.toList == []) || rl) = b := ⟨_, rfl⟩
   have HB : Hid (((lb.toList == []) || rl) = b) := hb
   rw [hb]
   clear hb
   go_enter Tryz.func39, Tryz.ntmps39
   go_upto_region 1 with fail
   have hcd : Below w1.heap.size w1 w1.drew := (Below.refl _ w1).drew
   obtain ⟨c0, c1, c2, c3, c4, c5, c6, c7, c8, _⟩ := SV.out w1 (Below.refl _ _)
   go_region_held3 (nin w w1 11 ps nm lb ty op it tx zz) (exact SV.out _ (by assumption))
    (first
    | (go_at_call 65; refine (HBr.out _).mono ?_; rintro e w2 ⟨rfl, hb2⟩; replace hcd := hcd.trans (hb2.mono hcd.size)))
   obtain ⟨d0, d1, d2, d3, d4, d5, d6, d7, d8, _⟩ := SV.out w2 hcd
   have HBw : Hid (Below w.heap.size w w2) := B1.out.trans (hcd.mono B1.out.size)
   clear SV HBr c0 c1 c2 c3 c4 c5 c6 c7 c8 hN hps hw1
   cases hel : (lb.toList == [])
   all_goals go_upto_region 4 with (first
    | (go_at_call 66; refine (HL.out w2 HBw.out).mono ?_; rintro e w3 ⟨rfl, hw3⟩; subst hw3)
    | go_in)
   all_goals clear HL
   all_goals go_wp2_with (first
    | (go_at_call 66; refine (HM.out w2 HBw.out).mono ?_; rintro e w3 ⟨rfl, hw3⟩; subst hw3)
    | (go_at_call 67; refine (HY.out w2 HBw.out).mono ?_; rintro e w3 ⟨rfl, hw3⟩; subst hw3)
    | go_in)
   all_goals rw [← HB.out]
   all_goals go_ret
   all_goals (refine ⟨?_, HBw.out⟩; first | rfl | (simp; done) | (simp_all; done) | (simp_all; omega))
theorem fields_9 (ps : Int) (nm lb ty : ByteArray) (op it : Int) (tx : ByteArray) (zz : Int) (w : World) (N rl rn rt : Bool) (hN : ∀ w : World, (binOp BinOp.neq 42 (.agg #[.int .i64 9, .int .i64 0, .string ⟨#[]⟩, .string ⟨#[]⟩, .string ty, .int .i64 op, .int .i64 it, .string tx, .int .i64 0]) (.agg #[.int .i64 9, .int .i64 0, .string ⟨#[]⟩, .string ⟨#[]⟩, .string ⟨#[]⟩, .int .i64 0, .int .i64 0, .string ⟨#[]⟩, .int .i64 0])).run Tryz.prog w = .ok (.bool N) w)
 (HL : Hid (rCB w 66 lb rl)) (HM : Hid (rCB w 66 nm rn)) (HY : Hid (rCB w 67 ty rt)) :
 Calls Tryz.prog 39 #[.agg #[.int .i64 9, .int .i64 ps, .string nm, .string lb, .string ty, .int .i64 op, .int .i64 it, .string tx, .int .i64 zz]] w fun e w' => e = .returned (.bool ((decide (0 ≤ ps) && !N) && (((lb.toList == []) || rl) && rn))) ∧ Below w.heap.size w w' := by
 have hu := And.intro HL (And.intro HM HY)
 clear hu
 obtain ⟨w1, hw1⟩ : ∃ w1, w.alloc (.cells #[.int .i64 9, .int .i64 ps, .string nm, .string lb, .string ty, .int .i64 op, .int .i64 it, .string tx, .int .i64 zz] 42) = w1 := ⟨_, rfl⟩
 have z1 : w.heap.size < w1.heap.size := by rw [← hw1]; simp
 have B1 : Hid (Below w.heap.size w w1) := by show Below _ _ _; rw [← hw1]; exact (Below.refl _ w).alloc (Nat.le_refl _) _
 have SV : Hid (∀ w' : World, Below w1.heap.size w1 w' → nin w w1 9 ps nm lb ty op it tx zz w') := nin_of z1 hw1
 have HBr : Hid _ := bare_9 ps nm lb ty op it tx zz
 by_cases hps : ps < 0
 ·have hf : ((decide (0 ≤ ps) && !N) && (((lb.toList == []) || rl) && rn)) = false := by simp [show ¬ 0 ≤ ps by omega]
  rw [hf]
  exact fields_neg hps
 ·have hp0 : decide (0 ≤ ps) = true := by simp; omega
  rw [hp0, Bool.true_and]
  clear hp0
  cases N with
  | true =>
   rw [Bool.not_true, Bool.false_and]
   exact fields_bad _ hps hN fun w' => bare_9 ps nm lb ty op it tx zz w'
  | false =>
   rw [Bool.not_false, Bool.true_and]
   obtain ⟨b, hb⟩ : ∃ b, (((lb.toList == []) || rl) && rn) = b := ⟨_, rfl⟩
   have HB : Hid ((((lb.toList == []) || rl) && rn) = b) := hb
   rw [hb]
   clear hb
   go_enter Tryz.func39, Tryz.ntmps39
   go_upto_region 1 with fail
   have hcd : Below w1.heap.size w1 w1.drew := (Below.refl _ w1).drew
   obtain ⟨c0, c1, c2, c3, c4, c5, c6, c7, c8, _⟩ := SV.out w1 (Below.refl _ _)
   go_region_held3 (nin w w1 9 ps nm lb ty op it tx zz) (exact SV.out _ (by assumption))
    (first
    | (go_at_call 65; refine (HBr.out _).mono ?_; rintro e w2 ⟨rfl, hb2⟩; replace hcd := hcd.trans (hb2.mono hcd.size)))
   obtain ⟨d0, d1, d2, d3, d4, d5, d6, d7, d8, _⟩ := SV.out w2 hcd
   have HBw : Hid (Below w.heap.size w w2) := B1.out.trans (hcd.mono B1.out.size)
   clear SV HBr c0 c1 c2 c3 c4 c5 c6 c7 c8 hN hps hw1
   cases hel : (lb.toList == [])
   all_goals go_upto_region 4 with (first
    | (go_at_call 66; refine (HL.out w2 HBw.out).mono ?_; rintro e w3 ⟨rfl, hw3⟩; subst hw3)
    | go_in)
   all_goals clear HL
   all_goals go_wp2_with (first
    | (go_at_call 66; refine (HM.out w2 HBw.out).mono ?_; rintro e w3 ⟨rfl, hw3⟩; subst hw3)
    | (go_at_call 67; refine (HY.out w2 HBw.out).mono ?_; rintro e w3 ⟨rfl, hw3⟩; subst hw3)
    | go_in)
   all_goals rw [← HB.out]
   all_goals go_ret
   all_goals (refine ⟨?_, HBw.out⟩; first | rfl | (simp; done) | (simp_all; done) | (simp_all; omega))
theorem fields_20 (ps : Int) (nm lb ty : ByteArray) (op it : Int) (tx : ByteArray) (zz : Int) (w : World) (N rl rn rt : Bool) (hN : ∀ w : World, (binOp BinOp.neq 42 (.agg #[.int .i64 20, .int .i64 0, .string nm, .string lb, .string ty, .int .i64 op, .int .i64 0, .string tx, .int .i64 0]) (.agg #[.int .i64 20, .int .i64 0, .string ⟨#[]⟩, .string ⟨#[]⟩, .string ⟨#[]⟩, .int .i64 0, .int .i64 0, .string ⟨#[]⟩, .int .i64 0])).run Tryz.prog w = .ok (.bool N) w)
 (HL : Hid (rCB w 66 lb rl)) (HM : Hid (rCB w 66 nm rn)) (HY : Hid (rCB w 67 ty rt)) :
 Calls Tryz.prog 39 #[.agg #[.int .i64 20, .int .i64 ps, .string nm, .string lb, .string ty, .int .i64 op, .int .i64 it, .string tx, .int .i64 zz]] w fun e w' => e = .returned (.bool ((decide (0 ≤ ps) && !N) && decide (0 ≤ it))) ∧ Below w.heap.size w w' := by
 have hu := And.intro HL (And.intro HM HY)
 clear hu
 obtain ⟨w1, hw1⟩ : ∃ w1, w.alloc (.cells #[.int .i64 20, .int .i64 ps, .string nm, .string lb, .string ty, .int .i64 op, .int .i64 it, .string tx, .int .i64 zz] 42) = w1 := ⟨_, rfl⟩
 have z1 : w.heap.size < w1.heap.size := by rw [← hw1]; simp
 have B1 : Hid (Below w.heap.size w w1) := by show Below _ _ _; rw [← hw1]; exact (Below.refl _ w).alloc (Nat.le_refl _) _
 have SV : Hid (∀ w' : World, Below w1.heap.size w1 w' → nin w w1 20 ps nm lb ty op it tx zz w') := nin_of z1 hw1
 have HBr : Hid _ := bare_20 ps nm lb ty op it tx zz
 by_cases hps : ps < 0
 ·have hf : ((decide (0 ≤ ps) && !N) && decide (0 ≤ it)) = false := by simp [show ¬ 0 ≤ ps by omega]
  rw [hf]
  exact fields_neg hps
 ·have hp0 : decide (0 ≤ ps) = true := by simp; omega
  rw [hp0, Bool.true_and]
  clear hp0
  cases N with
  | true =>
   rw [Bool.not_true, Bool.false_and]
   exact fields_bad _ hps hN fun w' => bare_20 ps nm lb ty op it tx zz w'
  | false =>
   rw [Bool.not_false, Bool.true_and]
   obtain ⟨b, hb⟩ : ∃ b, decide (0 ≤ it) = b := ⟨_, rfl⟩
   have HB : Hid (decide (0 ≤ it) = b) := hb
   rw [hb]
   clear hb
   go_enter Tryz.func39, Tryz.ntmps39
   go_upto_region 1 with fail
   have hcd : Below w1.heap.size w1 w1.drew := (Below.refl _ w1).drew
   obtain ⟨c0, c1, c2, c3, c4, c5, c6, c7, c8, _⟩ := SV.out w1 (Below.refl _ _)
   go_region_held3 (nin w w1 20 ps nm lb ty op it tx zz) (exact SV.out _ (by assumption))
    (first
    | (go_at_call 65; refine (HBr.out _).mono ?_; rintro e w2 ⟨rfl, hb2⟩; replace hcd := hcd.trans (hb2.mono hcd.size)))
   obtain ⟨d0, d1, d2, d3, d4, d5, d6, d7, d8, _⟩ := SV.out w2 hcd
   have HBw : Hid (Below w.heap.size w w2) := B1.out.trans (hcd.mono B1.out.size)
   clear SV HBr c0 c1 c2 c3 c4 c5 c6 c7 c8 hN hps hw1
   cases hel : (lb.toList == [])
   all_goals go_upto_region 4 with (first
    | (go_at_call 66; refine (HL.out w2 HBw.out).mono ?_; rintro e w3 ⟨rfl, hw3⟩; subst hw3)
    | go_in)
   all_goals clear HL
   all_goals go_wp2_with (first
    | (go_at_call 66; refine (HM.out w2 HBw.out).mono ?_; rintro e w3 ⟨rfl, hw3⟩; subst hw3)
    | (go_at_call 67; refine (HY.out w2 HBw.out).mono ?_; rintro e w3 ⟨rfl, hw3⟩; subst hw3)
    | go_in)
   all_goals rw [← HB.out]
   all_goals go_ret
   all_goals (refine ⟨?_, HBw.out⟩; first | rfl | (simp; done) | (simp_all; done) | (simp_all; omega))
theorem fields_12 (ps : Int) (nm lb ty : ByteArray) (op it : Int) (tx : ByteArray) (zz : Int) (w : World) (N rl rn rt : Bool) (hN : ∀ w : World, (binOp BinOp.neq 42 (.agg #[.int .i64 12, .int .i64 0, .string nm, .string lb, .string ty, .int .i64 op, .int .i64 0, .string tx, .int .i64 0]) (.agg #[.int .i64 12, .int .i64 0, .string ⟨#[]⟩, .string ⟨#[]⟩, .string ⟨#[]⟩, .int .i64 0, .int .i64 0, .string ⟨#[]⟩, .int .i64 0])).run Tryz.prog w = .ok (.bool N) w)
 (HL : Hid (rCB w 66 lb rl)) (HM : Hid (rCB w 66 nm rn)) (HY : Hid (rCB w 67 ty rt)) :
 Calls Tryz.prog 39 #[.agg #[.int .i64 12, .int .i64 ps, .string nm, .string lb, .string ty, .int .i64 op, .int .i64 it, .string tx, .int .i64 zz]] w fun e w' => e = .returned (.bool ((decide (0 ≤ ps) && !N) && (decide (0 ≤ it) && decide (it ≤ 40000)))) ∧ Below w.heap.size w w' := by
 have hu := And.intro HL (And.intro HM HY)
 clear hu
 obtain ⟨w1, hw1⟩ : ∃ w1, w.alloc (.cells #[.int .i64 12, .int .i64 ps, .string nm, .string lb, .string ty, .int .i64 op, .int .i64 it, .string tx, .int .i64 zz] 42) = w1 := ⟨_, rfl⟩
 have z1 : w.heap.size < w1.heap.size := by rw [← hw1]; simp
 have B1 : Hid (Below w.heap.size w w1) := by show Below _ _ _; rw [← hw1]; exact (Below.refl _ w).alloc (Nat.le_refl _) _
 have SV : Hid (∀ w' : World, Below w1.heap.size w1 w' → nin w w1 12 ps nm lb ty op it tx zz w') := nin_of z1 hw1
 have HBr : Hid _ := bare_12 ps nm lb ty op it tx zz
 by_cases hps : ps < 0
 ·have hf : ((decide (0 ≤ ps) && !N) && (decide (0 ≤ it) && decide (it ≤ 40000))) = false := by simp [show ¬ 0 ≤ ps by omega]
  rw [hf]
  exact fields_neg hps
 ·have hp0 : decide (0 ≤ ps) = true := by simp; omega
  rw [hp0, Bool.true_and]
  clear hp0
  cases N with
  | true =>
   rw [Bool.not_true, Bool.false_and]
   exact fields_bad _ hps hN fun w' => bare_12 ps nm lb ty op it tx zz w'
  | false =>
   rw [Bool.not_false, Bool.true_and]
   obtain ⟨b, hb⟩ : ∃ b, (decide (0 ≤ it) && decide (it ≤ 40000)) = b := ⟨_, rfl⟩
   have HB : Hid ((decide (0 ≤ it) && decide (it ≤ 40000)) = b) := hb
   rw [hb]
   clear hb
   go_enter Tryz.func39, Tryz.ntmps39
   go_upto_region 1 with fail
   have hcd : Below w1.heap.size w1 w1.drew := (Below.refl _ w1).drew
   obtain ⟨c0, c1, c2, c3, c4, c5, c6, c7, c8, _⟩ := SV.out w1 (Below.refl _ _)
   go_region_held3 (nin w w1 12 ps nm lb ty op it tx zz) (exact SV.out _ (by assumption))
    (first
    | (go_at_call 65; refine (HBr.out _).mono ?_; rintro e w2 ⟨rfl, hb2⟩; replace hcd := hcd.trans (hb2.mono hcd.size)))
   obtain ⟨d0, d1, d2, d3, d4, d5, d6, d7, d8, _⟩ := SV.out w2 hcd
   have HBw : Hid (Below w.heap.size w w2) := B1.out.trans (hcd.mono B1.out.size)
   clear SV HBr c0 c1 c2 c3 c4 c5 c6 c7 c8 hN hps hw1
   cases hel : (lb.toList == [])
   all_goals go_upto_region 4 with (first
    | (go_at_call 66; refine (HL.out w2 HBw.out).mono ?_; rintro e w3 ⟨rfl, hw3⟩; subst hw3)
    | go_in)
   all_goals clear HL
   all_goals go_wp2_with (first
    | (go_at_call 66; refine (HM.out w2 HBw.out).mono ?_; rintro e w3 ⟨rfl, hw3⟩; subst hw3)
    | (go_at_call 67; refine (HY.out w2 HBw.out).mono ?_; rintro e w3 ⟨rfl, hw3⟩; subst hw3)
    | go_in)
   all_goals rw [← HB.out]
   all_goals go_ret
   all_goals (refine ⟨?_, HBw.out⟩; first | rfl | (simp; done) | (simp_all; done) | (simp_all; omega))
end Go.Proofs.YtekgnogjfggnmaaGreatDoor
