import Derived.Test.YtekgnogjfggnmaaGreatDoorN20
namespace Go.Proofs.YtekgnogjfggnmaaGreatDoor
open Go.RowKit
set_option maxRecDepth 100000
set_option maxHeartbeats 1000000
theorem fields_24 (ps : Int) (nm lb ty : ByteArray) (op it : Int) (tx : ByteArray) (zz : Int) (w : World) (N rl rn rt : Bool) (hN : ∀ w : World, (binOp BinOp.neq 42 (.agg #[.int .i64 24, .int .i64 0, .string nm, .string lb, .string ty, .int .i64 op, .int .i64 it, .string tx, .int .i64 0]) (.agg #[.int .i64 24, .int .i64 0, .string ⟨#[]⟩, .string ⟨#[]⟩, .string ⟨#[]⟩, .int .i64 0, .int .i64 0, .string ⟨#[]⟩, .int .i64 0])).run Tryz.prog w = .ok (.bool N) w)
 (HL : Hid (rCB w 66 lb rl)) (HM : Hid (rCB w 66 nm rn)) (HY : Hid (rCB w 67 ty rt)) :
 Calls Tryz.prog 39 #[.agg #[.int .i64 24, .int .i64 ps, .string nm, .string lb, .string ty, .int .i64 op, .int .i64 it, .string tx, .int .i64 zz]] w fun e w' => e = .returned (.bool ((decide (0 ≤ ps) && !N) && true)) ∧ Below w.heap.size w w' := by
 have hu := And.intro HL (And.intro HM HY)
 clear hu
 obtain ⟨w1, hw1⟩ : ∃ w1, w.alloc (.cells #[.int .i64 24, .int .i64 ps, .string nm, .string lb, .string ty, .int .i64 op, .int .i64 it, .string tx, .int .i64 zz] 42) = w1 := ⟨_, rfl⟩
 have z1 : w.heap.size < w1.heap.size := by rw [← hw1]; simp
 have B1 : Hid (Below w.heap.size w w1) := by show Below _ _ _; rw [← hw1]; exact (Below.refl _ w).alloc (Nat.le_refl _) _
 have SV : Hid (∀ w' : World, Below w1.heap.size w1 w' → nin w w1 24 ps nm lb ty op it tx zz w') := nin_of z1 hw1
 have HBr : Hid (∀ w', Below w1.heap.size w1 w' → Calls Tryz.prog 65 #[.agg #[.int .i64 24, .int .i64 ps, .string nm, .string lb, .string ty, .int .i64 op, .int .i64 it, .string tx, .int .i64 zz]] w' fun e w'' => e = .returned (.agg #[.int .i64 24, .int .i64 0, .string nm, .string lb, .string ty, .int .i64 op, .int .i64 it, .string tx, .int .i64 0]) ∧ Below w'.heap.size w' w'') := fun w' _ => bare_none 24 (by decide) ps nm lb ty op it tx zz w'
 by_cases hps : ps < 0
 ·have hf : ((decide (0 ≤ ps) && !N) && true) = false := by simp [show ¬ 0 ≤ ps by omega]
  rw [hf]
  exact fields_neg hps
 ·have hp0 : decide (0 ≤ ps) = true := by simp; omega
  rw [hp0, Bool.true_and]
  clear hp0
  cases N with
  | true =>
   rw [Bool.not_true, Bool.false_and]
   exact fields_bad _ hps hN fun w' => bare_none 24 (by decide) ps nm lb ty op it tx zz w'
  | false =>
   rw [Bool.not_false, Bool.true_and]
   obtain ⟨b, hb⟩ : ∃ b, true = b := ⟨_, rfl⟩
   have HB : Hid (true = b) := hb
   rw [hb]
   clear hb
   go_enter Tryz.func39, Tryz.ntmps39
   go_upto_region 1 with fail
   have hcd : Below w1.heap.size w1 w1.drew := (Below.refl _ w1).drew
   obtain ⟨c0, c1, c2, c3, c4, c5, c6, c7, c8, _⟩ := SV.out w1 (Below.refl _ _)
   go_region_held3 (nin w w1 24 ps nm lb ty op it tx zz) (exact SV.out _ (by assumption))
    (first
    | (go_at_call 65; refine (HBr.out _ hcd).mono ?_; rintro e w2 ⟨rfl, hb2⟩; replace hcd := hcd.trans (hb2.mono hcd.size)))
   obtain ⟨d0, d1, d2, d3, d4, d5, d6, d7, d8, _⟩ := SV.out w2 hcd
   have HBw : Hid (Below w.heap.size w w2) := B1.out.trans (hcd.mono B1.out.size)
   clear SV HBr c0 c1 c2 c3 c4 c5 c6 c7 c8 hN hps hw1
   cases hel : (lb.toList == [])
   all_goals go_upto_region 4 with (first
    | (go_at_call 66; refine (HL.out w2 HBw.out).mono ?_; rintro e w3 ⟨rfl, hw3⟩; subst hw3)
    | go_in)
   all_goals clear HL
   all_goals go_wp2_with (first
    | (go_at_call 66; refine (HM.out w2 HBw.out).mono ?_; rintro e w3 ⟨rfl, hw3⟩; subst hw3)
    | (go_at_call 67; refine (HY.out w2 HBw.out).mono ?_; rintro e w3 ⟨rfl, hw3⟩; subst hw3)
    | go_in)
   all_goals rw [← HB.out]
   all_goals go_ret
   all_goals (refine ⟨?_, HBw.out⟩; first | rfl | (simp; done) | (simp_all; done) | (simp_all; omega))
theorem fields_29 (ps : Int) (nm lb ty : ByteArray) (op it : Int) (tx : ByteArray) (zz : Int) (w : World) (N rl rn rt : Bool) (hN : ∀ w : World, (binOp BinOp.neq 42 (.agg #[.int .i64 29, .int .i64 0, .string nm, .string lb, .string ty, .int .i64 op, .int .i64 it, .string tx, .int .i64 0]) (.agg #[.int .i64 29, .int .i64 0, .string ⟨#[]⟩, .string ⟨#[]⟩, .string ⟨#[]⟩, .int .i64 0, .int .i64 0, .string ⟨#[]⟩, .int .i64 0])).run Tryz.prog w = .ok (.bool N) w)
 (HL : Hid (rCB w 66 lb rl)) (HM : Hid (rCB w 66 nm rn)) (HY : Hid (rCB w 67 ty rt)) :
 Calls Tryz.prog 39 #[.agg #[.int .i64 29, .int .i64 ps, .string nm, .string lb, .string ty, .int .i64 op, .int .i64 it, .string tx, .int .i64 zz]] w fun e w' => e = .returned (.bool ((decide (0 ≤ ps) && !N) && true)) ∧ Below w.heap.size w w' := by
 have hu := And.intro HL (And.intro HM HY)
 clear hu
 obtain ⟨w1, hw1⟩ : ∃ w1, w.alloc (.cells #[.int .i64 29, .int .i64 ps, .string nm, .string lb, .string ty, .int .i64 op, .int .i64 it, .string tx, .int .i64 zz] 42) = w1 := ⟨_, rfl⟩
 have z1 : w.heap.size < w1.heap.size := by rw [← hw1]; simp
 have B1 : Hid (Below w.heap.size w w1) := by show Below _ _ _; rw [← hw1]; exact (Below.refl _ w).alloc (Nat.le_refl _) _
 have SV : Hid (∀ w' : World, Below w1.heap.size w1 w' → nin w w1 29 ps nm lb ty op it tx zz w') := nin_of z1 hw1
 have HBr : Hid (∀ w', Below w1.heap.size w1 w' → Calls Tryz.prog 65 #[.agg #[.int .i64 29, .int .i64 ps, .string nm, .string lb, .string ty, .int .i64 op, .int .i64 it, .string tx, .int .i64 zz]] w' fun e w'' => e = .returned (.agg #[.int .i64 29, .int .i64 0, .string nm, .string lb, .string ty, .int .i64 op, .int .i64 it, .string tx, .int .i64 0]) ∧ Below w'.heap.size w' w'') := fun w' _ => bare_none 29 (by decide) ps nm lb ty op it tx zz w'
 by_cases hps : ps < 0
 ·have hf : ((decide (0 ≤ ps) && !N) && true) = false := by simp [show ¬ 0 ≤ ps by omega]
  rw [hf]
  exact fields_neg hps
 ·have hp0 : decide (0 ≤ ps) = true := by simp; omega
  rw [hp0, Bool.true_and]
  clear hp0
  cases N with
  | true =>
   rw [Bool.not_true, Bool.false_and]
   exact fields_bad _ hps hN fun w' => bare_none 29 (by decide) ps nm lb ty op it tx zz w'
  | false =>
   rw [Bool.not_false, Bool.true_and]
   obtain ⟨b, hb⟩ : ∃ b, true = b := ⟨_, rfl⟩
   have HB : Hid (true = b) := hb
   rw [hb]
   clear hb
   go_enter Tryz.func39, Tryz.ntmps39
   go_upto_region 1 with fail
   have hcd : Below w1.heap.size w1 w1.drew := (Below.refl _ w1).drew
   obtain ⟨c0, c1, c2, c3, c4, c5, c6, c7, c8, _⟩ := SV.out w1 (Below.refl _ _)
   go_region_held3 (nin w w1 29 ps nm lb ty op it tx zz) (exact SV.out _ (by assumption))
    (first
    | (go_at_call 65; refine (HBr.out _ hcd).mono ?_; rintro e w2 ⟨rfl, hb2⟩; replace hcd := hcd.trans (hb2.mono hcd.size)))
   obtain ⟨d0, d1, d2, d3, d4, d5, d6, d7, d8, _⟩ := SV.out w2 hcd
   have HBw : Hid (Below w.heap.size w w2) := B1.out.trans (hcd.mono B1.out.size)
   clear SV HBr c0 c1 c2 c3 c4 c5 c6 c7 c8 hN hps hw1
   cases hel : (lb.toList == [])
   all_goals go_upto_region 4 with (first
    | (go_at_call 66; refine (HL.out w2 HBw.out).mono ?_; rintro e w3 ⟨rfl, hw3⟩; subst hw3)
    | go_in)
   all_goals clear HL
   all_goals go_wp2_with (first
    | (go_at_call 66; refine (HM.out w2 HBw.out).mono ?_; rintro e w3 ⟨rfl, hw3⟩; subst hw3)
    | (go_at_call 67; refine (HY.out w2 HBw.out).mono ?_; rintro e w3 ⟨rfl, hw3⟩; subst hw3)
    | go_in)
   all_goals rw [← HB.out]
   all_goals go_ret
   all_goals (refine ⟨?_, HBw.out⟩; first | rfl | (simp; done) | (simp_all; done) | (simp_all; omega))
theorem fields_30 (ps : Int) (nm lb ty : ByteArray) (op it : Int) (tx : ByteArray) (zz : Int) (w : World) (N rl rn rt : Bool) (hN : ∀ w : World, (binOp BinOp.neq 42 (.agg #[.int .i64 30, .int .i64 0, .string nm, .string lb, .string ty, .int .i64 op, .int .i64 it, .string tx, .int .i64 0]) (.agg #[.int .i64 30, .int .i64 0, .string ⟨#[]⟩, .string ⟨#[]⟩, .string ⟨#[]⟩, .int .i64 0, .int .i64 0, .string ⟨#[]⟩, .int .i64 0])).run Tryz.prog w = .ok (.bool N) w)
 (HL : Hid (rCB w 66 lb rl)) (HM : Hid (rCB w 66 nm rn)) (HY : Hid (rCB w 67 ty rt)) :
 Calls Tryz.prog 39 #[.agg #[.int .i64 30, .int .i64 ps, .string nm, .string lb, .string ty, .int .i64 op, .int .i64 it, .string tx, .int .i64 zz]] w fun e w' => e = .returned (.bool ((decide (0 ≤ ps) && !N) && true)) ∧ Below w.heap.size w w' := by
 have hu := And.intro HL (And.intro HM HY)
 clear hu
 obtain ⟨w1, hw1⟩ : ∃ w1, w.alloc (.cells #[.int .i64 30, .int .i64 ps, .string nm, .string lb, .string ty, .int .i64 op, .int .i64 it, .string tx, .int .i64 zz] 42) = w1 := ⟨_, rfl⟩
 have z1 : w.heap.size < w1.heap.size := by rw [← hw1]; simp
 have B1 : Hid (Below w.heap.size w w1) := by show Below _ _ _; rw [← hw1]; exact (Below.refl _ w).alloc (Nat.le_refl _) _
 have SV : Hid (∀ w' : World, Below w1.heap.size w1 w' → nin w w1 30 ps nm lb ty op it tx zz w') := nin_of z1 hw1
 have HBr : Hid (∀ w', Below w1.heap.size w1 w' → Calls Tryz.prog 65 #[.agg #[.int .i64 30, .int .i64 ps, .string nm, .string lb, .string ty, .int .i64 op, .int .i64 it, .string tx, .int .i64 zz]] w' fun e w'' => e = .returned (.agg #[.int .i64 30, .int .i64 0, .string nm, .string lb, .string ty, .int .i64 op, .int .i64 it, .string tx, .int .i64 0]) ∧ Below w'.heap.size w' w'') := fun w' _ => bare_none 30 (by decide) ps nm lb ty op it tx zz w'
 by_cases hps : ps < 0
 ·have hf : ((decide (0 ≤ ps) && !N) && true) = false := by simp [show ¬ 0 ≤ ps by omega]
  rw [hf]
  exact fields_neg hps
 ·have hp0 : decide (0 ≤ ps) = true := by simp; omega
  rw [hp0, Bool.true_and]
  clear hp0
  cases N with
  | true =>
   rw [Bool.not_true, Bool.false_and]
   exact fields_bad _ hps hN fun w' => bare_none 30 (by decide) ps nm lb ty op it tx zz w'
  | false =>
   rw [Bool.not_false, Bool.true_and]
   obtain ⟨b, hb⟩ : ∃ b, true = b := ⟨_, rfl⟩
   have HB : Hid (true = b) := hb
   rw [hb]
   clear hb
   go_enter Tryz.func39, Tryz.ntmps39
   go_upto_region 1 with fail
   have hcd : Below w1.heap.size w1 w1.drew := (Below.refl _ w1).drew
   obtain ⟨c0, c1, c2, c3, c4, c5, c6, c7, c8, _⟩ := SV.out w1 (Below.refl _ _)
   go_region_held3 (nin w w1 30 ps nm lb ty op it tx zz) (exact SV.out _ (by assumption))
    (first
    | (go_at_call 65; refine (HBr.out _ hcd).mono ?_; rintro e w2 ⟨rfl, hb2⟩; replace hcd := hcd.trans (hb2.mono hcd.size)))
   obtain ⟨d0, d1, d2, d3, d4, d5, d6, d7, d8, _⟩ := SV.out w2 hcd
   have HBw : Hid (Below w.heap.size w w2) := B1.out.trans (hcd.mono B1.out.size)
   clear SV HBr c0 c1 c2 c3 c4 c5 c6 c7 c8 hN hps hw1
   cases hel : (lb.toList == [])
   all_goals go_upto_region 4 with (first
    | (go_at_call 66; refine (HL.out w2 HBw.out).mono ?_; rintro e w3 ⟨rfl, hw3⟩; subst hw3)
    | go_in)
   all_goals clear HL
   all_goals go_wp2_with (first
    | (go_at_call 66; refine (HM.out w2 HBw.out).mono ?_; rintro e w3 ⟨rfl, hw3⟩; subst hw3)
    | (go_at_call 67; refine (HY.out w2 HBw.out).mono ?_; rintro e w3 ⟨rfl, hw3⟩; subst hw3)
    | go_in)
   all_goals rw [← HB.out]
   all_goals go_ret
   all_goals (refine ⟨?_, HBw.out⟩; first | rfl | (simp; done) | (simp_all; done) | (simp_all; omega))
theorem fields_2 (ps : Int) (nm lb ty : ByteArray) (op it : Int) (tx : ByteArray) (zz : Int) (w : World) (N rl rn rt : Bool) (hN : ∀ w : World, (binOp BinOp.neq 42 (.agg #[.int .i64 2, .int .i64 0, .string ⟨#[]⟩, .string lb, .string ⟨#[]⟩, .int .i64 op, .int .i64 it, .string tx, .int .i64 0]) (.agg #[.int .i64 2, .int .i64 0, .string ⟨#[]⟩, .string ⟨#[]⟩, .string ⟨#[]⟩, .int .i64 0, .int .i64 0, .string ⟨#[]⟩, .int .i64 0])).run Tryz.prog w = .ok (.bool N) w)
 (HL : Hid (rCB w 66 lb rl)) (HM : Hid (rCB w 66 nm rn)) (HY : Hid (rCB w 67 ty rt)) :
 Calls Tryz.prog 39 #[.agg #[.int .i64 2, .int .i64 ps, .string nm, .string lb, .string ty, .int .i64 op, .int .i64 it, .string tx, .int .i64 zz]] w fun e w' => e = .returned (.bool ((decide (0 ≤ ps) && !N) && (rn && ((ty.toList == []) || rt)))) ∧ Below w.heap.size w w' := by
 have hu := And.intro HL (And.intro HM HY)
 clear hu
 obtain ⟨w1, hw1⟩ : ∃ w1, w.alloc (.cells #[.int .i64 2, .int .i64 ps, .string nm, .string lb, .string ty, .int .i64 op, .int .i64 it, .string tx, .int .i64 zz] 42) = w1 := ⟨_, rfl⟩
 have z1 : w.heap.size < w1.heap.size := by rw [← hw1]; simp
 have B1 : Hid (Below w.heap.size w w1) := by show Below _ _ _; rw [← hw1]; exact (Below.refl _ w).alloc (Nat.le_refl _) _
 have SV : Hid (∀ w' : World, Below w1.heap.size w1 w' → nin w w1 2 ps nm lb ty op it tx zz w') := nin_of z1 hw1
 have HBr : Hid _ := bare_2 ps nm lb ty op it tx zz
 by_cases hps : ps < 0
 ·have hf : ((decide (0 ≤ ps) && !N) && (rn && ((ty.toList == []) || rt))) = false := by simp [show ¬ 0 ≤ ps by omega]
  rw [hf]
  exact fields_neg hps
 ·have hp0 : decide (0 ≤ ps) = true := by simp; omega
  rw [hp0, Bool.true_and]
  clear hp0
  cases N with
  | true =>
   rw [Bool.not_true, Bool.false_and]
   exact fields_bad _ hps hN fun w' => bare_2 ps nm lb ty op it tx zz w'
  | false =>
   rw [Bool.not_false, Bool.true_and]
   obtain ⟨b, hb⟩ : ∃ b, (rn && ((ty.toList == []) || rt)) = b := ⟨_, rfl⟩
   have HB : Hid ((rn && ((ty.toList == []) || rt)) = b) := hb
   rw [hb]
   clear hb
   go_enter Tryz.func39, Tryz.ntmps39
   go_upto_region 1 with fail
   have hcd : Below w1.heap.size w1 w1.drew := (Below.refl _ w1).drew
   obtain ⟨c0, c1, c2, c3, c4, c5, c6, c7, c8, _⟩ := SV.out w1 (Below.refl _ _)
   go_region_held3 (nin w w1 2 ps nm lb ty op it tx zz) (exact SV.out _ (by assumption))
    (first
    | (go_at_call 65; refine (HBr.out _).mono ?_; rintro e w2 ⟨rfl, hb2⟩; replace hcd := hcd.trans (hb2.mono hcd.size)))
   obtain ⟨d0, d1, d2, d3, d4, d5, d6, d7, d8, _⟩ := SV.out w2 hcd
   have HBw : Hid (Below w.heap.size w w2) := B1.out.trans (hcd.mono B1.out.size)
   clear SV HBr c0 c1 c2 c3 c4 c5 c6 c7 c8 hN hps hw1
   cases hel : (lb.toList == [])
   all_goals go_upto_region 4 with (first
    | (go_at_call 66; refine (HL.out w2 HBw.out).mono ?_; rintro e w3 ⟨rfl, hw3⟩; subst hw3)
    | go_in)
   all_goals clear HL
   all_goals go_wp2_with (first
    | (go_at_call 66; refine (HM.out w2 HBw.out).mono ?_; rintro e w3 ⟨rfl, hw3⟩; subst hw3)
    | (go_at_call 67; refine (HY.out w2 HBw.out).mono ?_; rintro e w3 ⟨rfl, hw3⟩; subst hw3)
    | go_in)
   all_goals rw [← HB.out]
   all_goals go_ret
   all_goals (refine ⟨?_, HBw.out⟩; first | rfl | (simp; done) | (simp_all; done) | (simp_all; omega))
theorem fields_3 (ps : Int) (nm lb ty : ByteArray) (op it : Int) (tx : ByteArray) (zz : Int) (w : World) (N rl rn rt : Bool) (hN : ∀ w : World, (binOp BinOp.neq 42 (.agg #[.int .i64 3, .int .i64 0, .string ⟨#[]⟩, .string lb, .string ⟨#[]⟩, .int .i64 op, .int .i64 it, .string tx, .int .i64 0]) (.agg #[.int .i64 3, .int .i64 0, .string ⟨#[]⟩, .string ⟨#[]⟩, .string ⟨#[]⟩, .int .i64 0, .int .i64 0, .string ⟨#[]⟩, .int .i64 0])).run Tryz.prog w = .ok (.bool N) w)
 (HL : Hid (rCB w 66 lb rl)) (HM : Hid (rCB w 66 nm rn)) (HY : Hid (rCB w 67 ty rt)) :
 Calls Tryz.prog 39 #[.agg #[.int .i64 3, .int .i64 ps, .string nm, .string lb, .string ty, .int .i64 op, .int .i64 it, .string tx, .int .i64 zz]] w fun e w' => e = .returned (.bool ((decide (0 ≤ ps) && !N) && (rn && rt))) ∧ Below w.heap.size w w' := by
 have hu := And.intro HL (And.intro HM HY)
 clear hu
 obtain ⟨w1, hw1⟩ : ∃ w1, w.alloc (.cells #[.int .i64 3, .int .i64 ps, .string nm, .string lb, .string ty, .int .i64 op, .int .i64 it, .string tx, .int .i64 zz] 42) = w1 := ⟨_, rfl⟩
 have z1 : w.heap.size < w1.heap.size := by rw [← hw1]; simp
 have B1 : Hid (Below w.heap.size w w1) := by show Below _ _ _; rw [← hw1]; exact (Below.refl _ w).alloc (Nat.le_refl _) _
 have SV : Hid (∀ w' : World, Below w1.heap.size w1 w' → nin w w1 3 ps nm lb ty op it tx zz w') := nin_of z1 hw1
 have HBr : Hid _ := bare_3 ps nm lb ty op it tx zz
 by_cases hps : ps < 0
 ·have hf : ((decide (0 ≤ ps) && !N) && (rn && rt)) = false := by simp [show ¬ 0 ≤ ps by omega]
  rw [hf]
  exact fields_neg hps
 ·have hp0 : decide (0 ≤ ps) = true := by simp; omega
  rw [hp0, Bool.true_and]
  clear hp0
  cases N with
  | true =>
   rw [Bool.not_true, Bool.false_and]
   exact fields_bad _ hps hN fun w' => bare_3 ps nm lb ty op it tx zz w'
  | false =>
   rw [Bool.not_false, Bool.true_and]
   obtain ⟨b, hb⟩ : ∃ b, (rn && rt) = b := ⟨_, rfl⟩
   have HB : Hid ((rn && rt) = b) := hb
   rw [hb]
   clear hb
   go_enter Tryz.func39, Tryz.ntmps39
   go_upto_region 1 with fail
   have hcd : Below w1.heap.size w1 w1.drew := (Below.refl _ w1).drew
   obtain ⟨c0, c1, c2, c3, c4, c5, c6, c7, c8, _⟩ := SV.out w1 (Below.refl _ _)
   go_region_held3 (nin w w1 3 ps nm lb ty op it tx zz) (exact SV.out _ (by assumption))
    (first
    | (go_at_call 65; refine (HBr.out _).mono ?_; rintro e w2 ⟨rfl, hb2⟩; replace hcd := hcd.trans (hb2.mono hcd.size)))
   obtain ⟨d0, d1, d2, d3, d4, d5, d6, d7, d8, _⟩ := SV.out w2 hcd
   have HBw : Hid (Below w.heap.size w w2) := B1.out.trans (hcd.mono B1.out.size)
   clear SV HBr c0 c1 c2 c3 c4 c5 c6 c7 c8 hN hps hw1
   cases hel : (lb.toList == [])
   all_goals go_upto_region 4 with (first
    | (go_at_call 66; refine (HL.out w2 HBw.out).mono ?_; rintro e w3 ⟨rfl, hw3⟩; subst hw3)
    | go_in)
   all_goals clear HL
   all_goals go_wp2_with (first
    | (go_at_call 66; refine (HM.out w2 HBw.out).mono ?_; rintro e w3 ⟨rfl, hw3⟩; subst hw3)
    | (go_at_call 67; refine (HY.out w2 HBw.out).mono ?_; rintro e w3 ⟨rfl, hw3⟩; subst hw3)
    | go_in)
   all_goals rw [← HB.out]
   all_goals go_ret
   all_goals (refine ⟨?_, HBw.out⟩; first | rfl | (simp; done) | (simp_all; done) | (simp_all; omega))
theorem fields_5 (ps : Int) (nm lb ty : ByteArray) (op it : Int) (tx : ByteArray) (zz : Int) (w : World) (N rl rn rt : Bool) (hN : ∀ w : World, (binOp BinOp.neq 42 (.agg #[.int .i64 5, .int .i64 0, .string ⟨#[]⟩, .string lb, .string ⟨#[]⟩, .int .i64 op, .int .i64 it, .string tx, .int .i64 0]) (.agg #[.int .i64 5, .int .i64 0, .string ⟨#[]⟩, .string ⟨#[]⟩, .string ⟨#[]⟩, .int .i64 0, .int .i64 0, .string ⟨#[]⟩, .int .i64 0])).run Tryz.prog w = .ok (.bool N) w)
 (HL : Hid (rCB w 66 lb rl)) (HM : Hid (rCB w 66 nm rn)) (HY : Hid (rCB w 67 ty rt)) :
 Calls Tryz.prog 39 #[.agg #[.int .i64 5, .int .i64 ps, .string nm, .string lb, .string ty, .int .i64 op, .int .i64 it, .string tx, .int .i64 zz]] w fun e w' => e = .returned (.bool ((decide (0 ≤ ps) && !N) && (rn && rt))) ∧ Below w.heap.size w w' := by
 have hu := And.intro HL (And.intro HM HY)
 clear hu
 obtain ⟨w1, hw1⟩ : ∃ w1, w.alloc (.cells #[.int .i64 5, .int .i64 ps, .string nm, .string lb, .string ty, .int .i64 op, .int .i64 it, .string tx, .int .i64 zz] 42) = w1 := ⟨_, rfl⟩
 have z1 : w.heap.size < w1.heap.size := by rw [← hw1]; simp
 have B1 : Hid (Below w.heap.size w w1) := by show Below _ _ _; rw [← hw1]; exact (Below.refl _ w).alloc (Nat.le_refl _) _
 have SV : Hid (∀ w' : World, Below w1.heap.size w1 w' → nin w w1 5 ps nm lb ty op it tx zz w') := nin_of z1 hw1
 have HBr : Hid _ := bare_5 ps nm lb ty op it tx zz
 by_cases hps : ps < 0
 ·have hf : ((decide (0 ≤ ps) && !N) && (rn && rt)) = false := by simp [show ¬ 0 ≤ ps by omega]
  rw [hf]
  exact fields_neg hps
 ·have hp0 : decide (0 ≤ ps) = true := by simp; omega
  rw [hp0, Bool.true_and]
  clear hp0
  cases N with
  | true =>
   rw [Bool.not_true, Bool.false_and]
   exact fields_bad _ hps hN fun w' => bare_5 ps nm lb ty op it tx zz w'
  | false =>
   rw [Bool.not_false, Bool.true_and]
   obtain ⟨b, hb⟩ : ∃ b, (rn && rt) = b := ⟨_, rfl⟩
   have HB : Hid ((rn && rt) = b) := hb
   rw [hb]
   clear hb
   go_enter Tryz.func39, Tryz.ntmps39
   go_upto_region 1 with fail
   have hcd : Below w1.heap.size w1 w1.drew := (Below.refl _ w1).drew
   obtain ⟨c0, c1, c2, c3, c4, c5, c6, c7, c8, _⟩ := SV.out w1 (Below.refl _ _)
   go_region_held3 (nin w w1 5 ps nm lb ty op it tx zz) (exact SV.out _ (by assumption))
    (first
    | (go_at_call 65; refine (HBr.out _).mono ?_; rintro e w2 ⟨rfl, hb2⟩; replace hcd := hcd.trans (hb2.mono hcd.size)))
   obtain ⟨d0, d1, d2, d3, d4, d5, d6, d7, d8, _⟩ := SV.out w2 hcd
   have HBw : Hid (Below w.heap.size w w2) := B1.out.trans (hcd.mono B1.out.size)
   clear SV HBr c0 c1 c2 c3 c4 c5 c6 c7 c8 hN hps hw1
   cases hel : (lb.toList == [])
   all_goals go_upto_region 4 with (first
    | (go_at_call 66; refine (HL.out w2 HBw.out).mono ?_; rintro e w3 ⟨rfl, hw3⟩; subst hw3)
    | go_in)
   all_goals clear HL
   all_goals go_wp2_with (first
    | (go_at_call 66; refine (HM.out w2 HBw.out).mono ?_; rintro e w3 ⟨rfl, hw3⟩; subst hw3)
    | (go_at_call 67; refine (HY.out w2 HBw.out).mono ?_; rintro e w3 ⟨rfl, hw3⟩; subst hw3)
    | go_in)
   all_goals rw [← HB.out]
   all_goals go_ret
   all_goals (refine ⟨?_, HBw.out⟩; first | rfl | (simp; done) | (simp_all; done) | (simp_all; omega))
end Go.Proofs.YtekgnogjfggnmaaGreatDoor
