import Derived.Deep.RegionHeld3
import Derived.Deep.QuietTactic
import Derived.BigQuiet
import Derived.Test.YtlocaalipjjnpaaDoorN14
namespace Go.Proofs.YtlocaalipjjnpaaDoor
open Go.RowKit

set_option maxRecDepth 100000 in
set_option maxHeartbeats 1000000 in
theorem fields_24 (ps : Int) (nm lb ty : ByteArray) (op it : Int) (tx : ByteArray) (zz : Int) (w : World) (N rl rn rt : Bool) (hN : ∀ w : World, (binOp BinOp.neq 39 (.agg #[.int .i64 24, .int .i64 0, .string nm, .string lb, .string ty, .int .i64 op, .int .i64 it, .string tx, .int .i64 0]) (.agg #[.int .i64 24, .int .i64 0, .string (⟨#[]⟩ : ByteArray), .string (⟨#[]⟩ : ByteArray), .string (⟨#[]⟩ : ByteArray), .int .i64 0, .int .i64 0, .string (⟨#[]⟩ : ByteArray), .int .i64 0])).run Tryd.prog w = .ok (.bool N) w)
    (HL : Hid (∀ w', Below w.heap.size w w' → Calls Tryd.prog 40 #[.string lb] w' fun e w'' => e = .returned (.bool rl) ∧ w' = w'')) (HM : Hid (∀ w', Below w.heap.size w w' → Calls Tryd.prog 40 #[.string nm] w' fun e w'' => e = .returned (.bool rn) ∧ w' = w'')) (HY : Hid (∀ w', Below w.heap.size w w' → Calls Tryd.prog 41 #[.string ty] w' fun e w'' => e = .returned (.bool rt) ∧ w' = w'')) :
    Calls Tryd.prog 27 #[.agg #[.int .i64 24, .int .i64 ps, .string nm, .string lb, .string ty, .int .i64 op, .int .i64 it, .string tx, .int .i64 zz]] w fun e w' => e = .returned (.bool ((decide (0 ≤ ps) && !N) && true)) ∧ Below w.heap.size w w' := by
  have hu : True ∧ True ∧ True := ⟨(fun _ => trivial) HL, (fun _ => trivial) HM, (fun _ => trivial) HY⟩
  clear hu
  obtain ⟨w1, hw1⟩ : ∃ w1, w.alloc (.cells #[.int .i64 24, .int .i64 ps, .string nm, .string lb, .string ty, .int .i64 op, .int .i64 it, .string tx, .int .i64 zz] 39) = w1 := ⟨_, rfl⟩
  have z1 : w.heap.size < w1.heap.size := by rw [← hw1]; simp
  have B1 : Hid (Below w.heap.size w w1) := by show Below _ _ _; rw [← hw1]; exact (Below.refl _ w).alloc (Nat.le_refl _) _
  have SV : Hid (∀ w' : World, Below w1.heap.size w1 w' → w'.cell? ⟨w.heap.size, 0, none⟩ = some (.int .i64 24) ∧ w'.cell? ⟨w.heap.size, 1, none⟩ = some (.int .i64 ps) ∧ w'.cell? ⟨w.heap.size, 2, none⟩ = some (.string nm) ∧ w'.cell? ⟨w.heap.size, 3, none⟩ = some (.string lb) ∧ w'.cell? ⟨w.heap.size, 4, none⟩ = some (.string ty) ∧ w'.cell? ⟨w.heap.size, 5, none⟩ = some (.int .i64 op) ∧ w'.cell? ⟨w.heap.size, 6, none⟩ = some (.int .i64 it) ∧ w'.cell? ⟨w.heap.size, 7, none⟩ = some (.string tx) ∧ w'.cell? ⟨w.heap.size, 8, none⟩ = some (.int .i64 zz) ∧ Below w1.heap.size w1 w') := fun w' hb => by
    have q : ∀ (k : Nat) (v : Value), #[.int .i64 24, .int .i64 ps, .string nm, .string lb, .string ty, .int .i64 op, .int .i64 it, .string tx, .int .i64 zz][k]? = some v → w'.cell? ⟨w.heap.size, k, none⟩ = some v := fun k v hv =>
      (hb.cell (p := ⟨w.heap.size, k, none⟩) z1).trans (by rw [← hw1]; exact cell_new _ _ _ _ _ hv)
    exact ⟨q 0 _ rfl, q 1 _ rfl, q 2 _ rfl, q 3 _ rfl, q 4 _ rfl, q 5 _ rfl, q 6 _ rfl, q 7 _ rfl, q 8 _ rfl, hb⟩
  have HBr : Hid (∀ w', Below w1.heap.size w1 w' → Calls Tryd.prog 39 #[.agg #[.int .i64 24, .int .i64 ps, .string nm, .string lb, .string ty, .int .i64 op, .int .i64 it, .string tx, .int .i64 zz]] w' fun e w'' => e = .returned (.agg #[.int .i64 24, .int .i64 0, .string nm, .string lb, .string ty, .int .i64 op, .int .i64 it, .string tx, .int .i64 0]) ∧ Below w'.heap.size w' w'') := fun w' _ => bare_none 24 (by decide) ps nm lb ty op it tx zz w'
  by_cases hps : ps < 0
  · have hf : ((decide (0 ≤ ps) && !N) && true) = false := by simp [show ¬ 0 ≤ ps by omega]
    rw [hf]
    clear hf
    go_enter Tryd.func27, Tryd.ntmps27
    go_upto_region 1 with fail
    obtain ⟨c0, c1, c2, c3, c4, c5, c6, c7, c8, _⟩ := SV.out w1 (Below.refl _ _)
    go_quiet (fail)
    all_goals go_wp2
    all_goals go_ret
    all_goals exact ⟨rfl, B1.out.trans (Below.mono (⟨rfl, rfl, rfl, Nat.le_refl _, fun _ _ => rfl⟩ : Below w1.heap.size w1 (w1.drewN nq)) B1.out.size)⟩
  · have hp0 : decide (0 ≤ ps) = true := by simp; omega
    rw [hp0, Bool.true_and]
    clear hp0
    cases N with
    | true =>
      rw [Bool.not_true, Bool.false_and]
      go_enter Tryd.func27, Tryd.ntmps27
      go_upto_region 1 with fail
      have hcd : Below w1.heap.size w1 w1.drew := (Below.refl _ w1).drew
      obtain ⟨c0, c1, c2, c3, c4, c5, c6, c7, c8, _⟩ := SV.out w1 (Below.refl _ _)
      go_region_held3 (fun w' => w'.cell? ⟨w.heap.size, 0, none⟩ = some (.int .i64 24) ∧ w'.cell? ⟨w.heap.size, 1, none⟩ = some (.int .i64 ps) ∧ w'.cell? ⟨w.heap.size, 2, none⟩ = some (.string nm) ∧ w'.cell? ⟨w.heap.size, 3, none⟩ = some (.string lb) ∧ w'.cell? ⟨w.heap.size, 4, none⟩ = some (.string ty) ∧ w'.cell? ⟨w.heap.size, 5, none⟩ = some (.int .i64 op) ∧ w'.cell? ⟨w.heap.size, 6, none⟩ = some (.int .i64 it) ∧ w'.cell? ⟨w.heap.size, 7, none⟩ = some (.string tx) ∧ w'.cell? ⟨w.heap.size, 8, none⟩ = some (.int .i64 zz) ∧ Below w1.heap.size w1 w') (exact SV.out _ (by assumption))
        (first
        | (go_at_call 39; refine (HBr.out _ hcd).mono ?_; rintro e w2 ⟨rfl, hb2⟩; replace hcd := hcd.trans (hb2.mono hcd.size)))
      go_wp2
      go_ret
      exact ⟨rfl, B1.out.trans (hcd.mono B1.out.size)⟩
    | false =>
      rw [Bool.not_false, Bool.true_and]
      obtain ⟨b, hb⟩ : ∃ b, true = b := ⟨_, rfl⟩
      have HB : Hid (true = b) := hb
      rw [hb]
      clear hb
      go_enter Tryd.func27, Tryd.ntmps27
      go_upto_region 1 with fail
      have hcd : Below w1.heap.size w1 w1.drew := (Below.refl _ w1).drew
      obtain ⟨c0, c1, c2, c3, c4, c5, c6, c7, c8, _⟩ := SV.out w1 (Below.refl _ _)
      go_region_held3 (fun w' => w'.cell? ⟨w.heap.size, 0, none⟩ = some (.int .i64 24) ∧ w'.cell? ⟨w.heap.size, 1, none⟩ = some (.int .i64 ps) ∧ w'.cell? ⟨w.heap.size, 2, none⟩ = some (.string nm) ∧ w'.cell? ⟨w.heap.size, 3, none⟩ = some (.string lb) ∧ w'.cell? ⟨w.heap.size, 4, none⟩ = some (.string ty) ∧ w'.cell? ⟨w.heap.size, 5, none⟩ = some (.int .i64 op) ∧ w'.cell? ⟨w.heap.size, 6, none⟩ = some (.int .i64 it) ∧ w'.cell? ⟨w.heap.size, 7, none⟩ = some (.string tx) ∧ w'.cell? ⟨w.heap.size, 8, none⟩ = some (.int .i64 zz) ∧ Below w1.heap.size w1 w') (exact SV.out _ (by assumption))
        (first
        | (go_at_call 39; refine (HBr.out _ hcd).mono ?_; rintro e w2 ⟨rfl, hb2⟩; replace hcd := hcd.trans (hb2.mono hcd.size)))
      obtain ⟨d0, d1, d2, d3, d4, d5, d6, d7, d8, _⟩ := SV.out w2 hcd
      have HBw : Hid (Below w.heap.size w w2) := B1.out.trans (hcd.mono B1.out.size)
      clear SV HBr c0 c1 c2 c3 c4 c5 c6 c7 c8 hN hps hw1
      cases hel : (lb.toList == [])
      all_goals go_upto_region 4 with (first
        | (go_at_call 40; refine (HL.out w2 HBw.out).mono ?_; rintro e w3 ⟨rfl, hw3⟩; subst hw3)
        | go_in)
      all_goals clear HL
      all_goals go_wp2_with (first
        | (go_at_call 40; refine (HM.out w2 HBw.out).mono ?_; rintro e w3 ⟨rfl, hw3⟩; subst hw3)
        | (go_at_call 41; refine (HY.out w2 HBw.out).mono ?_; rintro e w3 ⟨rfl, hw3⟩; subst hw3)
        | go_in)
      all_goals rw [← HB.out]
      all_goals go_ret
      all_goals (refine ⟨?_, HBw.out⟩; first | rfl | (simp; done) | (simp_all; done) | (simp_all; omega))

set_option maxRecDepth 100000 in
set_option maxHeartbeats 1000000 in
theorem fields_29 (ps : Int) (nm lb ty : ByteArray) (op it : Int) (tx : ByteArray) (zz : Int) (w : World) (N rl rn rt : Bool) (hN : ∀ w : World, (binOp BinOp.neq 39 (.agg #[.int .i64 29, .int .i64 0, .string nm, .string lb, .string ty, .int .i64 op, .int .i64 it, .string tx, .int .i64 0]) (.agg #[.int .i64 29, .int .i64 0, .string (⟨#[]⟩ : ByteArray), .string (⟨#[]⟩ : ByteArray), .string (⟨#[]⟩ : ByteArray), .int .i64 0, .int .i64 0, .string (⟨#[]⟩ : ByteArray), .int .i64 0])).run Tryd.prog w = .ok (.bool N) w)
    (HL : Hid (∀ w', Below w.heap.size w w' → Calls Tryd.prog 40 #[.string lb] w' fun e w'' => e = .returned (.bool rl) ∧ w' = w'')) (HM : Hid (∀ w', Below w.heap.size w w' → Calls Tryd.prog 40 #[.string nm] w' fun e w'' => e = .returned (.bool rn) ∧ w' = w'')) (HY : Hid (∀ w', Below w.heap.size w w' → Calls Tryd.prog 41 #[.string ty] w' fun e w'' => e = .returned (.bool rt) ∧ w' = w'')) :
    Calls Tryd.prog 27 #[.agg #[.int .i64 29, .int .i64 ps, .string nm, .string lb, .string ty, .int .i64 op, .int .i64 it, .string tx, .int .i64 zz]] w fun e w' => e = .returned (.bool ((decide (0 ≤ ps) && !N) && true)) ∧ Below w.heap.size w w' := by
  have hu : True ∧ True ∧ True := ⟨(fun _ => trivial) HL, (fun _ => trivial) HM, (fun _ => trivial) HY⟩
  clear hu
  obtain ⟨w1, hw1⟩ : ∃ w1, w.alloc (.cells #[.int .i64 29, .int .i64 ps, .string nm, .string lb, .string ty, .int .i64 op, .int .i64 it, .string tx, .int .i64 zz] 39) = w1 := ⟨_, rfl⟩
  have z1 : w.heap.size < w1.heap.size := by rw [← hw1]; simp
  have B1 : Hid (Below w.heap.size w w1) := by show Below _ _ _; rw [← hw1]; exact (Below.refl _ w).alloc (Nat.le_refl _) _
  have SV : Hid (∀ w' : World, Below w1.heap.size w1 w' → w'.cell? ⟨w.heap.size, 0, none⟩ = some (.int .i64 29) ∧ w'.cell? ⟨w.heap.size, 1, none⟩ = some (.int .i64 ps) ∧ w'.cell? ⟨w.heap.size, 2, none⟩ = some (.string nm) ∧ w'.cell? ⟨w.heap.size, 3, none⟩ = some (.string lb) ∧ w'.cell? ⟨w.heap.size, 4, none⟩ = some (.string ty) ∧ w'.cell? ⟨w.heap.size, 5, none⟩ = some (.int .i64 op) ∧ w'.cell? ⟨w.heap.size, 6, none⟩ = some (.int .i64 it) ∧ w'.cell? ⟨w.heap.size, 7, none⟩ = some (.string tx) ∧ w'.cell? ⟨w.heap.size, 8, none⟩ = some (.int .i64 zz) ∧ Below w1.heap.size w1 w') := fun w' hb => by
    have q : ∀ (k : Nat) (v : Value), #[.int .i64 29, .int .i64 ps, .string nm, .string lb, .string ty, .int .i64 op, .int .i64 it, .string tx, .int .i64 zz][k]? = some v → w'.cell? ⟨w.heap.size, k, none⟩ = some v := fun k v hv =>
      (hb.cell (p := ⟨w.heap.size, k, none⟩) z1).trans (by rw [← hw1]; exact cell_new _ _ _ _ _ hv)
    exact ⟨q 0 _ rfl, q 1 _ rfl, q 2 _ rfl, q 3 _ rfl, q 4 _ rfl, q 5 _ rfl, q 6 _ rfl, q 7 _ rfl, q 8 _ rfl, hb⟩
  have HBr : Hid (∀ w', Below w1.heap.size w1 w' → Calls Tryd.prog 39 #[.agg #[.int .i64 29, .int .i64 ps, .string nm, .string lb, .string ty, .int .i64 op, .int .i64 it, .string tx, .int .i64 zz]] w' fun e w'' => e = .returned (.agg #[.int .i64 29, .int .i64 0, .string nm, .string lb, .string ty, .int .i64 op, .int .i64 it, .string tx, .int .i64 0]) ∧ Below w'.heap.size w' w'') := fun w' _ => bare_none 29 (by decide) ps nm lb ty op it tx zz w'
  by_cases hps : ps < 0
  · have hf : ((decide (0 ≤ ps) && !N) && true) = false := by simp [show ¬ 0 ≤ ps by omega]
    rw [hf]
    clear hf
    go_enter Tryd.func27, Tryd.ntmps27
    go_upto_region 1 with fail
    obtain ⟨c0, c1, c2, c3, c4, c5, c6, c7, c8, _⟩ := SV.out w1 (Below.refl _ _)
    go_quiet (fail)
    all_goals go_wp2
    all_goals go_ret
    all_goals exact ⟨rfl, B1.out.trans (Below.mono (⟨rfl, rfl, rfl, Nat.le_refl _, fun _ _ => rfl⟩ : Below w1.heap.size w1 (w1.drewN nq)) B1.out.size)⟩
  · have hp0 : decide (0 ≤ ps) = true := by simp; omega
    rw [hp0, Bool.true_and]
    clear hp0
    cases N with
    | true =>
      rw [Bool.not_true, Bool.false_and]
      go_enter Tryd.func27, Tryd.ntmps27
      go_upto_region 1 with fail
      have hcd : Below w1.heap.size w1 w1.drew := (Below.refl _ w1).drew
      obtain ⟨c0, c1, c2, c3, c4, c5, c6, c7, c8, _⟩ := SV.out w1 (Below.refl _ _)
      go_region_held3 (fun w' => w'.cell? ⟨w.heap.size, 0, none⟩ = some (.int .i64 29) ∧ w'.cell? ⟨w.heap.size, 1, none⟩ = some (.int .i64 ps) ∧ w'.cell? ⟨w.heap.size, 2, none⟩ = some (.string nm) ∧ w'.cell? ⟨w.heap.size, 3, none⟩ = some (.string lb) ∧ w'.cell? ⟨w.heap.size, 4, none⟩ = some (.string ty) ∧ w'.cell? ⟨w.heap.size, 5, none⟩ = some (.int .i64 op) ∧ w'.cell? ⟨w.heap.size, 6, none⟩ = some (.int .i64 it) ∧ w'.cell? ⟨w.heap.size, 7, none⟩ = some (.string tx) ∧ w'.cell? ⟨w.heap.size, 8, none⟩ = some (.int .i64 zz) ∧ Below w1.heap.size w1 w') (exact SV.out _ (by assumption))
        (first
        | (go_at_call 39; refine (HBr.out _ hcd).mono ?_; rintro e w2 ⟨rfl, hb2⟩; replace hcd := hcd.trans (hb2.mono hcd.size)))
      go_wp2
      go_ret
      exact ⟨rfl, B1.out.trans (hcd.mono B1.out.size)⟩
    | false =>
      rw [Bool.not_false, Bool.true_and]
      obtain ⟨b, hb⟩ : ∃ b, true = b := ⟨_, rfl⟩
      have HB : Hid (true = b) := hb
      rw [hb]
      clear hb
      go_enter Tryd.func27, Tryd.ntmps27
      go_upto_region 1 with fail
      have hcd : Below w1.heap.size w1 w1.drew := (Below.refl _ w1).drew
      obtain ⟨c0, c1, c2, c3, c4, c5, c6, c7, c8, _⟩ := SV.out w1 (Below.refl _ _)
      go_region_held3 (fun w' => w'.cell? ⟨w.heap.size, 0, none⟩ = some (.int .i64 29) ∧ w'.cell? ⟨w.heap.size, 1, none⟩ = some (.int .i64 ps) ∧ w'.cell? ⟨w.heap.size, 2, none⟩ = some (.string nm) ∧ w'.cell? ⟨w.heap.size, 3, none⟩ = some (.string lb) ∧ w'.cell? ⟨w.heap.size, 4, none⟩ = some (.string ty) ∧ w'.cell? ⟨w.heap.size, 5, none⟩ = some (.int .i64 op) ∧ w'.cell? ⟨w.heap.size, 6, none⟩ = some (.int .i64 it) ∧ w'.cell? ⟨w.heap.size, 7, none⟩ = some (.string tx) ∧ w'.cell? ⟨w.heap.size, 8, none⟩ = some (.int .i64 zz) ∧ Below w1.heap.size w1 w') (exact SV.out _ (by assumption))
        (first
        | (go_at_call 39; refine (HBr.out _ hcd).mono ?_; rintro e w2 ⟨rfl, hb2⟩; replace hcd := hcd.trans (hb2.mono hcd.size)))
      obtain ⟨d0, d1, d2, d3, d4, d5, d6, d7, d8, _⟩ := SV.out w2 hcd
      have HBw : Hid (Below w.heap.size w w2) := B1.out.trans (hcd.mono B1.out.size)
      clear SV HBr c0 c1 c2 c3 c4 c5 c6 c7 c8 hN hps hw1
      cases hel : (lb.toList == [])
      all_goals go_upto_region 4 with (first
        | (go_at_call 40; refine (HL.out w2 HBw.out).mono ?_; rintro e w3 ⟨rfl, hw3⟩; subst hw3)
        | go_in)
      all_goals clear HL
      all_goals go_wp2_with (first
        | (go_at_call 40; refine (HM.out w2 HBw.out).mono ?_; rintro e w3 ⟨rfl, hw3⟩; subst hw3)
        | (go_at_call 41; refine (HY.out w2 HBw.out).mono ?_; rintro e w3 ⟨rfl, hw3⟩; subst hw3)
        | go_in)
      all_goals rw [← HB.out]
      all_goals go_ret
      all_goals (refine ⟨?_, HBw.out⟩; first | rfl | (simp; done) | (simp_all; done) | (simp_all; omega))

set_option maxRecDepth 100000 in
set_option maxHeartbeats 1000000 in
theorem fields_30 (ps : Int) (nm lb ty : ByteArray) (op it : Int) (tx : ByteArray) (zz : Int) (w : World) (N rl rn rt : Bool) (hN : ∀ w : World, (binOp BinOp.neq 39 (.agg #[.int .i64 30, .int .i64 0, .string nm, .string lb, .string ty, .int .i64 op, .int .i64 it, .string tx, .int .i64 0]) (.agg #[.int .i64 30, .int .i64 0, .string (⟨#[]⟩ : ByteArray), .string (⟨#[]⟩ : ByteArray), .string (⟨#[]⟩ : ByteArray), .int .i64 0, .int .i64 0, .string (⟨#[]⟩ : ByteArray), .int .i64 0])).run Tryd.prog w = .ok (.bool N) w)
    (HL : Hid (∀ w', Below w.heap.size w w' → Calls Tryd.prog 40 #[.string lb] w' fun e w'' => e = .returned (.bool rl) ∧ w' = w'')) (HM : Hid (∀ w', Below w.heap.size w w' → Calls Tryd.prog 40 #[.string nm] w' fun e w'' => e = .returned (.bool rn) ∧ w' = w'')) (HY : Hid (∀ w', Below w.heap.size w w' → Calls Tryd.prog 41 #[.string ty] w' fun e w'' => e = .returned (.bool rt) ∧ w' = w'')) :
    Calls Tryd.prog 27 #[.agg #[.int .i64 30, .int .i64 ps, .string nm, .string lb, .string ty, .int .i64 op, .int .i64 it, .string tx, .int .i64 zz]] w fun e w' => e = .returned (.bool ((decide (0 ≤ ps) && !N) && true)) ∧ Below w.heap.size w w' := by
  have hu : True ∧ True ∧ True := ⟨(fun _ => trivial) HL, (fun _ => trivial) HM, (fun _ => trivial) HY⟩
  clear hu
  obtain ⟨w1, hw1⟩ : ∃ w1, w.alloc (.cells #[.int .i64 30, .int .i64 ps, .string nm, .string lb, .string ty, .int .i64 op, .int .i64 it, .string tx, .int .i64 zz] 39) = w1 := ⟨_, rfl⟩
  have z1 : w.heap.size < w1.heap.size := by rw [← hw1]; simp
  have B1 : Hid (Below w.heap.size w w1) := by show Below _ _ _; rw [← hw1]; exact (Below.refl _ w).alloc (Nat.le_refl _) _
  have SV : Hid (∀ w' : World, Below w1.heap.size w1 w' → w'.cell? ⟨w.heap.size, 0, none⟩ = some (.int .i64 30) ∧ w'.cell? ⟨w.heap.size, 1, none⟩ = some (.int .i64 ps) ∧ w'.cell? ⟨w.heap.size, 2, none⟩ = some (.string nm) ∧ w'.cell? ⟨w.heap.size, 3, none⟩ = some (.string lb) ∧ w'.cell? ⟨w.heap.size, 4, none⟩ = some (.string ty) ∧ w'.cell? ⟨w.heap.size, 5, none⟩ = some (.int .i64 op) ∧ w'.cell? ⟨w.heap.size, 6, none⟩ = some (.int .i64 it) ∧ w'.cell? ⟨w.heap.size, 7, none⟩ = some (.string tx) ∧ w'.cell? ⟨w.heap.size, 8, none⟩ = some (.int .i64 zz) ∧ Below w1.heap.size w1 w') := fun w' hb => by
    have q : ∀ (k : Nat) (v : Value), #[.int .i64 30, .int .i64 ps, .string nm, .string lb, .string ty, .int .i64 op, .int .i64 it, .string tx, .int .i64 zz][k]? = some v → w'.cell? ⟨w.heap.size, k, none⟩ = some v := fun k v hv =>
      (hb.cell (p := ⟨w.heap.size, k, none⟩) z1).trans (by rw [← hw1]; exact cell_new _ _ _ _ _ hv)
    exact ⟨q 0 _ rfl, q 1 _ rfl, q 2 _ rfl, q 3 _ rfl, q 4 _ rfl, q 5 _ rfl, q 6 _ rfl, q 7 _ rfl, q 8 _ rfl, hb⟩
  have HBr : Hid (∀ w', Below w1.heap.size w1 w' → Calls Tryd.prog 39 #[.agg #[.int .i64 30, .int .i64 ps, .string nm, .string lb, .string ty, .int .i64 op, .int .i64 it, .string tx, .int .i64 zz]] w' fun e w'' => e = .returned (.agg #[.int .i64 30, .int .i64 0, .string nm, .string lb, .string ty, .int .i64 op, .int .i64 it, .string tx, .int .i64 0]) ∧ Below w'.heap.size w' w'') := fun w' _ => bare_none 30 (by decide) ps nm lb ty op it tx zz w'
  by_cases hps : ps < 0
  · have hf : ((decide (0 ≤ ps) && !N) && true) = false := by simp [show ¬ 0 ≤ ps by omega]
    rw [hf]
    clear hf
    go_enter Tryd.func27, Tryd.ntmps27
    go_upto_region 1 with fail
    obtain ⟨c0, c1, c2, c3, c4, c5, c6, c7, c8, _⟩ := SV.out w1 (Below.refl _ _)
    go_quiet (fail)
    all_goals go_wp2
    all_goals go_ret
    all_goals exact ⟨rfl, B1.out.trans (Below.mono (⟨rfl, rfl, rfl, Nat.le_refl _, fun _ _ => rfl⟩ : Below w1.heap.size w1 (w1.drewN nq)) B1.out.size)⟩
  · have hp0 : decide (0 ≤ ps) = true := by simp; omega
    rw [hp0, Bool.true_and]
    clear hp0
    cases N with
    | true =>
      rw [Bool.not_true, Bool.false_and]
      go_enter Tryd.func27, Tryd.ntmps27
      go_upto_region 1 with fail
      have hcd : Below w1.heap.size w1 w1.drew := (Below.refl _ w1).drew
      obtain ⟨c0, c1, c2, c3, c4, c5, c6, c7, c8, _⟩ := SV.out w1 (Below.refl _ _)
      go_region_held3 (fun w' => w'.cell? ⟨w.heap.size, 0, none⟩ = some (.int .i64 30) ∧ w'.cell? ⟨w.heap.size, 1, none⟩ = some (.int .i64 ps) ∧ w'.cell? ⟨w.heap.size, 2, none⟩ = some (.string nm) ∧ w'.cell? ⟨w.heap.size, 3, none⟩ = some (.string lb) ∧ w'.cell? ⟨w.heap.size, 4, none⟩ = some (.string ty) ∧ w'.cell? ⟨w.heap.size, 5, none⟩ = some (.int .i64 op) ∧ w'.cell? ⟨w.heap.size, 6, none⟩ = some (.int .i64 it) ∧ w'.cell? ⟨w.heap.size, 7, none⟩ = some (.string tx) ∧ w'.cell? ⟨w.heap.size, 8, none⟩ = some (.int .i64 zz) ∧ Below w1.heap.size w1 w') (exact SV.out _ (by assumption))
        (first
        | (go_at_call 39; refine (HBr.out _ hcd).mono ?_; rintro e w2 ⟨rfl, hb2⟩; replace hcd := hcd.trans (hb2.mono hcd.size)))
      go_wp2
      go_ret
      exact ⟨rfl, B1.out.trans (hcd.mono B1.out.size)⟩
    | false =>
      rw [Bool.not_false, Bool.true_and]
      obtain ⟨b, hb⟩ : ∃ b, true = b := ⟨_, rfl⟩
      have HB : Hid (true = b) := hb
      rw [hb]
      clear hb
      go_enter Tryd.func27, Tryd.ntmps27
      go_upto_region 1 with fail
      have hcd : Below w1.heap.size w1 w1.drew := (Below.refl _ w1).drew
      obtain ⟨c0, c1, c2, c3, c4, c5, c6, c7, c8, _⟩ := SV.out w1 (Below.refl _ _)
      go_region_held3 (fun w' => w'.cell? ⟨w.heap.size, 0, none⟩ = some (.int .i64 30) ∧ w'.cell? ⟨w.heap.size, 1, none⟩ = some (.int .i64 ps) ∧ w'.cell? ⟨w.heap.size, 2, none⟩ = some (.string nm) ∧ w'.cell? ⟨w.heap.size, 3, none⟩ = some (.string lb) ∧ w'.cell? ⟨w.heap.size, 4, none⟩ = some (.string ty) ∧ w'.cell? ⟨w.heap.size, 5, none⟩ = some (.int .i64 op) ∧ w'.cell? ⟨w.heap.size, 6, none⟩ = some (.int .i64 it) ∧ w'.cell? ⟨w.heap.size, 7, none⟩ = some (.string tx) ∧ w'.cell? ⟨w.heap.size, 8, none⟩ = some (.int .i64 zz) ∧ Below w1.heap.size w1 w') (exact SV.out _ (by assumption))
        (first
        | (go_at_call 39; refine (HBr.out _ hcd).mono ?_; rintro e w2 ⟨rfl, hb2⟩; replace hcd := hcd.trans (hb2.mono hcd.size)))
      obtain ⟨d0, d1, d2, d3, d4, d5, d6, d7, d8, _⟩ := SV.out w2 hcd
      have HBw : Hid (Below w.heap.size w w2) := B1.out.trans (hcd.mono B1.out.size)
      clear SV HBr c0 c1 c2 c3 c4 c5 c6 c7 c8 hN hps hw1
      cases hel : (lb.toList == [])
      all_goals go_upto_region 4 with (first
        | (go_at_call 40; refine (HL.out w2 HBw.out).mono ?_; rintro e w3 ⟨rfl, hw3⟩; subst hw3)
        | go_in)
      all_goals clear HL
      all_goals go_wp2_with (first
        | (go_at_call 40; refine (HM.out w2 HBw.out).mono ?_; rintro e w3 ⟨rfl, hw3⟩; subst hw3)
        | (go_at_call 41; refine (HY.out w2 HBw.out).mono ?_; rintro e w3 ⟨rfl, hw3⟩; subst hw3)
        | go_in)
      all_goals rw [← HB.out]
      all_goals go_ret
      all_goals (refine ⟨?_, HBw.out⟩; first | rfl | (simp; done) | (simp_all; done) | (simp_all; omega))

set_option maxRecDepth 100000 in
set_option maxHeartbeats 1000000 in
theorem fields_2 (ps : Int) (nm lb ty : ByteArray) (op it : Int) (tx : ByteArray) (zz : Int) (w : World) (N rl rn rt : Bool) (hN : ∀ w : World, (binOp BinOp.neq 39 (.agg #[.int .i64 2, .int .i64 0, .string (⟨#[]⟩ : ByteArray), .string lb, .string (⟨#[]⟩ : ByteArray), .int .i64 op, .int .i64 it, .string tx, .int .i64 0]) (.agg #[.int .i64 2, .int .i64 0, .string (⟨#[]⟩ : ByteArray), .string (⟨#[]⟩ : ByteArray), .string (⟨#[]⟩ : ByteArray), .int .i64 0, .int .i64 0, .string (⟨#[]⟩ : ByteArray), .int .i64 0])).run Tryd.prog w = .ok (.bool N) w)
    (HL : Hid (∀ w', Below w.heap.size w w' → Calls Tryd.prog 40 #[.string lb] w' fun e w'' => e = .returned (.bool rl) ∧ w' = w'')) (HM : Hid (∀ w', Below w.heap.size w w' → Calls Tryd.prog 40 #[.string nm] w' fun e w'' => e = .returned (.bool rn) ∧ w' = w'')) (HY : Hid (∀ w', Below w.heap.size w w' → Calls Tryd.prog 41 #[.string ty] w' fun e w'' => e = .returned (.bool rt) ∧ w' = w'')) :
    Calls Tryd.prog 27 #[.agg #[.int .i64 2, .int .i64 ps, .string nm, .string lb, .string ty, .int .i64 op, .int .i64 it, .string tx, .int .i64 zz]] w fun e w' => e = .returned (.bool ((decide (0 ≤ ps) && !N) && (rn && ((ty.toList == []) || rt)))) ∧ Below w.heap.size w w' := by
  have hu : True ∧ True ∧ True := ⟨(fun _ => trivial) HL, (fun _ => trivial) HM, (fun _ => trivial) HY⟩
  clear hu
  obtain ⟨w1, hw1⟩ : ∃ w1, w.alloc (.cells #[.int .i64 2, .int .i64 ps, .string nm, .string lb, .string ty, .int .i64 op, .int .i64 it, .string tx, .int .i64 zz] 39) = w1 := ⟨_, rfl⟩
  have z1 : w.heap.size < w1.heap.size := by rw [← hw1]; simp
  have B1 : Hid (Below w.heap.size w w1) := by show Below _ _ _; rw [← hw1]; exact (Below.refl _ w).alloc (Nat.le_refl _) _
  have SV : Hid (∀ w' : World, Below w1.heap.size w1 w' → w'.cell? ⟨w.heap.size, 0, none⟩ = some (.int .i64 2) ∧ w'.cell? ⟨w.heap.size, 1, none⟩ = some (.int .i64 ps) ∧ w'.cell? ⟨w.heap.size, 2, none⟩ = some (.string nm) ∧ w'.cell? ⟨w.heap.size, 3, none⟩ = some (.string lb) ∧ w'.cell? ⟨w.heap.size, 4, none⟩ = some (.string ty) ∧ w'.cell? ⟨w.heap.size, 5, none⟩ = some (.int .i64 op) ∧ w'.cell? ⟨w.heap.size, 6, none⟩ = some (.int .i64 it) ∧ w'.cell? ⟨w.heap.size, 7, none⟩ = some (.string tx) ∧ w'.cell? ⟨w.heap.size, 8, none⟩ = some (.int .i64 zz) ∧ Below w1.heap.size w1 w') := fun w' hb => by
    have q : ∀ (k : Nat) (v : Value), #[.int .i64 2, .int .i64 ps, .string nm, .string lb, .string ty, .int .i64 op, .int .i64 it, .string tx, .int .i64 zz][k]? = some v → w'.cell? ⟨w.heap.size, k, none⟩ = some v := fun k v hv =>
      (hb.cell (p := ⟨w.heap.size, k, none⟩) z1).trans (by rw [← hw1]; exact cell_new _ _ _ _ _ hv)
    exact ⟨q 0 _ rfl, q 1 _ rfl, q 2 _ rfl, q 3 _ rfl, q 4 _ rfl, q 5 _ rfl, q 6 _ rfl, q 7 _ rfl, q 8 _ rfl, hb⟩
  have HBr : Hid (∀ w', Below w1.heap.size w1 w' → Calls Tryd.prog 39 #[.agg #[.int .i64 2, .int .i64 ps, .string nm, .string lb, .string ty, .int .i64 op, .int .i64 it, .string tx, .int .i64 zz]] w' fun e w'' => e = .returned (.agg #[.int .i64 2, .int .i64 0, .string (⟨#[]⟩ : ByteArray), .string lb, .string (⟨#[]⟩ : ByteArray), .int .i64 op, .int .i64 it, .string tx, .int .i64 0]) ∧ Below w'.heap.size w' w'') := fun w' _ => bare_2 ps nm lb ty op it tx zz w'
  by_cases hps : ps < 0
  · have hf : ((decide (0 ≤ ps) && !N) && (rn && ((ty.toList == []) || rt))) = false := by simp [show ¬ 0 ≤ ps by omega]
    rw [hf]
    clear hf
    go_enter Tryd.func27, Tryd.ntmps27
    go_upto_region 1 with fail
    obtain ⟨c0, c1, c2, c3, c4, c5, c6, c7, c8, _⟩ := SV.out w1 (Below.refl _ _)
    go_quiet (fail)
    all_goals go_wp2
    all_goals go_ret
    all_goals exact ⟨rfl, B1.out.trans (Below.mono (⟨rfl, rfl, rfl, Nat.le_refl _, fun _ _ => rfl⟩ : Below w1.heap.size w1 (w1.drewN nq)) B1.out.size)⟩
  · have hp0 : decide (0 ≤ ps) = true := by simp; omega
    rw [hp0, Bool.true_and]
    clear hp0
    cases N with
    | true =>
      rw [Bool.not_true, Bool.false_and]
      go_enter Tryd.func27, Tryd.ntmps27
      go_upto_region 1 with fail
      have hcd : Below w1.heap.size w1 w1.drew := (Below.refl _ w1).drew
      obtain ⟨c0, c1, c2, c3, c4, c5, c6, c7, c8, _⟩ := SV.out w1 (Below.refl _ _)
      go_region_held3 (fun w' => w'.cell? ⟨w.heap.size, 0, none⟩ = some (.int .i64 2) ∧ w'.cell? ⟨w.heap.size, 1, none⟩ = some (.int .i64 ps) ∧ w'.cell? ⟨w.heap.size, 2, none⟩ = some (.string nm) ∧ w'.cell? ⟨w.heap.size, 3, none⟩ = some (.string lb) ∧ w'.cell? ⟨w.heap.size, 4, none⟩ = some (.string ty) ∧ w'.cell? ⟨w.heap.size, 5, none⟩ = some (.int .i64 op) ∧ w'.cell? ⟨w.heap.size, 6, none⟩ = some (.int .i64 it) ∧ w'.cell? ⟨w.heap.size, 7, none⟩ = some (.string tx) ∧ w'.cell? ⟨w.heap.size, 8, none⟩ = some (.int .i64 zz) ∧ Below w1.heap.size w1 w') (exact SV.out _ (by assumption))
        (first
        | (go_at_call 39; refine (HBr.out _ hcd).mono ?_; rintro e w2 ⟨rfl, hb2⟩; replace hcd := hcd.trans (hb2.mono hcd.size)))
      go_wp2
      go_ret
      exact ⟨rfl, B1.out.trans (hcd.mono B1.out.size)⟩
    | false =>
      rw [Bool.not_false, Bool.true_and]
      obtain ⟨b, hb⟩ : ∃ b, (rn && ((ty.toList == []) || rt)) = b := ⟨_, rfl⟩
      have HB : Hid ((rn && ((ty.toList == []) || rt)) = b) := hb
      rw [hb]
      clear hb
      go_enter Tryd.func27, Tryd.ntmps27
      go_upto_region 1 with fail
      have hcd : Below w1.heap.size w1 w1.drew := (Below.refl _ w1).drew
      obtain ⟨c0, c1, c2, c3, c4, c5, c6, c7, c8, _⟩ := SV.out w1 (Below.refl _ _)
      go_region_held3 (fun w' => w'.cell? ⟨w.heap.size, 0, none⟩ = some (.int .i64 2) ∧ w'.cell? ⟨w.heap.size, 1, none⟩ = some (.int .i64 ps) ∧ w'.cell? ⟨w.heap.size, 2, none⟩ = some (.string nm) ∧ w'.cell? ⟨w.heap.size, 3, none⟩ = some (.string lb) ∧ w'.cell? ⟨w.heap.size, 4, none⟩ = some (.string ty) ∧ w'.cell? ⟨w.heap.size, 5, none⟩ = some (.int .i64 op) ∧ w'.cell? ⟨w.heap.size, 6, none⟩ = some (.int .i64 it) ∧ w'.cell? ⟨w.heap.size, 7, none⟩ = some (.string tx) ∧ w'.cell? ⟨w.heap.size, 8, none⟩ = some (.int .i64 zz) ∧ Below w1.heap.size w1 w') (exact SV.out _ (by assumption))
        (first
        | (go_at_call 39; refine (HBr.out _ hcd).mono ?_; rintro e w2 ⟨rfl, hb2⟩; replace hcd := hcd.trans (hb2.mono hcd.size)))
      obtain ⟨d0, d1, d2, d3, d4, d5, d6, d7, d8, _⟩ := SV.out w2 hcd
      have HBw : Hid (Below w.heap.size w w2) := B1.out.trans (hcd.mono B1.out.size)
      clear SV HBr c0 c1 c2 c3 c4 c5 c6 c7 c8 hN hps hw1
      cases hel : (lb.toList == [])
      all_goals go_upto_region 4 with (first
        | (go_at_call 40; refine (HL.out w2 HBw.out).mono ?_; rintro e w3 ⟨rfl, hw3⟩; subst hw3)
        | go_in)
      all_goals clear HL
      all_goals go_wp2_with (first
        | (go_at_call 40; refine (HM.out w2 HBw.out).mono ?_; rintro e w3 ⟨rfl, hw3⟩; subst hw3)
        | (go_at_call 41; refine (HY.out w2 HBw.out).mono ?_; rintro e w3 ⟨rfl, hw3⟩; subst hw3)
        | go_in)
      all_goals rw [← HB.out]
      all_goals go_ret
      all_goals (refine ⟨?_, HBw.out⟩; first | rfl | (simp; done) | (simp_all; done) | (simp_all; omega))

set_option maxRecDepth 100000 in
set_option maxHeartbeats 1000000 in
theorem fields_3 (ps : Int) (nm lb ty : ByteArray) (op it : Int) (tx : ByteArray) (zz : Int) (w : World) (N rl rn rt : Bool) (hN : ∀ w : World, (binOp BinOp.neq 39 (.agg #[.int .i64 3, .int .i64 0, .string (⟨#[]⟩ : ByteArray), .string lb, .string (⟨#[]⟩ : ByteArray), .int .i64 op, .int .i64 it, .string tx, .int .i64 0]) (.agg #[.int .i64 3, .int .i64 0, .string (⟨#[]⟩ : ByteArray), .string (⟨#[]⟩ : ByteArray), .string (⟨#[]⟩ : ByteArray), .int .i64 0, .int .i64 0, .string (⟨#[]⟩ : ByteArray), .int .i64 0])).run Tryd.prog w = .ok (.bool N) w)
    (HL : Hid (∀ w', Below w.heap.size w w' → Calls Tryd.prog 40 #[.string lb] w' fun e w'' => e = .returned (.bool rl) ∧ w' = w'')) (HM : Hid (∀ w', Below w.heap.size w w' → Calls Tryd.prog 40 #[.string nm] w' fun e w'' => e = .returned (.bool rn) ∧ w' = w'')) (HY : Hid (∀ w', Below w.heap.size w w' → Calls Tryd.prog 41 #[.string ty] w' fun e w'' => e = .returned (.bool rt) ∧ w' = w'')) :
    Calls Tryd.prog 27 #[.agg #[.int .i64 3, .int .i64 ps, .string nm, .string lb, .string ty, .int .i64 op, .int .i64 it, .string tx, .int .i64 zz]] w fun e w' => e = .returned (.bool ((decide (0 ≤ ps) && !N) && (rn && rt))) ∧ Below w.heap.size w w' := by
  have hu : True ∧ True ∧ True := ⟨(fun _ => trivial) HL, (fun _ => trivial) HM, (fun _ => trivial) HY⟩
  clear hu
  obtain ⟨w1, hw1⟩ : ∃ w1, w.alloc (.cells #[.int .i64 3, .int .i64 ps, .string nm, .string lb, .string ty, .int .i64 op, .int .i64 it, .string tx, .int .i64 zz] 39) = w1 := ⟨_, rfl⟩
  have z1 : w.heap.size < w1.heap.size := by rw [← hw1]; simp
  have B1 : Hid (Below w.heap.size w w1) := by show Below _ _ _; rw [← hw1]; exact (Below.refl _ w).alloc (Nat.le_refl _) _
  have SV : Hid (∀ w' : World, Below w1.heap.size w1 w' → w'.cell? ⟨w.heap.size, 0, none⟩ = some (.int .i64 3) ∧ w'.cell? ⟨w.heap.size, 1, none⟩ = some (.int .i64 ps) ∧ w'.cell? ⟨w.heap.size, 2, none⟩ = some (.string nm) ∧ w'.cell? ⟨w.heap.size, 3, none⟩ = some (.string lb) ∧ w'.cell? ⟨w.heap.size, 4, none⟩ = some (.string ty) ∧ w'.cell? ⟨w.heap.size, 5, none⟩ = some (.int .i64 op) ∧ w'.cell? ⟨w.heap.size, 6, none⟩ = some (.int .i64 it) ∧ w'.cell? ⟨w.heap.size, 7, none⟩ = some (.string tx) ∧ w'.cell? ⟨w.heap.size, 8, none⟩ = some (.int .i64 zz) ∧ Below w1.heap.size w1 w') := fun w' hb => by
    have q : ∀ (k : Nat) (v : Value), #[.int .i64 3, .int .i64 ps, .string nm, .string lb, .string ty, .int .i64 op, .int .i64 it, .string tx, .int .i64 zz][k]? = some v → w'.cell? ⟨w.heap.size, k, none⟩ = some v := fun k v hv =>
      (hb.cell (p := ⟨w.heap.size, k, none⟩) z1).trans (by rw [← hw1]; exact cell_new _ _ _ _ _ hv)
    exact ⟨q 0 _ rfl, q 1 _ rfl, q 2 _ rfl, q 3 _ rfl, q 4 _ rfl, q 5 _ rfl, q 6 _ rfl, q 7 _ rfl, q 8 _ rfl, hb⟩
  have HBr : Hid (∀ w', Below w1.heap.size w1 w' → Calls Tryd.prog 39 #[.agg #[.int .i64 3, .int .i64 ps, .string nm, .string lb, .string ty, .int .i64 op, .int .i64 it, .string tx, .int .i64 zz]] w' fun e w'' => e = .returned (.agg #[.int .i64 3, .int .i64 0, .string (⟨#[]⟩ : ByteArray), .string lb, .string (⟨#[]⟩ : ByteArray), .int .i64 op, .int .i64 it, .string tx, .int .i64 0]) ∧ Below w'.heap.size w' w'') := fun w' _ => bare_3 ps nm lb ty op it tx zz w'
  by_cases hps : ps < 0
  · have hf : ((decide (0 ≤ ps) && !N) && (rn && rt)) = false := by simp [show ¬ 0 ≤ ps by omega]
    rw [hf]
    clear hf
    go_enter Tryd.func27, Tryd.ntmps27
    go_upto_region 1 with fail
    obtain ⟨c0, c1, c2, c3, c4, c5, c6, c7, c8, _⟩ := SV.out w1 (Below.refl _ _)
    go_quiet (fail)
    all_goals go_wp2
    all_goals go_ret
    all_goals exact ⟨rfl, B1.out.trans (Below.mono (⟨rfl, rfl, rfl, Nat.le_refl _, fun _ _ => rfl⟩ : Below w1.heap.size w1 (w1.drewN nq)) B1.out.size)⟩
  · have hp0 : decide (0 ≤ ps) = true := by simp; omega
    rw [hp0, Bool.true_and]
    clear hp0
    cases N with
    | true =>
      rw [Bool.not_true, Bool.false_and]
      go_enter Tryd.func27, Tryd.ntmps27
      go_upto_region 1 with fail
      have hcd : Below w1.heap.size w1 w1.drew := (Below.refl _ w1).drew
      obtain ⟨c0, c1, c2, c3, c4, c5, c6, c7, c8, _⟩ := SV.out w1 (Below.refl _ _)
      go_region_held3 (fun w' => w'.cell? ⟨w.heap.size, 0, none⟩ = some (.int .i64 3) ∧ w'.cell? ⟨w.heap.size, 1, none⟩ = some (.int .i64 ps) ∧ w'.cell? ⟨w.heap.size, 2, none⟩ = some (.string nm) ∧ w'.cell? ⟨w.heap.size, 3, none⟩ = some (.string lb) ∧ w'.cell? ⟨w.heap.size, 4, none⟩ = some (.string ty) ∧ w'.cell? ⟨w.heap.size, 5, none⟩ = some (.int .i64 op) ∧ w'.cell? ⟨w.heap.size, 6, none⟩ = some (.int .i64 it) ∧ w'.cell? ⟨w.heap.size, 7, none⟩ = some (.string tx) ∧ w'.cell? ⟨w.heap.size, 8, none⟩ = some (.int .i64 zz) ∧ Below w1.heap.size w1 w') (exact SV.out _ (by assumption))
        (first
        | (go_at_call 39; refine (HBr.out _ hcd).mono ?_; rintro e w2 ⟨rfl, hb2⟩; replace hcd := hcd.trans (hb2.mono hcd.size)))
      go_wp2
      go_ret
      exact ⟨rfl, B1.out.trans (hcd.mono B1.out.size)⟩
    | false =>
      rw [Bool.not_false, Bool.true_and]
      obtain ⟨b, hb⟩ : ∃ b, (rn && rt) = b := ⟨_, rfl⟩
      have HB : Hid ((rn && rt) = b) := hb
      rw [hb]
      clear hb
      go_enter Tryd.func27, Tryd.ntmps27
      go_upto_region 1 with fail
      have hcd : Below w1.heap.size w1 w1.drew := (Below.refl _ w1).drew
      obtain ⟨c0, c1, c2, c3, c4, c5, c6, c7, c8, _⟩ := SV.out w1 (Below.refl _ _)
      go_region_held3 (fun w' => w'.cell? ⟨w.heap.size, 0, none⟩ = some (.int .i64 3) ∧ w'.cell? ⟨w.heap.size, 1, none⟩ = some (.int .i64 ps) ∧ w'.cell? ⟨w.heap.size, 2, none⟩ = some (.string nm) ∧ w'.cell? ⟨w.heap.size, 3, none⟩ = some (.string lb) ∧ w'.cell? ⟨w.heap.size, 4, none⟩ = some (.string ty) ∧ w'.cell? ⟨w.heap.size, 5, none⟩ = some (.int .i64 op) ∧ w'.cell? ⟨w.heap.size, 6, none⟩ = some (.int .i64 it) ∧ w'.cell? ⟨w.heap.size, 7, none⟩ = some (.string tx) ∧ w'.cell? ⟨w.heap.size, 8, none⟩ = some (.int .i64 zz) ∧ Below w1.heap.size w1 w') (exact SV.out _ (by assumption))
        (first
        | (go_at_call 39; refine (HBr.out _ hcd).mono ?_; rintro e w2 ⟨rfl, hb2⟩; replace hcd := hcd.trans (hb2.mono hcd.size)))
      obtain ⟨d0, d1, d2, d3, d4, d5, d6, d7, d8, _⟩ := SV.out w2 hcd
      have HBw : Hid (Below w.heap.size w w2) := B1.out.trans (hcd.mono B1.out.size)
      clear SV HBr c0 c1 c2 c3 c4 c5 c6 c7 c8 hN hps hw1
      cases hel : (lb.toList == [])
      all_goals go_upto_region 4 with (first
        | (go_at_call 40; refine (HL.out w2 HBw.out).mono ?_; rintro e w3 ⟨rfl, hw3⟩; subst hw3)
        | go_in)
      all_goals clear HL
      all_goals go_wp2_with (first
        | (go_at_call 40; refine (HM.out w2 HBw.out).mono ?_; rintro e w3 ⟨rfl, hw3⟩; subst hw3)
        | (go_at_call 41; refine (HY.out w2 HBw.out).mono ?_; rintro e w3 ⟨rfl, hw3⟩; subst hw3)
        | go_in)
      all_goals rw [← HB.out]
      all_goals go_ret
      all_goals (refine ⟨?_, HBw.out⟩; first | rfl | (simp; done) | (simp_all; done) | (simp_all; omega))

set_option maxRecDepth 100000 in
set_option maxHeartbeats 1000000 in
theorem fields_5 (ps : Int) (nm lb ty : ByteArray) (op it : Int) (tx : ByteArray) (zz : Int) (w : World) (N rl rn rt : Bool) (hN : ∀ w : World, (binOp BinOp.neq 39 (.agg #[.int .i64 5, .int .i64 0, .string (⟨#[]⟩ : ByteArray), .string lb, .string (⟨#[]⟩ : ByteArray), .int .i64 op, .int .i64 it, .string tx, .int .i64 0]) (.agg #[.int .i64 5, .int .i64 0, .string (⟨#[]⟩ : ByteArray), .string (⟨#[]⟩ : ByteArray), .string (⟨#[]⟩ : ByteArray), .int .i64 0, .int .i64 0, .string (⟨#[]⟩ : ByteArray), .int .i64 0])).run Tryd.prog w = .ok (.bool N) w)
    (HL : Hid (∀ w', Below w.heap.size w w' → Calls Tryd.prog 40 #[.string lb] w' fun e w'' => e = .returned (.bool rl) ∧ w' = w'')) (HM : Hid (∀ w', Below w.heap.size w w' → Calls Tryd.prog 40 #[.string nm] w' fun e w'' => e = .returned (.bool rn) ∧ w' = w'')) (HY : Hid (∀ w', Below w.heap.size w w' → Calls Tryd.prog 41 #[.string ty] w' fun e w'' => e = .returned (.bool rt) ∧ w' = w'')) :
    Calls Tryd.prog 27 #[.agg #[.int .i64 5, .int .i64 ps, .string nm, .string lb, .string ty, .int .i64 op, .int .i64 it, .string tx, .int .i64 zz]] w fun e w' => e = .returned (.bool ((decide (0 ≤ ps) && !N) && (rn && rt))) ∧ Below w.heap.size w w' := by
  have hu : True ∧ True ∧ True := ⟨(fun _ => trivial) HL, (fun _ => trivial) HM, (fun _ => trivial) HY⟩
  clear hu
  obtain ⟨w1, hw1⟩ : ∃ w1, w.alloc (.cells #[.int .i64 5, .int .i64 ps, .string nm, .string lb, .string ty, .int .i64 op, .int .i64 it, .string tx, .int .i64 zz] 39) = w1 := ⟨_, rfl⟩
  have z1 : w.heap.size < w1.heap.size := by rw [← hw1]; simp
  have B1 : Hid (Below w.heap.size w w1) := by show Below _ _ _; rw [← hw1]; exact (Below.refl _ w).alloc (Nat.le_refl _) _
  have SV : Hid (∀ w' : World, Below w1.heap.size w1 w' → w'.cell? ⟨w.heap.size, 0, none⟩ = some (.int .i64 5) ∧ w'.cell? ⟨w.heap.size, 1, none⟩ = some (.int .i64 ps) ∧ w'.cell? ⟨w.heap.size, 2, none⟩ = some (.string nm) ∧ w'.cell? ⟨w.heap.size, 3, none⟩ = some (.string lb) ∧ w'.cell? ⟨w.heap.size, 4, none⟩ = some (.string ty) ∧ w'.cell? ⟨w.heap.size, 5, none⟩ = some (.int .i64 op) ∧ w'.cell? ⟨w.heap.size, 6, none⟩ = some (.int .i64 it) ∧ w'.cell? ⟨w.heap.size, 7, none⟩ = some (.string tx) ∧ w'.cell? ⟨w.heap.size, 8, none⟩ = some (.int .i64 zz) ∧ Below w1.heap.size w1 w') := fun w' hb => by
    have q : ∀ (k : Nat) (v : Value), #[.int .i64 5, .int .i64 ps, .string nm, .string lb, .string ty, .int .i64 op, .int .i64 it, .string tx, .int .i64 zz][k]? = some v → w'.cell? ⟨w.heap.size, k, none⟩ = some v := fun k v hv =>
      (hb.cell (p := ⟨w.heap.size, k, none⟩) z1).trans (by rw [← hw1]; exact cell_new _ _ _ _ _ hv)
    exact ⟨q 0 _ rfl, q 1 _ rfl, q 2 _ rfl, q 3 _ rfl, q 4 _ rfl, q 5 _ rfl, q 6 _ rfl, q 7 _ rfl, q 8 _ rfl, hb⟩
  have HBr : Hid (∀ w', Below w1.heap.size w1 w' → Calls Tryd.prog 39 #[.agg #[.int .i64 5, .int .i64 ps, .string nm, .string lb, .string ty, .int .i64 op, .int .i64 it, .string tx, .int .i64 zz]] w' fun e w'' => e = .returned (.agg #[.int .i64 5, .int .i64 0, .string (⟨#[]⟩ : ByteArray), .string lb, .string (⟨#[]⟩ : ByteArray), .int .i64 op, .int .i64 it, .string tx, .int .i64 0]) ∧ Below w'.heap.size w' w'') := fun w' _ => bare_5 ps nm lb ty op it tx zz w'
  by_cases hps : ps < 0
  · have hf : ((decide (0 ≤ ps) && !N) && (rn && rt)) = false := by simp [show ¬ 0 ≤ ps by omega]
    rw [hf]
    clear hf
    go_enter Tryd.func27, Tryd.ntmps27
    go_upto_region 1 with fail
    obtain ⟨c0, c1, c2, c3, c4, c5, c6, c7, c8, _⟩ := SV.out w1 (Below.refl _ _)
    go_quiet (fail)
    all_goals go_wp2
    all_goals go_ret
    all_goals exact ⟨rfl, B1.out.trans (Below.mono (⟨rfl, rfl, rfl, Nat.le_refl _, fun _ _ => rfl⟩ : Below w1.heap.size w1 (w1.drewN nq)) B1.out.size)⟩
  · have hp0 : decide (0 ≤ ps) = true := by simp; omega
    rw [hp0, Bool.true_and]
    clear hp0
    cases N with
    | true =>
      rw [Bool.not_true, Bool.false_and]
      go_enter Tryd.func27, Tryd.ntmps27
      go_upto_region 1 with fail
      have hcd : Below w1.heap.size w1 w1.drew := (Below.refl _ w1).drew
      obtain ⟨c0, c1, c2, c3, c4, c5, c6, c7, c8, _⟩ := SV.out w1 (Below.refl _ _)
      go_region_held3 (fun w' => w'.cell? ⟨w.heap.size, 0, none⟩ = some (.int .i64 5) ∧ w'.cell? ⟨w.heap.size, 1, none⟩ = some (.int .i64 ps) ∧ w'.cell? ⟨w.heap.size, 2, none⟩ = some (.string nm) ∧ w'.cell? ⟨w.heap.size, 3, none⟩ = some (.string lb) ∧ w'.cell? ⟨w.heap.size, 4, none⟩ = some (.string ty) ∧ w'.cell? ⟨w.heap.size, 5, none⟩ = some (.int .i64 op) ∧ w'.cell? ⟨w.heap.size, 6, none⟩ = some (.int .i64 it) ∧ w'.cell? ⟨w.heap.size, 7, none⟩ = some (.string tx) ∧ w'.cell? ⟨w.heap.size, 8, none⟩ = some (.int .i64 zz) ∧ Below w1.heap.size w1 w') (exact SV.out _ (by assumption))
        (first
        | (go_at_call 39; refine (HBr.out _ hcd).mono ?_; rintro e w2 ⟨rfl, hb2⟩; replace hcd := hcd.trans (hb2.mono hcd.size)))
      go_wp2
      go_ret
      exact ⟨rfl, B1.out.trans (hcd.mono B1.out.size)⟩
    | false =>
      rw [Bool.not_false, Bool.true_and]
      obtain ⟨b, hb⟩ : ∃ b, (rn && rt) = b := ⟨_, rfl⟩
      have HB : Hid ((rn && rt) = b) := hb
      rw [hb]
      clear hb
      go_enter Tryd.func27, Tryd.ntmps27
      go_upto_region 1 with fail
      have hcd : Below w1.heap.size w1 w1.drew := (Below.refl _ w1).drew
      obtain ⟨c0, c1, c2, c3, c4, c5, c6, c7, c8, _⟩ := SV.out w1 (Below.refl _ _)
      go_region_held3 (fun w' => w'.cell? ⟨w.heap.size, 0, none⟩ = some (.int .i64 5) ∧ w'.cell? ⟨w.heap.size, 1, none⟩ = some (.int .i64 ps) ∧ w'.cell? ⟨w.heap.size, 2, none⟩ = some (.string nm) ∧ w'.cell? ⟨w.heap.size, 3, none⟩ = some (.string lb) ∧ w'.cell? ⟨w.heap.size, 4, none⟩ = some (.string ty) ∧ w'.cell? ⟨w.heap.size, 5, none⟩ = some (.int .i64 op) ∧ w'.cell? ⟨w.heap.size, 6, none⟩ = some (.int .i64 it) ∧ w'.cell? ⟨w.heap.size, 7, none⟩ = some (.string tx) ∧ w'.cell? ⟨w.heap.size, 8, none⟩ = some (.int .i64 zz) ∧ Below w1.heap.size w1 w') (exact SV.out _ (by assumption))
        (first
        | (go_at_call 39; refine (HBr.out _ hcd).mono ?_; rintro e w2 ⟨rfl, hb2⟩; replace hcd := hcd.trans (hb2.mono hcd.size)))
      obtain ⟨d0, d1, d2, d3, d4, d5, d6, d7, d8, _⟩ := SV.out w2 hcd
      have HBw : Hid (Below w.heap.size w w2) := B1.out.trans (hcd.mono B1.out.size)
      clear SV HBr c0 c1 c2 c3 c4 c5 c6 c7 c8 hN hps hw1
      cases hel : (lb.toList == [])
      all_goals go_upto_region 4 with (first
        | (go_at_call 40; refine (HL.out w2 HBw.out).mono ?_; rintro e w3 ⟨rfl, hw3⟩; subst hw3)
        | go_in)
      all_goals clear HL
      all_goals go_wp2_with (first
        | (go_at_call 40; refine (HM.out w2 HBw.out).mono ?_; rintro e w3 ⟨rfl, hw3⟩; subst hw3)
        | (go_at_call 41; refine (HY.out w2 HBw.out).mono ?_; rintro e w3 ⟨rfl, hw3⟩; subst hw3)
        | go_in)
      all_goals rw [← HB.out]
      all_goals go_ret
      all_goals (refine ⟨?_, HBw.out⟩; first | rfl | (simp; done) | (simp_all; done) | (simp_all; omega))

end Go.Proofs.YtlocaalipjjnpaaDoor
