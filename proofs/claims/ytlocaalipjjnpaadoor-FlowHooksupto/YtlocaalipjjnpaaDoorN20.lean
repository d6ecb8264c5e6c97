import Derived.Deep.RegionHeld3
import Derived.Deep.QuietTactic
import Derived.BigQuiet
import Derived.Test.YtlocaalipjjnpaaDoorN14
namespace Go.Proofs.YtlocaalipjjnpaaDoor
open Go.RowKit

set_option maxRecDepth 100000 in
set_option maxHeartbeats 1000000 in
theorem fields_16 (ps : Int) (nm lb ty : ByteArray) (op it : Int) (tx : ByteArray) (zz : Int) (w : World) (N rl rn rt : Bool) (hN : ∀ w : World, (binOp BinOp.neq 39 (.agg #[.int .i64 16, .int .i64 0, .string (⟨#[]⟩ : ByteArray), .string lb, .string ty, .int .i64 op, .int .i64 0, .string tx, .int .i64 0]) (.agg #[.int .i64 16, .int .i64 0, .string (⟨#[]⟩ : ByteArray), .string (⟨#[]⟩ : ByteArray), .string (⟨#[]⟩ : ByteArray), .int .i64 0, .int .i64 0, .string (⟨#[]⟩ : ByteArray), .int .i64 0])).run Tryd.prog w = .ok (.bool N) w)
    (HL : Hid (∀ w', Below w.heap.size w w' → Calls Tryd.prog 40 #[.string lb] w' fun e w'' => e = .returned (.bool rl) ∧ w' = w'')) (HM : Hid (∀ w', Below w.heap.size w w' → Calls Tryd.prog 40 #[.string nm] w' fun e w'' => e = .returned (.bool rn) ∧ w' = w'')) (HY : Hid (∀ w', Below w.heap.size w w' → Calls Tryd.prog 41 #[.string ty] w' fun e w'' => e = .returned (.bool rt) ∧ w' = w'')) :
    Calls Tryd.prog 27 #[.agg #[.int .i64 16, .int .i64 ps, .string nm, .string lb, .string ty, .int .i64 op, .int .i64 it, .string tx, .int .i64 zz]] w fun e w' => e = .returned (.bool ((decide (0 ≤ ps) && !N) && ((decide (1 ≤ it) && decide (it ≤ 40000)) && ((nm.toList == []) || rn)))) ∧ Below w.heap.size w w' := by
  have hu : True ∧ True ∧ True := ⟨(fun _ => trivial) HL, (fun _ => trivial) HM, (fun _ => trivial) HY⟩
  clear hu
  obtain ⟨w1, hw1⟩ : ∃ w1, w.alloc (.cells #[.int .i64 16, .int .i64 ps, .string nm, .string lb, .string ty, .int .i64 op, .int .i64 it, .string tx, .int .i64 zz] 39) = w1 := ⟨_, rfl⟩
  have z1 : w.heap.size < w1.heap.size := by rw [← hw1]; simp
  have B1 : Hid (Below w.heap.size w w1) := by show Below _ _ _; rw [← hw1]; exact (Below.refl _ w).alloc (Nat.le_refl _) _
  have SV : Hid (∀ w' : World, Below w1.heap.size w1 w' → w'.cell? ⟨w.heap.size, 0, none⟩ = some (.int .i64 16) ∧ w'.cell? ⟨w.heap.size, 1, none⟩ = some (.int .i64 ps) ∧ w'.cell? ⟨w.heap.size, 2, none⟩ = some (.string nm) ∧ w'.cell? ⟨w.heap.size, 3, none⟩ = some (.string lb) ∧ w'.cell? ⟨w.heap.size, 4, none⟩ = some (.string ty) ∧ w'.cell? ⟨w.heap.size, 5, none⟩ = some (.int .i64 op) ∧ w'.cell? ⟨w.heap.size, 6, none⟩ = some (.int .i64 it) ∧ w'.cell? ⟨w.heap.size, 7, none⟩ = some (.string tx) ∧ w'.cell? ⟨w.heap.size, 8, none⟩ = some (.int .i64 zz) ∧ Below w1.heap.size w1 w') := fun w' hb => by
    have q : ∀ (k : Nat) (v : Value), #[.int .i64 16, .int .i64 ps, .string nm, .string lb, .string ty, .int .i64 op, .int .i64 it, .string tx, .int .i64 zz][k]? = some v → w'.cell? ⟨w.heap.size, k, none⟩ = some v := fun k v hv =>
      (hb.cell (p := ⟨w.heap.size, k, none⟩) z1).trans (by rw [← hw1]; exact cell_new _ _ _ _ _ hv)
    exact ⟨q 0 _ rfl, q 1 _ rfl, q 2 _ rfl, q 3 _ rfl, q 4 _ rfl, q 5 _ rfl, q 6 _ rfl, q 7 _ rfl, q 8 _ rfl, hb⟩
  have HBr : Hid (∀ w', Below w1.heap.size w1 w' → Calls Tryd.prog 39 #[.agg #[.int .i64 16, .int .i64 ps, .string nm, .string lb, .string ty, .int .i64 op, .int .i64 it, .string tx, .int .i64 zz]] w' fun e w'' => e = .returned (.agg #[.int .i64 16, .int .i64 0, .string (⟨#[]⟩ : ByteArray), .string lb, .string ty, .int .i64 op, .int .i64 0, .string tx, .int .i64 0]) ∧ Below w'.heap.size w' w'') := fun w' _ => bare_16 ps nm lb ty op it tx zz w'
  by_cases hps : ps < 0
  · have hf : ((decide (0 ≤ ps) && !N) && ((decide (1 ≤ it) && decide (it ≤ 40000)) && ((nm.toList == []) || rn))) = false := by simp [show ¬ 0 ≤ ps by omega]
    rw [hf]
    clear hf
    go_enter Tryd.func27, Tryd.ntmps27
    go_upto_region 1 with fail
    obtain ⟨c0, c1, c2, c3, c4, c5, c6, c7, c8, _⟩ := SV.out w1 (Below.refl _ _)
    go_quiet (fail)
    all_goals go_wp2
    all_goals go_ret
    all_goals exact ⟨rfl, B1.out.trans (Below.mono (⟨rfl, rfl, rfl, Nat.le_refl _, fun _ _ => rfl⟩ : Below w1.heap.size w1 (w1.drewN nq)) B1.out.size)⟩
  · have hp0 : decide (0 ≤ ps) = true := by simp; omega
    rw [hp0, Bool.true_and]
    clear hp0
    cases N with
    | true =>
      rw [Bool.not_true, Bool.false_and]
      go_enter Tryd.func27, Tryd.ntmps27
      go_upto_region 1 with fail
      have hcd : Below w1.heap.size w1 w1.drew := (Below.refl _ w1).drew
      obtain ⟨c0, c1, c2, c3, c4, c5, c6, c7, c8, _⟩ := SV.out w1 (Below.refl _ _)
      go_region_held3 (fun w' => w'.cell? ⟨w.heap.size, 0, none⟩ = some (.int .i64 16) ∧ w'.cell? ⟨w.heap.size, 1, none⟩ = some (.int .i64 ps) ∧ w'.cell? ⟨w.heap.size, 2, none⟩ = some (.string nm) ∧ w'.cell? ⟨w.heap.size, 3, none⟩ = some (.string lb) ∧ w'.cell? ⟨w.heap.size, 4, none⟩ = some (.string ty) ∧ w'.cell? ⟨w.heap.size, 5, none⟩ = some (.int .i64 op) ∧ w'.cell? ⟨w.heap.size, 6, none⟩ = some (.int .i64 it) ∧ w'.cell? ⟨w.heap.size, 7, none⟩ = some (.string tx) ∧ w'.cell? ⟨w.heap.size, 8, none⟩ = some (.int .i64 zz) ∧ Below w1.heap.size w1 w') (exact SV.out _ (by assumption))
        (first
        | (go_at_call 39; refine (HBr.out _ hcd).mono ?_; rintro e w2 ⟨rfl, hb2⟩; replace hcd := hcd.trans (hb2.mono hcd.size)))
      go_wp2
      go_ret
      exact ⟨rfl, B1.out.trans (hcd.mono B1.out.size)⟩
    | false =>
      rw [Bool.not_false, Bool.true_and]
      obtain ⟨b, hb⟩ : ∃ b, ((decide (1 ≤ it) && decide (it ≤ 40000)) && ((nm.toList == []) || rn)) = b := ⟨_, rfl⟩
      have HB : Hid (((decide (1 ≤ it) && decide (it ≤ 40000)) && ((nm.toList == []) || rn)) = b) := hb
      rw [hb]
      clear hb
      go_enter Tryd.func27, Tryd.ntmps27
      go_upto_region 1 with fail
      have hcd : Below w1.heap.size w1 w1.drew := (Below.refl _ w1).drew
      obtain ⟨c0, c1, c2, c3, c4, c5, c6, c7, c8, _⟩ := SV.out w1 (Below.refl _ _)
      go_region_held3 (fun w' => w'.cell? ⟨w.heap.size, 0, none⟩ = some (.int .i64 16) ∧ w'.cell? ⟨w.heap.size, 1, none⟩ = some (.int .i64 ps) ∧ w'.cell? ⟨w.heap.size, 2, none⟩ = some (.string nm) ∧ w'.cell? ⟨w.heap.size, 3, none⟩ = some (.string lb) ∧ w'.cell? ⟨w.heap.size, 4, none⟩ = some (.string ty) ∧ w'.cell? ⟨w.heap.size, 5, none⟩ = some (.int .i64 op) ∧ w'.cell? ⟨w.heap.size, 6, none⟩ = some (.int .i64 it) ∧ w'.cell? ⟨w.heap.size, 7, none⟩ = some (.string tx) ∧ w'.cell? ⟨w.heap.size, 8, none⟩ = some (.int .i64 zz) ∧ Below w1.heap.size w1 w') (exact SV.out _ (by assumption))
        (first
        | (go_at_call 39; refine (HBr.out _ hcd).mono ?_; rintro e w2 ⟨rfl, hb2⟩; replace hcd := hcd.trans (hb2.mono hcd.size)))
      obtain ⟨d0, d1, d2, d3, d4, d5, d6, d7, d8, _⟩ := SV.out w2 hcd
      have HBw : Hid (Below w.heap.size w w2) := B1.out.trans (hcd.mono B1.out.size)
      clear SV HBr c0 c1 c2 c3 c4 c5 c6 c7 c8 hN hps hw1
      cases hel : (lb.toList == [])
      all_goals go_upto_region 4 with (first
        | (go_at_call 40; refine (HL.out w2 HBw.out).mono ?_; rintro e w3 ⟨rfl, hw3⟩; subst hw3)
        | go_in)
      all_goals clear HL
      all_goals go_wp2_with (first
        | (go_at_call 40; refine (HM.out w2 HBw.out).mono ?_; rintro e w3 ⟨rfl, hw3⟩; subst hw3)
        | (go_at_call 41; refine (HY.out w2 HBw.out).mono ?_; rintro e w3 ⟨rfl, hw3⟩; subst hw3)
        | go_in)
      all_goals rw [← HB.out]
      all_goals go_ret
      all_goals (refine ⟨?_, HBw.out⟩; first | rfl | (simp; done) | (simp_all; done) | (simp_all; omega))

set_option maxRecDepth 100000 in
set_option maxHeartbeats 1000000 in
theorem fields_21 (ps : Int) (nm lb ty : ByteArray) (op it : Int) (tx : ByteArray) (zz : Int) (w : World) (N rl rn rt : Bool) (hN : ∀ w : World, (binOp BinOp.neq 39 (.agg #[.int .i64 21, .int .i64 0, .string nm, .string lb, .string ty, .int .i64 op, .int .i64 0, .string tx, .int .i64 0]) (.agg #[.int .i64 21, .int .i64 0, .string (⟨#[]⟩ : ByteArray), .string (⟨#[]⟩ : ByteArray), .string (⟨#[]⟩ : ByteArray), .int .i64 0, .int .i64 0, .string (⟨#[]⟩ : ByteArray), .int .i64 0])).run Tryd.prog w = .ok (.bool N) w)
    (HL : Hid (∀ w', Below w.heap.size w w' → Calls Tryd.prog 40 #[.string lb] w' fun e w'' => e = .returned (.bool rl) ∧ w' = w'')) (HM : Hid (∀ w', Below w.heap.size w w' → Calls Tryd.prog 40 #[.string nm] w' fun e w'' => e = .returned (.bool rn) ∧ w' = w'')) (HY : Hid (∀ w', Below w.heap.size w w' → Calls Tryd.prog 41 #[.string ty] w' fun e w'' => e = .returned (.bool rt) ∧ w' = w'')) :
    Calls Tryd.prog 27 #[.agg #[.int .i64 21, .int .i64 ps, .string nm, .string lb, .string ty, .int .i64 op, .int .i64 it, .string tx, .int .i64 zz]] w fun e w' => e = .returned (.bool ((decide (0 ≤ ps) && !N) && ((it == 0) || (it == 1)))) ∧ Below w.heap.size w w' := by
  have hu : True ∧ True ∧ True := ⟨(fun _ => trivial) HL, (fun _ => trivial) HM, (fun _ => trivial) HY⟩
  clear hu
  obtain ⟨w1, hw1⟩ : ∃ w1, w.alloc (.cells #[.int .i64 21, .int .i64 ps, .string nm, .string lb, .string ty, .int .i64 op, .int .i64 it, .string tx, .int .i64 zz] 39) = w1 := ⟨_, rfl⟩
  have z1 : w.heap.size < w1.heap.size := by rw [← hw1]; simp
  have B1 : Hid (Below w.heap.size w w1) := by show Below _ _ _; rw [← hw1]; exact (Below.refl _ w).alloc (Nat.le_refl _) _
  have SV : Hid (∀ w' : World, Below w1.heap.size w1 w' → w'.cell? ⟨w.heap.size, 0, none⟩ = some (.int .i64 21) ∧ w'.cell? ⟨w.heap.size, 1, none⟩ = some (.int .i64 ps) ∧ w'.cell? ⟨w.heap.size, 2, none⟩ = some (.string nm) ∧ w'.cell? ⟨w.heap.size, 3, none⟩ = some (.string lb) ∧ w'.cell? ⟨w.heap.size, 4, none⟩ = some (.string ty) ∧ w'.cell? ⟨w.heap.size, 5, none⟩ = some (.int .i64 op) ∧ w'.cell? ⟨w.heap.size, 6, none⟩ = some (.int .i64 it) ∧ w'.cell? ⟨w.heap.size, 7, none⟩ = some (.string tx) ∧ w'.cell? ⟨w.heap.size, 8, none⟩ = some (.int .i64 zz) ∧ Below w1.heap.size w1 w') := fun w' hb => by
    have q : ∀ (k : Nat) (v : Value), #[.int .i64 21, .int .i64 ps, .string nm, .string lb, .string ty, .int .i64 op, .int .i64 it, .string tx, .int .i64 zz][k]? = some v → w'.cell? ⟨w.heap.size, k, none⟩ = some v := fun k v hv =>
      (hb.cell (p := ⟨w.heap.size, k, none⟩) z1).trans (by rw [← hw1]; exact cell_new _ _ _ _ _ hv)
    exact ⟨q 0 _ rfl, q 1 _ rfl, q 2 _ rfl, q 3 _ rfl, q 4 _ rfl, q 5 _ rfl, q 6 _ rfl, q 7 _ rfl, q 8 _ rfl, hb⟩
  have HBr : Hid (∀ w', Below w1.heap.size w1 w' → Calls Tryd.prog 39 #[.agg #[.int .i64 21, .int .i64 ps, .string nm, .string lb, .string ty, .int .i64 op, .int .i64 it, .string tx, .int .i64 zz]] w' fun e w'' => e = .returned (.agg #[.int .i64 21, .int .i64 0, .string nm, .string lb, .string ty, .int .i64 op, .int .i64 0, .string tx, .int .i64 0]) ∧ Below w'.heap.size w' w'') := fun w' _ => bare_21 ps nm lb ty op it tx zz w'
  by_cases hps : ps < 0
  · have hf : ((decide (0 ≤ ps) && !N) && ((it == 0) || (it == 1))) = false := by simp [show ¬ 0 ≤ ps by omega]
    rw [hf]
    clear hf
    go_enter Tryd.func27, Tryd.ntmps27
    go_upto_region 1 with fail
    obtain ⟨c0, c1, c2, c3, c4, c5, c6, c7, c8, _⟩ := SV.out w1 (Below.refl _ _)
    go_quiet (fail)
    all_goals go_wp2
    all_goals go_ret
    all_goals exact ⟨rfl, B1.out.trans (Below.mono (⟨rfl, rfl, rfl, Nat.le_refl _, fun _ _ => rfl⟩ : Below w1.heap.size w1 (w1.drewN nq)) B1.out.size)⟩
  · have hp0 : decide (0 ≤ ps) = true := by simp; omega
    rw [hp0, Bool.true_and]
    clear hp0
    cases N with
    | true =>
      rw [Bool.not_true, Bool.false_and]
      go_enter Tryd.func27, Tryd.ntmps27
      go_upto_region 1 with fail
      have hcd : Below w1.heap.size w1 w1.drew := (Below.refl _ w1).drew
      obtain ⟨c0, c1, c2, c3, c4, c5, c6, c7, c8, _⟩ := SV.out w1 (Below.refl _ _)
      go_region_held3 (fun w' => w'.cell? ⟨w.heap.size, 0, none⟩ = some (.int .i64 21) ∧ w'.cell? ⟨w.heap.size, 1, none⟩ = some (.int .i64 ps) ∧ w'.cell? ⟨w.heap.size, 2, none⟩ = some (.string nm) ∧ w'.cell? ⟨w.heap.size, 3, none⟩ = some (.string lb) ∧ w'.cell? ⟨w.heap.size, 4, none⟩ = some (.string ty) ∧ w'.cell? ⟨w.heap.size, 5, none⟩ = some (.int .i64 op) ∧ w'.cell? ⟨w.heap.size, 6, none⟩ = some (.int .i64 it) ∧ w'.cell? ⟨w.heap.size, 7, none⟩ = some (.string tx) ∧ w'.cell? ⟨w.heap.size, 8, none⟩ = some (.int .i64 zz) ∧ Below w1.heap.size w1 w') (exact SV.out _ (by assumption))
        (first
        | (go_at_call 39; refine (HBr.out _ hcd).mono ?_; rintro e w2 ⟨rfl, hb2⟩; replace hcd := hcd.trans (hb2.mono hcd.size)))
      go_wp2
      go_ret
      exact ⟨rfl, B1.out.trans (hcd.mono B1.out.size)⟩
    | false =>
      rw [Bool.not_false, Bool.true_and]
      obtain ⟨b, hb⟩ : ∃ b, ((it == 0) || (it == 1)) = b := ⟨_, rfl⟩
      have HB : Hid (((it == 0) || (it == 1)) = b) := hb
      rw [hb]
      clear hb
      go_enter Tryd.func27, Tryd.ntmps27
      go_upto_region 1 with fail
      have hcd : Below w1.heap.size w1 w1.drew := (Below.refl _ w1).drew
      obtain ⟨c0, c1, c2, c3, c4, c5, c6, c7, c8, _⟩ := SV.out w1 (Below.refl _ _)
      go_region_held3 (fun w' => w'.cell? ⟨w.heap.size, 0, none⟩ = some (.int .i64 21) ∧ w'.cell? ⟨w.heap.size, 1, none⟩ = some (.int .i64 ps) ∧ w'.cell? ⟨w.heap.size, 2, none⟩ = some (.string nm) ∧ w'.cell? ⟨w.heap.size, 3, none⟩ = some (.string lb) ∧ w'.cell? ⟨w.heap.size, 4, none⟩ = some (.string ty) ∧ w'.cell? ⟨w.heap.size, 5, none⟩ = some (.int .i64 op) ∧ w'.cell? ⟨w.heap.size, 6, none⟩ = some (.int .i64 it) ∧ w'.cell? ⟨w.heap.size, 7, none⟩ = some (.string tx) ∧ w'.cell? ⟨w.heap.size, 8, none⟩ = some (.int .i64 zz) ∧ Below w1.heap.size w1 w') (exact SV.out _ (by assumption))
        (first
        | (go_at_call 39; refine (HBr.out _ hcd).mono ?_; rintro e w2 ⟨rfl, hb2⟩; replace hcd := hcd.trans (hb2.mono hcd.size)))
      obtain ⟨d0, d1, d2, d3, d4, d5, d6, d7, d8, _⟩ := SV.out w2 hcd
      have HBw : Hid (Below w.heap.size w w2) := B1.out.trans (hcd.mono B1.out.size)
      clear SV HBr c0 c1 c2 c3 c4 c5 c6 c7 c8 hN hps hw1
      cases hel : (lb.toList == [])
      all_goals go_upto_region 4 with (first
        | (go_at_call 40; refine (HL.out w2 HBw.out).mono ?_; rintro e w3 ⟨rfl, hw3⟩; subst hw3)
        | go_in)
      all_goals clear HL
      all_goals go_wp2_with (first
        | (go_at_call 40; refine (HM.out w2 HBw.out).mono ?_; rintro e w3 ⟨rfl, hw3⟩; subst hw3)
        | (go_at_call 41; refine (HY.out w2 HBw.out).mono ?_; rintro e w3 ⟨rfl, hw3⟩; subst hw3)
        | go_in)
      all_goals rw [← HB.out]
      all_goals go_ret
      all_goals (refine ⟨?_, HBw.out⟩; first | rfl | (simp; done) | (simp_all; done) | (simp_all; omega))

set_option maxRecDepth 100000 in
set_option maxHeartbeats 1000000 in
theorem fields_22 (ps : Int) (nm lb ty : ByteArray) (op it : Int) (tx : ByteArray) (zz : Int) (w : World) (N rl rn rt : Bool) (hN : ∀ w : World, (binOp BinOp.neq 39 (.agg #[.int .i64 22, .int .i64 0, .string nm, .string lb, .string ty, .int .i64 op, .int .i64 it, .string (⟨#[]⟩ : ByteArray), .int .i64 0]) (.agg #[.int .i64 22, .int .i64 0, .string (⟨#[]⟩ : ByteArray), .string (⟨#[]⟩ : ByteArray), .string (⟨#[]⟩ : ByteArray), .int .i64 0, .int .i64 0, .string (⟨#[]⟩ : ByteArray), .int .i64 0])).run Tryd.prog w = .ok (.bool N) w)
    (HL : Hid (∀ w', Below w.heap.size w w' → Calls Tryd.prog 40 #[.string lb] w' fun e w'' => e = .returned (.bool rl) ∧ w' = w'')) (HM : Hid (∀ w', Below w.heap.size w w' → Calls Tryd.prog 40 #[.string nm] w' fun e w'' => e = .returned (.bool rn) ∧ w' = w'')) (HY : Hid (∀ w', Below w.heap.size w w' → Calls Tryd.prog 41 #[.string ty] w' fun e w'' => e = .returned (.bool rt) ∧ w' = w'')) :
    Calls Tryd.prog 27 #[.agg #[.int .i64 22, .int .i64 ps, .string nm, .string lb, .string ty, .int .i64 op, .int .i64 it, .string tx, .int .i64 zz]] w fun e w' => e = .returned (.bool ((decide (0 ≤ ps) && !N) && decide ((tx.size : Int) ≤ 200))) ∧ Below w.heap.size w w' := by
  have hu : True ∧ True ∧ True := ⟨(fun _ => trivial) HL, (fun _ => trivial) HM, (fun _ => trivial) HY⟩
  clear hu
  obtain ⟨w1, hw1⟩ : ∃ w1, w.alloc (.cells #[.int .i64 22, .int .i64 ps, .string nm, .string lb, .string ty, .int .i64 op, .int .i64 it, .string tx, .int .i64 zz] 39) = w1 := ⟨_, rfl⟩
  have z1 : w.heap.size < w1.heap.size := by rw [← hw1]; simp
  have B1 : Hid (Below w.heap.size w w1) := by show Below _ _ _; rw [← hw1]; exact (Below.refl _ w).alloc (Nat.le_refl _) _
  have SV : Hid (∀ w' : World, Below w1.heap.size w1 w' → w'.cell? ⟨w.heap.size, 0, none⟩ = some (.int .i64 22) ∧ w'.cell? ⟨w.heap.size, 1, none⟩ = some (.int .i64 ps) ∧ w'.cell? ⟨w.heap.size, 2, none⟩ = some (.string nm) ∧ w'.cell? ⟨w.heap.size, 3, none⟩ = some (.string lb) ∧ w'.cell? ⟨w.heap.size, 4, none⟩ = some (.string ty) ∧ w'.cell? ⟨w.heap.size, 5, none⟩ = some (.int .i64 op) ∧ w'.cell? ⟨w.heap.size, 6, none⟩ = some (.int .i64 it) ∧ w'.cell? ⟨w.heap.size, 7, none⟩ = some (.string tx) ∧ w'.cell? ⟨w.heap.size, 8, none⟩ = some (.int .i64 zz) ∧ Below w1.heap.size w1 w') := fun w' hb => by
    have q : ∀ (k : Nat) (v : Value), #[.int .i64 22, .int .i64 ps, .string nm, .string lb, .string ty, .int .i64 op, .int .i64 it, .string tx, .int .i64 zz][k]? = some v → w'.cell? ⟨w.heap.size, k, none⟩ = some v := fun k v hv =>
      (hb.cell (p := ⟨w.heap.size, k, none⟩) z1).trans (by rw [← hw1]; exact cell_new _ _ _ _ _ hv)
    exact ⟨q 0 _ rfl, q 1 _ rfl, q 2 _ rfl, q 3 _ rfl, q 4 _ rfl, q 5 _ rfl, q 6 _ rfl, q 7 _ rfl, q 8 _ rfl, hb⟩
  have HBr : Hid (∀ w', Below w1.heap.size w1 w' → Calls Tryd.prog 39 #[.agg #[.int .i64 22, .int .i64 ps, .string nm, .string lb, .string ty, .int .i64 op, .int .i64 it, .string tx, .int .i64 zz]] w' fun e w'' => e = .returned (.agg #[.int .i64 22, .int .i64 0, .string nm, .string lb, .string ty, .int .i64 op, .int .i64 it, .string (⟨#[]⟩ : ByteArray), .int .i64 0]) ∧ Below w'.heap.size w' w'') := fun w' _ => bare_22 ps nm lb ty op it tx zz w'
  by_cases hps : ps < 0
  · have hf : ((decide (0 ≤ ps) && !N) && decide ((tx.size : Int) ≤ 200)) = false := by simp [show ¬ 0 ≤ ps by omega]
    rw [hf]
    clear hf
    go_enter Tryd.func27, Tryd.ntmps27
    go_upto_region 1 with fail
    obtain ⟨c0, c1, c2, c3, c4, c5, c6, c7, c8, _⟩ := SV.out w1 (Below.refl _ _)
    go_quiet (fail)
    all_goals go_wp2
    all_goals go_ret
    all_goals exact ⟨rfl, B1.out.trans (Below.mono (⟨rfl, rfl, rfl, Nat.le_refl _, fun _ _ => rfl⟩ : Below w1.heap.size w1 (w1.drewN nq)) B1.out.size)⟩
  · have hp0 : decide (0 ≤ ps) = true := by simp; omega
    rw [hp0, Bool.true_and]
    clear hp0
    cases N with
    | true =>
      rw [Bool.not_true, Bool.false_and]
      go_enter Tryd.func27, Tryd.ntmps27
      go_upto_region 1 with fail
      have hcd : Below w1.heap.size w1 w1.drew := (Below.refl _ w1).drew
      obtain ⟨c0, c1, c2, c3, c4, c5, c6, c7, c8, _⟩ := SV.out w1 (Below.refl _ _)
      go_region_held3 (fun w' => w'.cell? ⟨w.heap.size, 0, none⟩ = some (.int .i64 22) ∧ w'.cell? ⟨w.heap.size, 1, none⟩ = some (.int .i64 ps) ∧ w'.cell? ⟨w.heap.size, 2, none⟩ = some (.string nm) ∧ w'.cell? ⟨w.heap.size, 3, none⟩ = some (.string lb) ∧ w'.cell? ⟨w.heap.size, 4, none⟩ = some (.string ty) ∧ w'.cell? ⟨w.heap.size, 5, none⟩ = some (.int .i64 op) ∧ w'.cell? ⟨w.heap.size, 6, none⟩ = some (.int .i64 it) ∧ w'.cell? ⟨w.heap.size, 7, none⟩ = some (.string tx) ∧ w'.cell? ⟨w.heap.size, 8, none⟩ = some (.int .i64 zz) ∧ Below w1.heap.size w1 w') (exact SV.out _ (by assumption))
        (first
        | (go_at_call 39; refine (HBr.out _ hcd).mono ?_; rintro e w2 ⟨rfl, hb2⟩; replace hcd := hcd.trans (hb2.mono hcd.size)))
      go_wp2
      go_ret
      exact ⟨rfl, B1.out.trans (hcd.mono B1.out.size)⟩
    | false =>
      rw [Bool.not_false, Bool.true_and]
      obtain ⟨b, hb⟩ : ∃ b, decide ((tx.size : Int) ≤ 200) = b := ⟨_, rfl⟩
      have HB : Hid (decide ((tx.size : Int) ≤ 200) = b) := hb
      rw [hb]
      clear hb
      go_enter Tryd.func27, Tryd.ntmps27
      go_upto_region 1 with fail
      have hcd : Below w1.heap.size w1 w1.drew := (Below.refl _ w1).drew
      obtain ⟨c0, c1, c2, c3, c4, c5, c6, c7, c8, _⟩ := SV.out w1 (Below.refl _ _)
      go_region_held3 (fun w' => w'.cell? ⟨w.heap.size, 0, none⟩ = some (.int .i64 22) ∧ w'.cell? ⟨w.heap.size, 1, none⟩ = some (.int .i64 ps) ∧ w'.cell? ⟨w.heap.size, 2, none⟩ = some (.string nm) ∧ w'.cell? ⟨w.heap.size, 3, none⟩ = some (.string lb) ∧ w'.cell? ⟨w.heap.size, 4, none⟩ = some (.string ty) ∧ w'.cell? ⟨w.heap.size, 5, none⟩ = some (.int .i64 op) ∧ w'.cell? ⟨w.heap.size, 6, none⟩ = some (.int .i64 it) ∧ w'.cell? ⟨w.heap.size, 7, none⟩ = some (.string tx) ∧ w'.cell? ⟨w.heap.size, 8, none⟩ = some (.int .i64 zz) ∧ Below w1.heap.size w1 w') (exact SV.out _ (by assumption))
        (first
        | (go_at_call 39; refine (HBr.out _ hcd).mono ?_; rintro e w2 ⟨rfl, hb2⟩; replace hcd := hcd.trans (hb2.mono hcd.size)))
      obtain ⟨d0, d1, d2, d3, d4, d5, d6, d7, d8, _⟩ := SV.out w2 hcd
      have HBw : Hid (Below w.heap.size w w2) := B1.out.trans (hcd.mono B1.out.size)
      clear SV HBr c0 c1 c2 c3 c4 c5 c6 c7 c8 hN hps hw1
      cases hel : (lb.toList == [])
      all_goals go_upto_region 4 with (first
        | (go_at_call 40; refine (HL.out w2 HBw.out).mono ?_; rintro e w3 ⟨rfl, hw3⟩; subst hw3)
        | go_in)
      all_goals clear HL
      all_goals go_wp2_with (first
        | (go_at_call 40; refine (HM.out w2 HBw.out).mono ?_; rintro e w3 ⟨rfl, hw3⟩; subst hw3)
        | (go_at_call 41; refine (HY.out w2 HBw.out).mono ?_; rintro e w3 ⟨rfl, hw3⟩; subst hw3)
        | go_in)
      all_goals rw [← HB.out]
      all_goals go_ret
      all_goals (refine ⟨?_, HBw.out⟩; first | rfl | (simp; done) | (simp_all; done) | (simp_all; omega))

set_option maxRecDepth 100000 in
set_option maxHeartbeats 1000000 in
theorem fields_23 (ps : Int) (nm lb ty : ByteArray) (op it : Int) (tx : ByteArray) (zz : Int) (w : World) (N rl rn rt : Bool) (hN : ∀ w : World, (binOp BinOp.neq 39 (.agg #[.int .i64 23, .int .i64 0, .string (⟨#[]⟩ : ByteArray), .string lb, .string ty, .int .i64 op, .int .i64 it, .string tx, .int .i64 0]) (.agg #[.int .i64 23, .int .i64 0, .string (⟨#[]⟩ : ByteArray), .string (⟨#[]⟩ : ByteArray), .string (⟨#[]⟩ : ByteArray), .int .i64 0, .int .i64 0, .string (⟨#[]⟩ : ByteArray), .int .i64 0])).run Tryd.prog w = .ok (.bool N) w)
    (HL : Hid (∀ w', Below w.heap.size w w' → Calls Tryd.prog 40 #[.string lb] w' fun e w'' => e = .returned (.bool rl) ∧ w' = w'')) (HM : Hid (∀ w', Below w.heap.size w w' → Calls Tryd.prog 40 #[.string nm] w' fun e w'' => e = .returned (.bool rn) ∧ w' = w'')) (HY : Hid (∀ w', Below w.heap.size w w' → Calls Tryd.prog 41 #[.string ty] w' fun e w'' => e = .returned (.bool rt) ∧ w' = w'')) :
    Calls Tryd.prog 27 #[.agg #[.int .i64 23, .int .i64 ps, .string nm, .string lb, .string ty, .int .i64 op, .int .i64 it, .string tx, .int .i64 zz]] w fun e w' => e = .returned (.bool ((decide (0 ≤ ps) && !N) && rn)) ∧ Below w.heap.size w w' := by
  have hu : True ∧ True ∧ True := ⟨(fun _ => trivial) HL, (fun _ => trivial) HM, (fun _ => trivial) HY⟩
  clear hu
  obtain ⟨w1, hw1⟩ : ∃ w1, w.alloc (.cells #[.int .i64 23, .int .i64 ps, .string nm, .string lb, .string ty, .int .i64 op, .int .i64 it, .string tx, .int .i64 zz] 39) = w1 := ⟨_, rfl⟩
  have z1 : w.heap.size < w1.heap.size := by rw [← hw1]; simp
  have B1 : Hid (Below w.heap.size w w1) := by show Below _ _ _; rw [← hw1]; exact (Below.refl _ w).alloc (Nat.le_refl _) _
  have SV : Hid (∀ w' : World, Below w1.heap.size w1 w' → w'.cell? ⟨w.heap.size, 0, none⟩ = some (.int .i64 23) ∧ w'.cell? ⟨w.heap.size, 1, none⟩ = some (.int .i64 ps) ∧ w'.cell? ⟨w.heap.size, 2, none⟩ = some (.string nm) ∧ w'.cell? ⟨w.heap.size, 3, none⟩ = some (.string lb) ∧ w'.cell? ⟨w.heap.size, 4, none⟩ = some (.string ty) ∧ w'.cell? ⟨w.heap.size, 5, none⟩ = some (.int .i64 op) ∧ w'.cell? ⟨w.heap.size, 6, none⟩ = some (.int .i64 it) ∧ w'.cell? ⟨w.heap.size, 7, none⟩ = some (.string tx) ∧ w'.cell? ⟨w.heap.size, 8, none⟩ = some (.int .i64 zz) ∧ Below w1.heap.size w1 w') := fun w' hb => by
    have q : ∀ (k : Nat) (v : Value), #[.int .i64 23, .int .i64 ps, .string nm, .string lb, .string ty, .int .i64 op, .int .i64 it, .string tx, .int .i64 zz][k]? = some v → w'.cell? ⟨w.heap.size, k, none⟩ = some v := fun k v hv =>
      (hb.cell (p := ⟨w.heap.size, k, none⟩) z1).trans (by rw [← hw1]; exact cell_new _ _ _ _ _ hv)
    exact ⟨q 0 _ rfl, q 1 _ rfl, q 2 _ rfl, q 3 _ rfl, q 4 _ rfl, q 5 _ rfl, q 6 _ rfl, q 7 _ rfl, q 8 _ rfl, hb⟩
  have HBr : Hid (∀ w', Below w1.heap.size w1 w' → Calls Tryd.prog 39 #[.agg #[.int .i64 23, .int .i64 ps, .string nm, .string lb, .string ty, .int .i64 op, .int .i64 it, .string tx, .int .i64 zz]] w' fun e w'' => e = .returned (.agg #[.int .i64 23, .int .i64 0, .string (⟨#[]⟩ : ByteArray), .string lb, .string ty, .int .i64 op, .int .i64 it, .string tx, .int .i64 0]) ∧ Below w'.heap.size w' w'') := fun w' _ => bare_23 ps nm lb ty op it tx zz w'
  by_cases hps : ps < 0
  · have hf : ((decide (0 ≤ ps) && !N) && rn) = false := by simp [show ¬ 0 ≤ ps by omega]
    rw [hf]
    clear hf
    go_enter Tryd.func27, Tryd.ntmps27
    go_upto_region 1 with fail
    obtain ⟨c0, c1, c2, c3, c4, c5, c6, c7, c8, _⟩ := SV.out w1 (Below.refl _ _)
    go_quiet (fail)
    all_goals go_wp2
    all_goals go_ret
    all_goals exact ⟨rfl, B1.out.trans (Below.mono (⟨rfl, rfl, rfl, Nat.le_refl _, fun _ _ => rfl⟩ : Below w1.heap.size w1 (w1.drewN nq)) B1.out.size)⟩
  · have hp0 : decide (0 ≤ ps) = true := by simp; omega
    rw [hp0, Bool.true_and]
    clear hp0
    cases N with
    | true =>
      rw [Bool.not_true, Bool.false_and]
      go_enter Tryd.func27, Tryd.ntmps27
      go_upto_region 1 with fail
      have hcd : Below w1.heap.size w1 w1.drew := (Below.refl _ w1).drew
      obtain ⟨c0, c1, c2, c3, c4, c5, c6, c7, c8, _⟩ := SV.out w1 (Below.refl _ _)
      go_region_held3 (fun w' => w'.cell? ⟨w.heap.size, 0, none⟩ = some (.int .i64 23) ∧ w'.cell? ⟨w.heap.size, 1, none⟩ = some (.int .i64 ps) ∧ w'.cell? ⟨w.heap.size, 2, none⟩ = some (.string nm) ∧ w'.cell? ⟨w.heap.size, 3, none⟩ = some (.string lb) ∧ w'.cell? ⟨w.heap.size, 4, none⟩ = some (.string ty) ∧ w'.cell? ⟨w.heap.size, 5, none⟩ = some (.int .i64 op) ∧ w'.cell? ⟨w.heap.size, 6, none⟩ = some (.int .i64 it) ∧ w'.cell? ⟨w.heap.size, 7, none⟩ = some (.string tx) ∧ w'.cell? ⟨w.heap.size, 8, none⟩ = some (.int .i64 zz) ∧ Below w1.heap.size w1 w') (exact SV.out _ (by assumption))
        (first
        | (go_at_call 39; refine (HBr.out _ hcd).mono ?_; rintro e w2 ⟨rfl, hb2⟩; replace hcd := hcd.trans (hb2.mono hcd.size)))
      go_wp2
      go_ret
      exact ⟨rfl, B1.out.trans (hcd.mono B1.out.size)⟩
    | false =>
      rw [Bool.not_false, Bool.true_and]
      obtain ⟨b, hb⟩ : ∃ b, rn = b := ⟨_, rfl⟩
      have HB : Hid (rn = b) := hb
      rw [hb]
      clear hb
      go_enter Tryd.func27, Tryd.ntmps27
      go_upto_region 1 with fail
      have hcd : Below w1.heap.size w1 w1.drew := (Below.refl _ w1).drew
      obtain ⟨c0, c1, c2, c3, c4, c5, c6, c7, c8, _⟩ := SV.out w1 (Below.refl _ _)
      go_region_held3 (fun w' => w'.cell? ⟨w.heap.size, 0, none⟩ = some (.int .i64 23) ∧ w'.cell? ⟨w.heap.size, 1, none⟩ = some (.int .i64 ps) ∧ w'.cell? ⟨w.heap.size, 2, none⟩ = some (.string nm) ∧ w'.cell? ⟨w.heap.size, 3, none⟩ = some (.string lb) ∧ w'.cell? ⟨w.heap.size, 4, none⟩ = some (.string ty) ∧ w'.cell? ⟨w.heap.size, 5, none⟩ = some (.int .i64 op) ∧ w'.cell? ⟨w.heap.size, 6, none⟩ = some (.int .i64 it) ∧ w'.cell? ⟨w.heap.size, 7, none⟩ = some (.string tx) ∧ w'.cell? ⟨w.heap.size, 8, none⟩ = some (.int .i64 zz) ∧ Below w1.heap.size w1 w') (exact SV.out _ (by assumption))
        (first
        | (go_at_call 39; refine (HBr.out _ hcd).mono ?_; rintro e w2 ⟨rfl, hb2⟩; replace hcd := hcd.trans (hb2.mono hcd.size)))
      obtain ⟨d0, d1, d2, d3, d4, d5, d6, d7, d8, _⟩ := SV.out w2 hcd
      have HBw : Hid (Below w.heap.size w w2) := B1.out.trans (hcd.mono B1.out.size)
      clear SV HBr c0 c1 c2 c3 c4 c5 c6 c7 c8 hN hps hw1
      cases hel : (lb.toList == [])
      all_goals go_upto_region 4 with (first
        | (go_at_call 40; refine (HL.out w2 HBw.out).mono ?_; rintro e w3 ⟨rfl, hw3⟩; subst hw3)
        | go_in)
      all_goals clear HL
      all_goals go_wp2_with (first
        | (go_at_call 40; refine (HM.out w2 HBw.out).mono ?_; rintro e w3 ⟨rfl, hw3⟩; subst hw3)
        | (go_at_call 41; refine (HY.out w2 HBw.out).mono ?_; rintro e w3 ⟨rfl, hw3⟩; subst hw3)
        | go_in)
      all_goals rw [← HB.out]
      all_goals go_ret
      all_goals (refine ⟨?_, HBw.out⟩; first | rfl | (simp; done) | (simp_all; done) | (simp_all; omega))

set_option maxRecDepth 100000 in
set_option maxHeartbeats 1000000 in
theorem fields_25 (ps : Int) (nm lb ty : ByteArray) (op it : Int) (tx : ByteArray) (zz : Int) (w : World) (N rl rn rt : Bool) (hN : ∀ w : World, (binOp BinOp.neq 39 (.agg #[.int .i64 25, .int .i64 0, .string (⟨#[]⟩ : ByteArray), .string lb, .string ty, .int .i64 op, .int .i64 it, .string tx, .int .i64 0]) (.agg #[.int .i64 25, .int .i64 0, .string (⟨#[]⟩ : ByteArray), .string (⟨#[]⟩ : ByteArray), .string (⟨#[]⟩ : ByteArray), .int .i64 0, .int .i64 0, .string (⟨#[]⟩ : ByteArray), .int .i64 0])).run Tryd.prog w = .ok (.bool N) w)
    (HL : Hid (∀ w', Below w.heap.size w w' → Calls Tryd.prog 40 #[.string lb] w' fun e w'' => e = .returned (.bool rl) ∧ w' = w'')) (HM : Hid (∀ w', Below w.heap.size w w' → Calls Tryd.prog 40 #[.string nm] w' fun e w'' => e = .returned (.bool rn) ∧ w' = w'')) (HY : Hid (∀ w', Below w.heap.size w w' → Calls Tryd.prog 41 #[.string ty] w' fun e w'' => e = .returned (.bool rt) ∧ w' = w'')) :
    Calls Tryd.prog 27 #[.agg #[.int .i64 25, .int .i64 ps, .string nm, .string lb, .string ty, .int .i64 op, .int .i64 it, .string tx, .int .i64 zz]] w fun e w' => e = .returned (.bool ((decide (0 ≤ ps) && !N) && rn)) ∧ Below w.heap.size w w' := by
  have hu : True ∧ True ∧ True := ⟨(fun _ => trivial) HL, (fun _ => trivial) HM, (fun _ => trivial) HY⟩
  clear hu
  obtain ⟨w1, hw1⟩ : ∃ w1, w.alloc (.cells #[.int .i64 25, .int .i64 ps, .string nm, .string lb, .string ty, .int .i64 op, .int .i64 it, .string tx, .int .i64 zz] 39) = w1 := ⟨_, rfl⟩
  have z1 : w.heap.size < w1.heap.size := by rw [← hw1]; simp
  have B1 : Hid (Below w.heap.size w w1) := by show Below _ _ _; rw [← hw1]; exact (Below.refl _ w).alloc (Nat.le_refl _) _
  have SV : Hid (∀ w' : World, Below w1.heap.size w1 w' → w'.cell? ⟨w.heap.size, 0, none⟩ = some (.int .i64 25) ∧ w'.cell? ⟨w.heap.size, 1, none⟩ = some (.int .i64 ps) ∧ w'.cell? ⟨w.heap.size, 2, none⟩ = some (.string nm) ∧ w'.cell? ⟨w.heap.size, 3, none⟩ = some (.string lb) ∧ w'.cell? ⟨w.heap.size, 4, none⟩ = some (.string ty) ∧ w'.cell? ⟨w.heap.size, 5, none⟩ = some (.int .i64 op) ∧ w'.cell? ⟨w.heap.size, 6, none⟩ = some (.int .i64 it) ∧ w'.cell? ⟨w.heap.size, 7, none⟩ = some (.string tx) ∧ w'.cell? ⟨w.heap.size, 8, none⟩ = some (.int .i64 zz) ∧ Below w1.heap.size w1 w') := fun w' hb => by
    have q : ∀ (k : Nat) (v : Value), #[.int .i64 25, .int .i64 ps, .string nm, .string lb, .string ty, .int .i64 op, .int .i64 it, .string tx, .int .i64 zz][k]? = some v → w'.cell? ⟨w.heap.size, k, none⟩ = some v := fun k v hv =>
      (hb.cell (p := ⟨w.heap.size, k, none⟩) z1).trans (by rw [← hw1]; exact cell_new _ _ _ _ _ hv)
    exact ⟨q 0 _ rfl, q 1 _ rfl, q 2 _ rfl, q 3 _ rfl, q 4 _ rfl, q 5 _ rfl, q 6 _ rfl, q 7 _ rfl, q 8 _ rfl, hb⟩
  have HBr : Hid (∀ w', Below w1.heap.size w1 w' → Calls Tryd.prog 39 #[.agg #[.int .i64 25, .int .i64 ps, .string nm, .string lb, .string ty, .int .i64 op, .int .i64 it, .string tx, .int .i64 zz]] w' fun e w'' => e = .returned (.agg #[.int .i64 25, .int .i64 0, .string (⟨#[]⟩ : ByteArray), .string lb, .string ty, .int .i64 op, .int .i64 it, .string tx, .int .i64 0]) ∧ Below w'.heap.size w' w'') := fun w' _ => bare_25 ps nm lb ty op it tx zz w'
  by_cases hps : ps < 0
  · have hf : ((decide (0 ≤ ps) && !N) && rn) = false := by simp [show ¬ 0 ≤ ps by omega]
    rw [hf]
    clear hf
    go_enter Tryd.func27, Tryd.ntmps27
    go_upto_region 1 with fail
    obtain ⟨c0, c1, c2, c3, c4, c5, c6, c7, c8, _⟩ := SV.out w1 (Below.refl _ _)
    go_quiet (fail)
    all_goals go_wp2
    all_goals go_ret
    all_goals exact ⟨rfl, B1.out.trans (Below.mono (⟨rfl, rfl, rfl, Nat.le_refl _, fun _ _ => rfl⟩ : Below w1.heap.size w1 (w1.drewN nq)) B1.out.size)⟩
  · have hp0 : decide (0 ≤ ps) = true := by simp; omega
    rw [hp0, Bool.true_and]
    clear hp0
    cases N with
    | true =>
      rw [Bool.not_true, Bool.false_and]
      go_enter Tryd.func27, Tryd.ntmps27
      go_upto_region 1 with fail
      have hcd : Below w1.heap.size w1 w1.drew := (Below.refl _ w1).drew
      obtain ⟨c0, c1, c2, c3, c4, c5, c6, c7, c8, _⟩ := SV.out w1 (Below.refl _ _)
      go_region_held3 (fun w' => w'.cell? ⟨w.heap.size, 0, none⟩ = some (.int .i64 25) ∧ w'.cell? ⟨w.heap.size, 1, none⟩ = some (.int .i64 ps) ∧ w'.cell? ⟨w.heap.size, 2, none⟩ = some (.string nm) ∧ w'.cell? ⟨w.heap.size, 3, none⟩ = some (.string lb) ∧ w'.cell? ⟨w.heap.size, 4, none⟩ = some (.string ty) ∧ w'.cell? ⟨w.heap.size, 5, none⟩ = some (.int .i64 op) ∧ w'.cell? ⟨w.heap.size, 6, none⟩ = some (.int .i64 it) ∧ w'.cell? ⟨w.heap.size, 7, none⟩ = some (.string tx) ∧ w'.cell? ⟨w.heap.size, 8, none⟩ = some (.int .i64 zz) ∧ Below w1.heap.size w1 w') (exact SV.out _ (by assumption))
        (first
        | (go_at_call 39; refine (HBr.out _ hcd).mono ?_; rintro e w2 ⟨rfl, hb2⟩; replace hcd := hcd.trans (hb2.mono hcd.size)))
      go_wp2
      go_ret
      exact ⟨rfl, B1.out.trans (hcd.mono B1.out.size)⟩
    | false =>
      rw [Bool.not_false, Bool.true_and]
      obtain ⟨b, hb⟩ : ∃ b, rn = b := ⟨_, rfl⟩
      have HB : Hid (rn = b) := hb
      rw [hb]
      clear hb
      go_enter Tryd.func27, Tryd.ntmps27
      go_upto_region 1 with fail
      have hcd : Below w1.heap.size w1 w1.drew := (Below.refl _ w1).drew
      obtain ⟨c0, c1, c2, c3, c4, c5, c6, c7, c8, _⟩ := SV.out w1 (Below.refl _ _)
      go_region_held3 (fun w' => w'.cell? ⟨w.heap.size, 0, none⟩ = some (.int .i64 25) ∧ w'.cell? ⟨w.heap.size, 1, none⟩ = some (.int .i64 ps) ∧ w'.cell? ⟨w.heap.size, 2, none⟩ = some (.string nm) ∧ w'.cell? ⟨w.heap.size, 3, none⟩ = some (.string lb) ∧ w'.cell? ⟨w.heap.size, 4, none⟩ = some (.string ty) ∧ w'.cell? ⟨w.heap.size, 5, none⟩ = some (.int .i64 op) ∧ w'.cell? ⟨w.heap.size, 6, none⟩ = some (.int .i64 it) ∧ w'.cell? ⟨w.heap.size, 7, none⟩ = some (.string tx) ∧ w'.cell? ⟨w.heap.size, 8, none⟩ = some (.int .i64 zz) ∧ Below w1.heap.size w1 w') (exact SV.out _ (by assumption))
        (first
        | (go_at_call 39; refine (HBr.out _ hcd).mono ?_; rintro e w2 ⟨rfl, hb2⟩; replace hcd := hcd.trans (hb2.mono hcd.size)))
      obtain ⟨d0, d1, d2, d3, d4, d5, d6, d7, d8, _⟩ := SV.out w2 hcd
      have HBw : Hid (Below w.heap.size w w2) := B1.out.trans (hcd.mono B1.out.size)
      clear SV HBr c0 c1 c2 c3 c4 c5 c6 c7 c8 hN hps hw1
      cases hel : (lb.toList == [])
      all_goals go_upto_region 4 with (first
        | (go_at_call 40; refine (HL.out w2 HBw.out).mono ?_; rintro e w3 ⟨rfl, hw3⟩; subst hw3)
        | go_in)
      all_goals clear HL
      all_goals go_wp2_with (first
        | (go_at_call 40; refine (HM.out w2 HBw.out).mono ?_; rintro e w3 ⟨rfl, hw3⟩; subst hw3)
        | (go_at_call 41; refine (HY.out w2 HBw.out).mono ?_; rintro e w3 ⟨rfl, hw3⟩; subst hw3)
        | go_in)
      all_goals rw [← HB.out]
      all_goals go_ret
      all_goals (refine ⟨?_, HBw.out⟩; first | rfl | (simp; done) | (simp_all; done) | (simp_all; omega))

set_option maxRecDepth 100000 in
set_option maxHeartbeats 1000000 in
theorem fields_26 (ps : Int) (nm lb ty : ByteArray) (op it : Int) (tx : ByteArray) (zz : Int) (w : World) (N rl rn rt : Bool) (hN : ∀ w : World, (binOp BinOp.neq 39 (.agg #[.int .i64 26, .int .i64 0, .string nm, .string lb, .string ty, .int .i64 0, .int .i64 it, .string tx, .int .i64 0]) (.agg #[.int .i64 26, .int .i64 0, .string (⟨#[]⟩ : ByteArray), .string (⟨#[]⟩ : ByteArray), .string (⟨#[]⟩ : ByteArray), .int .i64 0, .int .i64 0, .string (⟨#[]⟩ : ByteArray), .int .i64 0])).run Tryd.prog w = .ok (.bool N) w)
    (HL : Hid (∀ w', Below w.heap.size w w' → Calls Tryd.prog 40 #[.string lb] w' fun e w'' => e = .returned (.bool rl) ∧ w' = w'')) (HM : Hid (∀ w', Below w.heap.size w w' → Calls Tryd.prog 40 #[.string nm] w' fun e w'' => e = .returned (.bool rn) ∧ w' = w'')) (HY : Hid (∀ w', Below w.heap.size w w' → Calls Tryd.prog 41 #[.string ty] w' fun e w'' => e = .returned (.bool rt) ∧ w' = w'')) :
    Calls Tryd.prog 27 #[.agg #[.int .i64 26, .int .i64 ps, .string nm, .string lb, .string ty, .int .i64 op, .int .i64 it, .string tx, .int .i64 zz]] w fun e w' => e = .returned (.bool ((decide (0 ≤ ps) && !N) && ((op == 1) || (op == 2)))) ∧ Below w.heap.size w w' := by
  have hu : True ∧ True ∧ True := ⟨(fun _ => trivial) HL, (fun _ => trivial) HM, (fun _ => trivial) HY⟩
  clear hu
  obtain ⟨w1, hw1⟩ : ∃ w1, w.alloc (.cells #[.int .i64 26, .int .i64 ps, .string nm, .string lb, .string ty, .int .i64 op, .int .i64 it, .string tx, .int .i64 zz] 39) = w1 := ⟨_, rfl⟩
  have z1 : w.heap.size < w1.heap.size := by rw [← hw1]; simp
  have B1 : Hid (Below w.heap.size w w1) := by show Below _ _ _; rw [← hw1]; exact (Below.refl _ w).alloc (Nat.le_refl _) _
  have SV : Hid (∀ w' : World, Below w1.heap.size w1 w' → w'.cell? ⟨w.heap.size, 0, none⟩ = some (.int .i64 26) ∧ w'.cell? ⟨w.heap.size, 1, none⟩ = some (.int .i64 ps) ∧ w'.cell? ⟨w.heap.size, 2, none⟩ = some (.string nm) ∧ w'.cell? ⟨w.heap.size, 3, none⟩ = some (.string lb) ∧ w'.cell? ⟨w.heap.size, 4, none⟩ = some (.string ty) ∧ w'.cell? ⟨w.heap.size, 5, none⟩ = some (.int .i64 op) ∧ w'.cell? ⟨w.heap.size, 6, none⟩ = some (.int .i64 it) ∧ w'.cell? ⟨w.heap.size, 7, none⟩ = some (.string tx) ∧ w'.cell? ⟨w.heap.size, 8, none⟩ = some (.int .i64 zz) ∧ Below w1.heap.size w1 w') := fun w' hb => by
    have q : ∀ (k : Nat) (v : Value), #[.int .i64 26, .int .i64 ps, .string nm, .string lb, .string ty, .int .i64 op, .int .i64 it, .string tx, .int .i64 zz][k]? = some v → w'.cell? ⟨w.heap.size, k, none⟩ = some v := fun k v hv =>
      (hb.cell (p := ⟨w.heap.size, k, none⟩) z1).trans (by rw [← hw1]; exact cell_new _ _ _ _ _ hv)
    exact ⟨q 0 _ rfl, q 1 _ rfl, q 2 _ rfl, q 3 _ rfl, q 4 _ rfl, q 5 _ rfl, q 6 _ rfl, q 7 _ rfl, q 8 _ rfl, hb⟩
  have HBr : Hid (∀ w', Below w1.heap.size w1 w' → Calls Tryd.prog 39 #[.agg #[.int .i64 26, .int .i64 ps, .string nm, .string lb, .string ty, .int .i64 op, .int .i64 it, .string tx, .int .i64 zz]] w' fun e w'' => e = .returned (.agg #[.int .i64 26, .int .i64 0, .string nm, .string lb, .string ty, .int .i64 0, .int .i64 it, .string tx, .int .i64 0]) ∧ Below w'.heap.size w' w'') := fun w' _ => bare_26 ps nm lb ty op it tx zz w'
  by_cases hps : ps < 0
  · have hf : ((decide (0 ≤ ps) && !N) && ((op == 1) || (op == 2))) = false := by simp [show ¬ 0 ≤ ps by omega]
    rw [hf]
    clear hf
    go_enter Tryd.func27, Tryd.ntmps27
    go_upto_region 1 with fail
    obtain ⟨c0, c1, c2, c3, c4, c5, c6, c7, c8, _⟩ := SV.out w1 (Below.refl _ _)
    go_quiet (fail)
    all_goals go_wp2
    all_goals go_ret
    all_goals exact ⟨rfl, B1.out.trans (Below.mono (⟨rfl, rfl, rfl, Nat.le_refl _, fun _ _ => rfl⟩ : Below w1.heap.size w1 (w1.drewN nq)) B1.out.size)⟩
  · have hp0 : decide (0 ≤ ps) = true := by simp; omega
    rw [hp0, Bool.true_and]
    clear hp0
    cases N with
    | true =>
      rw [Bool.not_true, Bool.false_and]
      go_enter Tryd.func27, Tryd.ntmps27
      go_upto_region 1 with fail
      have hcd : Below w1.heap.size w1 w1.drew := (Below.refl _ w1).drew
      obtain ⟨c0, c1, c2, c3, c4, c5, c6, c7, c8, _⟩ := SV.out w1 (Below.refl _ _)
      go_region_held3 (fun w' => w'.cell? ⟨w.heap.size, 0, none⟩ = some (.int .i64 26) ∧ w'.cell? ⟨w.heap.size, 1, none⟩ = some (.int .i64 ps) ∧ w'.cell? ⟨w.heap.size, 2, none⟩ = some (.string nm) ∧ w'.cell? ⟨w.heap.size, 3, none⟩ = some (.string lb) ∧ w'.cell? ⟨w.heap.size, 4, none⟩ = some (.string ty) ∧ w'.cell? ⟨w.heap.size, 5, none⟩ = some (.int .i64 op) ∧ w'.cell? ⟨w.heap.size, 6, none⟩ = some (.int .i64 it) ∧ w'.cell? ⟨w.heap.size, 7, none⟩ = some (.string tx) ∧ w'.cell? ⟨w.heap.size, 8, none⟩ = some (.int .i64 zz) ∧ Below w1.heap.size w1 w') (exact SV.out _ (by assumption))
        (first
        | (go_at_call 39; refine (HBr.out _ hcd).mono ?_; rintro e w2 ⟨rfl, hb2⟩; replace hcd := hcd.trans (hb2.mono hcd.size)))
      go_wp2
      go_ret
      exact ⟨rfl, B1.out.trans (hcd.mono B1.out.size)⟩
    | false =>
      rw [Bool.not_false, Bool.true_and]
      obtain ⟨b, hb⟩ : ∃ b, ((op == 1) || (op == 2)) = b := ⟨_, rfl⟩
      have HB : Hid (((op == 1) || (op == 2)) = b) := hb
      rw [hb]
      clear hb
      go_enter Tryd.func27, Tryd.ntmps27
      go_upto_region 1 with fail
      have hcd : Below w1.heap.size w1 w1.drew := (Below.refl _ w1).drew
      obtain ⟨c0, c1, c2, c3, c4, c5, c6, c7, c8, _⟩ := SV.out w1 (Below.refl _ _)
      go_region_held3 (fun w' => w'.cell? ⟨w.heap.size, 0, none⟩ = some (.int .i64 26) ∧ w'.cell? ⟨w.heap.size, 1, none⟩ = some (.int .i64 ps) ∧ w'.cell? ⟨w.heap.size, 2, none⟩ = some (.string nm) ∧ w'.cell? ⟨w.heap.size, 3, none⟩ = some (.string lb) ∧ w'.cell? ⟨w.heap.size, 4, none⟩ = some (.string ty) ∧ w'.cell? ⟨w.heap.size, 5, none⟩ = some (.int .i64 op) ∧ w'.cell? ⟨w.heap.size, 6, none⟩ = some (.int .i64 it) ∧ w'.cell? ⟨w.heap.size, 7, none⟩ = some (.string tx) ∧ w'.cell? ⟨w.heap.size, 8, none⟩ = some (.int .i64 zz) ∧ Below w1.heap.size w1 w') (exact SV.out _ (by assumption))
        (first
        | (go_at_call 39; refine (HBr.out _ hcd).mono ?_; rintro e w2 ⟨rfl, hb2⟩; replace hcd := hcd.trans (hb2.mono hcd.size)))
      obtain ⟨d0, d1, d2, d3, d4, d5, d6, d7, d8, _⟩ := SV.out w2 hcd
      have HBw : Hid (Below w.heap.size w w2) := B1.out.trans (hcd.mono B1.out.size)
      clear SV HBr c0 c1 c2 c3 c4 c5 c6 c7 c8 hN hps hw1
      cases hel : (lb.toList == [])
      all_goals go_upto_region 4 with (first
        | (go_at_call 40; refine (HL.out w2 HBw.out).mono ?_; rintro e w3 ⟨rfl, hw3⟩; subst hw3)
        | go_in)
      all_goals clear HL
      all_goals go_wp2_with (first
        | (go_at_call 40; refine (HM.out w2 HBw.out).mono ?_; rintro e w3 ⟨rfl, hw3⟩; subst hw3)
        | (go_at_call 41; refine (HY.out w2 HBw.out).mono ?_; rintro e w3 ⟨rfl, hw3⟩; subst hw3)
        | go_in)
      all_goals rw [← HB.out]
      all_goals go_ret
      all_goals (refine ⟨?_, HBw.out⟩; first | rfl | (simp; done) | (simp_all; done) | (simp_all; omega))

set_option maxRecDepth 100000 in
set_option maxHeartbeats 1000000 in
theorem fields_27 (ps : Int) (nm lb ty : ByteArray) (op it : Int) (tx : ByteArray) (zz : Int) (w : World) (N rl rn rt : Bool) (hN : ∀ w : World, (binOp BinOp.neq 39 (.agg #[.int .i64 27, .int .i64 0, .string nm, .string lb, .string ty, .int .i64 0, .int .i64 it, .string tx, .int .i64 0]) (.agg #[.int .i64 27, .int .i64 0, .string (⟨#[]⟩ : ByteArray), .string (⟨#[]⟩ : ByteArray), .string (⟨#[]⟩ : ByteArray), .int .i64 0, .int .i64 0, .string (⟨#[]⟩ : ByteArray), .int .i64 0])).run Tryd.prog w = .ok (.bool N) w)
    (HL : Hid (∀ w', Below w.heap.size w w' → Calls Tryd.prog 40 #[.string lb] w' fun e w'' => e = .returned (.bool rl) ∧ w' = w'')) (HM : Hid (∀ w', Below w.heap.size w w' → Calls Tryd.prog 40 #[.string nm] w' fun e w'' => e = .returned (.bool rn) ∧ w' = w'')) (HY : Hid (∀ w', Below w.heap.size w w' → Calls Tryd.prog 41 #[.string ty] w' fun e w'' => e = .returned (.bool rt) ∧ w' = w'')) :
    Calls Tryd.prog 27 #[.agg #[.int .i64 27, .int .i64 ps, .string nm, .string lb, .string ty, .int .i64 op, .int .i64 it, .string tx, .int .i64 zz]] w fun e w' => e = .returned (.bool ((decide (0 ≤ ps) && !N) && (decide (3 ≤ op) && decide (op ≤ 15)))) ∧ Below w.heap.size w w' := by
  have hu : True ∧ True ∧ True := ⟨(fun _ => trivial) HL, (fun _ => trivial) HM, (fun _ => trivial) HY⟩
  clear hu
  obtain ⟨w1, hw1⟩ : ∃ w1, w.alloc (.cells #[.int .i64 27, .int .i64 ps, .string nm, .string lb, .string ty, .int .i64 op, .int .i64 it, .string tx, .int .i64 zz] 39) = w1 := ⟨_, rfl⟩
  have z1 : w.heap.size < w1.heap.size := by rw [← hw1]; simp
  have B1 : Hid (Below w.heap.size w w1) := by show Below _ _ _; rw [← hw1]; exact (Below.refl _ w).alloc (Nat.le_refl _) _
  have SV : Hid (∀ w' : World, Below w1.heap.size w1 w' → w'.cell? ⟨w.heap.size, 0, none⟩ = some (.int .i64 27) ∧ w'.cell? ⟨w.heap.size, 1, none⟩ = some (.int .i64 ps) ∧ w'.cell? ⟨w.heap.size, 2, none⟩ = some (.string nm) ∧ w'.cell? ⟨w.heap.size, 3, none⟩ = some (.string lb) ∧ w'.cell? ⟨w.heap.size, 4, none⟩ = some (.string ty) ∧ w'.cell? ⟨w.heap.size, 5, none⟩ = some (.int .i64 op) ∧ w'.cell? ⟨w.heap.size, 6, none⟩ = some (.int .i64 it) ∧ w'.cell? ⟨w.heap.size, 7, none⟩ = some (.string tx) ∧ w'.cell? ⟨w.heap.size, 8, none⟩ = some (.int .i64 zz) ∧ Below w1.heap.size w1 w') := fun w' hb => by
    have q : ∀ (k : Nat) (v : Value), #[.int .i64 27, .int .i64 ps, .string nm, .string lb, .string ty, .int .i64 op, .int .i64 it, .string tx, .int .i64 zz][k]? = some v → w'.cell? ⟨w.heap.size, k, none⟩ = some v := fun k v hv =>
      (hb.cell (p := ⟨w.heap.size, k, none⟩) z1).trans (by rw [← hw1]; exact cell_new _ _ _ _ _ hv)
    exact ⟨q 0 _ rfl, q 1 _ rfl, q 2 _ rfl, q 3 _ rfl, q 4 _ rfl, q 5 _ rfl, q 6 _ rfl, q 7 _ rfl, q 8 _ rfl, hb⟩
  have HBr : Hid (∀ w', Below w1.heap.size w1 w' → Calls Tryd.prog 39 #[.agg #[.int .i64 27, .int .i64 ps, .string nm, .string lb, .string ty, .int .i64 op, .int .i64 it, .string tx, .int .i64 zz]] w' fun e w'' => e = .returned (.agg #[.int .i64 27, .int .i64 0, .string nm, .string lb, .string ty, .int .i64 0, .int .i64 it, .string tx, .int .i64 0]) ∧ Below w'.heap.size w' w'') := fun w' _ => bare_27 ps nm lb ty op it tx zz w'
  by_cases hps : ps < 0
  · have hf : ((decide (0 ≤ ps) && !N) && (decide (3 ≤ op) && decide (op ≤ 15))) = false := by simp [show ¬ 0 ≤ ps by omega]
    rw [hf]
    clear hf
    go_enter Tryd.func27, Tryd.ntmps27
    go_upto_region 1 with fail
    obtain ⟨c0, c1, c2, c3, c4, c5, c6, c7, c8, _⟩ := SV.out w1 (Below.refl _ _)
    go_quiet (fail)
    all_goals go_wp2
    all_goals go_ret
    all_goals exact ⟨rfl, B1.out.trans (Below.mono (⟨rfl, rfl, rfl, Nat.le_refl _, fun _ _ => rfl⟩ : Below w1.heap.size w1 (w1.drewN nq)) B1.out.size)⟩
  · have hp0 : decide (0 ≤ ps) = true := by simp; omega
    rw [hp0, Bool.true_and]
    clear hp0
    cases N with
    | true =>
      rw [Bool.not_true, Bool.false_and]
      go_enter Tryd.func27, Tryd.ntmps27
      go_upto_region 1 with fail
      have hcd : Below w1.heap.size w1 w1.drew := (Below.refl _ w1).drew
      obtain ⟨c0, c1, c2, c3, c4, c5, c6, c7, c8, _⟩ := SV.out w1 (Below.refl _ _)
      go_region_held3 (fun w' => w'.cell? ⟨w.heap.size, 0, none⟩ = some (.int .i64 27) ∧ w'.cell? ⟨w.heap.size, 1, none⟩ = some (.int .i64 ps) ∧ w'.cell? ⟨w.heap.size, 2, none⟩ = some (.string nm) ∧ w'.cell? ⟨w.heap.size, 3, none⟩ = some (.string lb) ∧ w'.cell? ⟨w.heap.size, 4, none⟩ = some (.string ty) ∧ w'.cell? ⟨w.heap.size, 5, none⟩ = some (.int .i64 op) ∧ w'.cell? ⟨w.heap.size, 6, none⟩ = some (.int .i64 it) ∧ w'.cell? ⟨w.heap.size, 7, none⟩ = some (.string tx) ∧ w'.cell? ⟨w.heap.size, 8, none⟩ = some (.int .i64 zz) ∧ Below w1.heap.size w1 w') (exact SV.out _ (by assumption))
        (first
        | (go_at_call 39; refine (HBr.out _ hcd).mono ?_; rintro e w2 ⟨rfl, hb2⟩; replace hcd := hcd.trans (hb2.mono hcd.size)))
      go_wp2
      go_ret
      exact ⟨rfl, B1.out.trans (hcd.mono B1.out.size)⟩
    | false =>
      rw [Bool.not_false, Bool.true_and]
      obtain ⟨b, hb⟩ : ∃ b, (decide (3 ≤ op) && decide (op ≤ 15)) = b := ⟨_, rfl⟩
      have HB : Hid ((decide (3 ≤ op) && decide (op ≤ 15)) = b) := hb
      rw [hb]
      clear hb
      go_enter Tryd.func27, Tryd.ntmps27
      go_upto_region 1 with fail
      have hcd : Below w1.heap.size w1 w1.drew := (Below.refl _ w1).drew
      obtain ⟨c0, c1, c2, c3, c4, c5, c6, c7, c8, _⟩ := SV.out w1 (Below.refl _ _)
      go_region_held3 (fun w' => w'.cell? ⟨w.heap.size, 0, none⟩ = some (.int .i64 27) ∧ w'.cell? ⟨w.heap.size, 1, none⟩ = some (.int .i64 ps) ∧ w'.cell? ⟨w.heap.size, 2, none⟩ = some (.string nm) ∧ w'.cell? ⟨w.heap.size, 3, none⟩ = some (.string lb) ∧ w'.cell? ⟨w.heap.size, 4, none⟩ = some (.string ty) ∧ w'.cell? ⟨w.heap.size, 5, none⟩ = some (.int .i64 op) ∧ w'.cell? ⟨w.heap.size, 6, none⟩ = some (.int .i64 it) ∧ w'.cell? ⟨w.heap.size, 7, none⟩ = some (.string tx) ∧ w'.cell? ⟨w.heap.size, 8, none⟩ = some (.int .i64 zz) ∧ Below w1.heap.size w1 w') (exact SV.out _ (by assumption))
        (first
        | (go_at_call 39; refine (HBr.out _ hcd).mono ?_; rintro e w2 ⟨rfl, hb2⟩; replace hcd := hcd.trans (hb2.mono hcd.size)))
      obtain ⟨d0, d1, d2, d3, d4, d5, d6, d7, d8, _⟩ := SV.out w2 hcd
      have HBw : Hid (Below w.heap.size w w2) := B1.out.trans (hcd.mono B1.out.size)
      clear SV HBr c0 c1 c2 c3 c4 c5 c6 c7 c8 hN hps hw1
      cases hel : (lb.toList == [])
      all_goals go_upto_region 4 with (first
        | (go_at_call 40; refine (HL.out w2 HBw.out).mono ?_; rintro e w3 ⟨rfl, hw3⟩; subst hw3)
        | go_in)
      all_goals clear HL
      all_goals go_wp2_with (first
        | (go_at_call 40; refine (HM.out w2 HBw.out).mono ?_; rintro e w3 ⟨rfl, hw3⟩; subst hw3)
        | (go_at_call 41; refine (HY.out w2 HBw.out).mono ?_; rintro e w3 ⟨rfl, hw3⟩; subst hw3)
        | go_in)
      all_goals rw [← HB.out]
      all_goals go_ret
      all_goals (refine ⟨?_, HBw.out⟩; first | rfl | (simp; done) | (simp_all; done) | (simp_all; omega))

set_option maxRecDepth 100000 in
set_option maxHeartbeats 1000000 in
theorem fields_28 (ps : Int) (nm lb ty : ByteArray) (op it : Int) (tx : ByteArray) (zz : Int) (w : World) (N rl rn rt : Bool) (hN : ∀ w : World, (binOp BinOp.neq 39 (.agg #[.int .i64 28, .int .i64 0, .string nm, .string lb, .string (⟨#[]⟩ : ByteArray), .int .i64 op, .int .i64 it, .string tx, .int .i64 0]) (.agg #[.int .i64 28, .int .i64 0, .string (⟨#[]⟩ : ByteArray), .string (⟨#[]⟩ : ByteArray), .string (⟨#[]⟩ : ByteArray), .int .i64 0, .int .i64 0, .string (⟨#[]⟩ : ByteArray), .int .i64 0])).run Tryd.prog w = .ok (.bool N) w)
    (HL : Hid (∀ w', Below w.heap.size w w' → Calls Tryd.prog 40 #[.string lb] w' fun e w'' => e = .returned (.bool rl) ∧ w' = w'')) (HM : Hid (∀ w', Below w.heap.size w w' → Calls Tryd.prog 40 #[.string nm] w' fun e w'' => e = .returned (.bool rn) ∧ w' = w'')) (HY : Hid (∀ w', Below w.heap.size w w' → Calls Tryd.prog 41 #[.string ty] w' fun e w'' => e = .returned (.bool rt) ∧ w' = w'')) :
    Calls Tryd.prog 27 #[.agg #[.int .i64 28, .int .i64 ps, .string nm, .string lb, .string ty, .int .i64 op, .int .i64 it, .string tx, .int .i64 zz]] w fun e w' => e = .returned (.bool ((decide (0 ≤ ps) && !N) && rt)) ∧ Below w.heap.size w w' := by
  have hu : True ∧ True ∧ True := ⟨(fun _ => trivial) HL, (fun _ => trivial) HM, (fun _ => trivial) HY⟩
  clear hu
  obtain ⟨w1, hw1⟩ : ∃ w1, w.alloc (.cells #[.int .i64 28, .int .i64 ps, .string nm, .string lb, .string ty, .int .i64 op, .int .i64 it, .string tx, .int .i64 zz] 39) = w1 := ⟨_, rfl⟩
  have z1 : w.heap.size < w1.heap.size := by rw [← hw1]; simp
  have B1 : Hid (Below w.heap.size w w1) := by show Below _ _ _; rw [← hw1]; exact (Below.refl _ w).alloc (Nat.le_refl _) _
  have SV : Hid (∀ w' : World, Below w1.heap.size w1 w' → w'.cell? ⟨w.heap.size, 0, none⟩ = some (.int .i64 28) ∧ w'.cell? ⟨w.heap.size, 1, none⟩ = some (.int .i64 ps) ∧ w'.cell? ⟨w.heap.size, 2, none⟩ = some (.string nm) ∧ w'.cell? ⟨w.heap.size, 3, none⟩ = some (.string lb) ∧ w'.cell? ⟨w.heap.size, 4, none⟩ = some (.string ty) ∧ w'.cell? ⟨w.heap.size, 5, none⟩ = some (.int .i64 op) ∧ w'.cell? ⟨w.heap.size, 6, none⟩ = some (.int .i64 it) ∧ w'.cell? ⟨w.heap.size, 7, none⟩ = some (.string tx) ∧ w'.cell? ⟨w.heap.size, 8, none⟩ = some (.int .i64 zz) ∧ Below w1.heap.size w1 w') := fun w' hb => by
    have q : ∀ (k : Nat) (v : Value), #[.int .i64 28, .int .i64 ps, .string nm, .string lb, .string ty, .int .i64 op, .int .i64 it, .string tx, .int .i64 zz][k]? = some v → w'.cell? ⟨w.heap.size, k, none⟩ = some v := fun k v hv =>
      (hb.cell (p := ⟨w.heap.size, k, none⟩) z1).trans (by rw [← hw1]; exact cell_new _ _ _ _ _ hv)
    exact ⟨q 0 _ rfl, q 1 _ rfl, q 2 _ rfl, q 3 _ rfl, q 4 _ rfl, q 5 _ rfl, q 6 _ rfl, q 7 _ rfl, q 8 _ rfl, hb⟩
  have HBr : Hid (∀ w', Below w1.heap.size w1 w' → Calls Tryd.prog 39 #[.agg #[.int .i64 28, .int .i64 ps, .string nm, .string lb, .string ty, .int .i64 op, .int .i64 it, .string tx, .int .i64 zz]] w' fun e w'' => e = .returned (.agg #[.int .i64 28, .int .i64 0, .string nm, .string lb, .string (⟨#[]⟩ : ByteArray), .int .i64 op, .int .i64 it, .string tx, .int .i64 0]) ∧ Below w'.heap.size w' w'') := fun w' _ => bare_28 ps nm lb ty op it tx zz w'
  by_cases hps : ps < 0
  · have hf : ((decide (0 ≤ ps) && !N) && rt) = false := by simp [show ¬ 0 ≤ ps by omega]
    rw [hf]
    clear hf
    go_enter Tryd.func27, Tryd.ntmps27
    go_upto_region 1 with fail
    obtain ⟨c0, c1, c2, c3, c4, c5, c6, c7, c8, _⟩ := SV.out w1 (Below.refl _ _)
    go_quiet (fail)
    all_goals go_wp2
    all_goals go_ret
    all_goals exact ⟨rfl, B1.out.trans (Below.mono (⟨rfl, rfl, rfl, Nat.le_refl _, fun _ _ => rfl⟩ : Below w1.heap.size w1 (w1.drewN nq)) B1.out.size)⟩
  · have hp0 : decide (0 ≤ ps) = true := by simp; omega
    rw [hp0, Bool.true_and]
    clear hp0
    cases N with
    | true =>
      rw [Bool.not_true, Bool.false_and]
      go_enter Tryd.func27, Tryd.ntmps27
      go_upto_region 1 with fail
      have hcd : Below w1.heap.size w1 w1.drew := (Below.refl _ w1).drew
      obtain ⟨c0, c1, c2, c3, c4, c5, c6, c7, c8, _⟩ := SV.out w1 (Below.refl _ _)
      go_region_held3 (fun w' => w'.cell? ⟨w.heap.size, 0, none⟩ = some (.int .i64 28) ∧ w'.cell? ⟨w.heap.size, 1, none⟩ = some (.int .i64 ps) ∧ w'.cell? ⟨w.heap.size, 2, none⟩ = some (.string nm) ∧ w'.cell? ⟨w.heap.size, 3, none⟩ = some (.string lb) ∧ w'.cell? ⟨w.heap.size, 4, none⟩ = some (.string ty) ∧ w'.cell? ⟨w.heap.size, 5, none⟩ = some (.int .i64 op) ∧ w'.cell? ⟨w.heap.size, 6, none⟩ = some (.int .i64 it) ∧ w'.cell? ⟨w.heap.size, 7, none⟩ = some (.string tx) ∧ w'.cell? ⟨w.heap.size, 8, none⟩ = some (.int .i64 zz) ∧ Below w1.heap.size w1 w') (exact SV.out _ (by assumption))
        (first
        | (go_at_call 39; refine (HBr.out _ hcd).mono ?_; rintro e w2 ⟨rfl, hb2⟩; replace hcd := hcd.trans (hb2.mono hcd.size)))
      go_wp2
      go_ret
      exact ⟨rfl, B1.out.trans (hcd.mono B1.out.size)⟩
    | false =>
      rw [Bool.not_false, Bool.true_and]
      obtain ⟨b, hb⟩ : ∃ b, rt = b := ⟨_, rfl⟩
      have HB : Hid (rt = b) := hb
      rw [hb]
      clear hb
      go_enter Tryd.func27, Tryd.ntmps27
      go_upto_region 1 with fail
      have hcd : Below w1.heap.size w1 w1.drew := (Below.refl _ w1).drew
      obtain ⟨c0, c1, c2, c3, c4, c5, c6, c7, c8, _⟩ := SV.out w1 (Below.refl _ _)
      go_region_held3 (fun w' => w'.cell? ⟨w.heap.size, 0, none⟩ = some (.int .i64 28) ∧ w'.cell? ⟨w.heap.size, 1, none⟩ = some (.int .i64 ps) ∧ w'.cell? ⟨w.heap.size, 2, none⟩ = some (.string nm) ∧ w'.cell? ⟨w.heap.size, 3, none⟩ = some (.string lb) ∧ w'.cell? ⟨w.heap.size, 4, none⟩ = some (.string ty) ∧ w'.cell? ⟨w.heap.size, 5, none⟩ = some (.int .i64 op) ∧ w'.cell? ⟨w.heap.size, 6, none⟩ = some (.int .i64 it) ∧ w'.cell? ⟨w.heap.size, 7, none⟩ = some (.string tx) ∧ w'.cell? ⟨w.heap.size, 8, none⟩ = some (.int .i64 zz) ∧ Below w1.heap.size w1 w') (exact SV.out _ (by assumption))
        (first
        | (go_at_call 39; refine (HBr.out _ hcd).mono ?_; rintro e w2 ⟨rfl, hb2⟩; replace hcd := hcd.trans (hb2.mono hcd.size)))
      obtain ⟨d0, d1, d2, d3, d4, d5, d6, d7, d8, _⟩ := SV.out w2 hcd
      have HBw : Hid (Below w.heap.size w w2) := B1.out.trans (hcd.mono B1.out.size)
      clear SV HBr c0 c1 c2 c3 c4 c5 c6 c7 c8 hN hps hw1
      cases hel : (lb.toList == [])
      all_goals go_upto_region 4 with (first
        | (go_at_call 40; refine (HL.out w2 HBw.out).mono ?_; rintro e w3 ⟨rfl, hw3⟩; subst hw3)
        | go_in)
      all_goals clear HL
      all_goals go_wp2_with (first
        | (go_at_call 40; refine (HM.out w2 HBw.out).mono ?_; rintro e w3 ⟨rfl, hw3⟩; subst hw3)
        | (go_at_call 41; refine (HY.out w2 HBw.out).mono ?_; rintro e w3 ⟨rfl, hw3⟩; subst hw3)
        | go_in)
      all_goals rw [← HB.out]
      all_goals go_ret
      all_goals (refine ⟨?_, HBw.out⟩; first | rfl | (simp; done) | (simp_all; done) | (simp_all; omega))

set_option maxRecDepth 100000 in
set_option maxHeartbeats 1000000 in
theorem fields_none (q : Int) (hno : ∀ k ∈ ([1, 2, 3, 4, 5, 6, 7, 8, 9, 10, 11, 12, 13, 14, 15, 16, 20, 21, 22, 23, 24, 25, 26, 27, 28, 29, 30] : List Int), q ≠ k) (ps : Int) (nm lb ty : ByteArray) (op it : Int) (tx : ByteArray) (zz : Int) (w : World) (N rl rn rt : Bool) (hN : ∀ w : World, (binOp BinOp.neq 39 (.agg #[.int .i64 q, .int .i64 0, .string nm, .string lb, .string ty, .int .i64 op, .int .i64 it, .string tx, .int .i64 0]) (.agg #[.int .i64 q, .int .i64 0, .string (⟨#[]⟩ : ByteArray), .string (⟨#[]⟩ : ByteArray), .string (⟨#[]⟩ : ByteArray), .int .i64 0, .int .i64 0, .string (⟨#[]⟩ : ByteArray), .int .i64 0])).run Tryd.prog w = .ok (.bool N) w)
    (HL : Hid (∀ w', Below w.heap.size w w' → Calls Tryd.prog 40 #[.string lb] w' fun e w'' => e = .returned (.bool rl) ∧ w' = w'')) (HM : Hid (∀ w', Below w.heap.size w w' → Calls Tryd.prog 40 #[.string nm] w' fun e w'' => e = .returned (.bool rn) ∧ w' = w'')) (HY : Hid (∀ w', Below w.heap.size w w' → Calls Tryd.prog 41 #[.string ty] w' fun e w'' => e = .returned (.bool rt) ∧ w' = w'')) :
    Calls Tryd.prog 27 #[.agg #[.int .i64 q, .int .i64 ps, .string nm, .string lb, .string ty, .int .i64 op, .int .i64 it, .string tx, .int .i64 zz]] w fun e w' => e = .returned (.bool ((decide (0 ≤ ps) && !N) && false)) ∧ Below w.heap.size w w' := by
  have hu : True ∧ True ∧ True := ⟨(fun _ => trivial) HL, (fun _ => trivial) HM, (fun _ => trivial) HY⟩
  clear hu
  obtain ⟨w1, hw1⟩ : ∃ w1, w.alloc (.cells #[.int .i64 q, .int .i64 ps, .string nm, .string lb, .string ty, .int .i64 op, .int .i64 it, .string tx, .int .i64 zz] 39) = w1 := ⟨_, rfl⟩
  have z1 : w.heap.size < w1.heap.size := by rw [← hw1]; simp
  have B1 : Hid (Below w.heap.size w w1) := by show Below _ _ _; rw [← hw1]; exact (Below.refl _ w).alloc (Nat.le_refl _) _
  have SV : Hid (∀ w' : World, Below w1.heap.size w1 w' → w'.cell? ⟨w.heap.size, 0, none⟩ = some (.int .i64 q) ∧ w'.cell? ⟨w.heap.size, 1, none⟩ = some (.int .i64 ps) ∧ w'.cell? ⟨w.heap.size, 2, none⟩ = some (.string nm) ∧ w'.cell? ⟨w.heap.size, 3, none⟩ = some (.string lb) ∧ w'.cell? ⟨w.heap.size, 4, none⟩ = some (.string ty) ∧ w'.cell? ⟨w.heap.size, 5, none⟩ = some (.int .i64 op) ∧ w'.cell? ⟨w.heap.size, 6, none⟩ = some (.int .i64 it) ∧ w'.cell? ⟨w.heap.size, 7, none⟩ = some (.string tx) ∧ w'.cell? ⟨w.heap.size, 8, none⟩ = some (.int .i64 zz) ∧ Below w1.heap.size w1 w') := fun w' hb => by
    have q : ∀ (k : Nat) (v : Value), #[.int .i64 q, .int .i64 ps, .string nm, .string lb, .string ty, .int .i64 op, .int .i64 it, .string tx, .int .i64 zz][k]? = some v → w'.cell? ⟨w.heap.size, k, none⟩ = some v := fun k v hv =>
      (hb.cell (p := ⟨w.heap.size, k, none⟩) z1).trans (by rw [← hw1]; exact cell_new _ _ _ _ _ hv)
    exact ⟨q 0 _ rfl, q 1 _ rfl, q 2 _ rfl, q 3 _ rfl, q 4 _ rfl, q 5 _ rfl, q 6 _ rfl, q 7 _ rfl, q 8 _ rfl, hb⟩
  have hnb : ∀ k ∈ ([2, 3, 5, 8, 9, 10, 11, 12, 16, 20, 21, 22, 23, 25, 26, 27, 28] : List Int), q ≠ k := fun k hk => hno k (by simp at hk ⊢; omega)
  have HBr : Hid (∀ w', Below w1.heap.size w1 w' → Calls Tryd.prog 39 #[.agg #[.int .i64 q, .int .i64 ps, .string nm, .string lb, .string ty, .int .i64 op, .int .i64 it, .string tx, .int .i64 zz]] w' fun e w'' => e = .returned (.agg #[.int .i64 q, .int .i64 0, .string nm, .string lb, .string ty, .int .i64 op, .int .i64 it, .string tx, .int .i64 0]) ∧ Below w'.heap.size w' w'') := fun w' _ => bare_none q hnb ps nm lb ty op it tx zz w'
  have e1 : (q == 1) = false := by rw [beq_eq_false_iff_ne]; exact hno 1 (by simp)
  have e2 : (q == 2) = false := by rw [beq_eq_false_iff_ne]; exact hno 2 (by simp)
  have e3 : (q == 3) = false := by rw [beq_eq_false_iff_ne]; exact hno 3 (by simp)
  have e4 : (q == 4) = false := by rw [beq_eq_false_iff_ne]; exact hno 4 (by simp)
  have e5 : (q == 5) = false := by rw [beq_eq_false_iff_ne]; exact hno 5 (by simp)
  have e6 : (q == 6) = false := by rw [beq_eq_false_iff_ne]; exact hno 6 (by simp)
  have e7 : (q == 7) = false := by rw [beq_eq_false_iff_ne]; exact hno 7 (by simp)
  have e8 : (q == 8) = false := by rw [beq_eq_false_iff_ne]; exact hno 8 (by simp)
  have e9 : (q == 9) = false := by rw [beq_eq_false_iff_ne]; exact hno 9 (by simp)
  have e10 : (q == 10) = false := by rw [beq_eq_false_iff_ne]; exact hno 10 (by simp)
  have e11 : (q == 11) = false := by rw [beq_eq_false_iff_ne]; exact hno 11 (by simp)
  have e12 : (q == 12) = false := by rw [beq_eq_false_iff_ne]; exact hno 12 (by simp)
  have e13 : (q == 13) = false := by rw [beq_eq_false_iff_ne]; exact hno 13 (by simp)
  have e14 : (q == 14) = false := by rw [beq_eq_false_iff_ne]; exact hno 14 (by simp)
  have e15 : (q == 15) = false := by rw [beq_eq_false_iff_ne]; exact hno 15 (by simp)
  have e16 : (q == 16) = false := by rw [beq_eq_false_iff_ne]; exact hno 16 (by simp)
  have e20 : (q == 20) = false := by rw [beq_eq_false_iff_ne]; exact hno 20 (by simp)
  have e21 : (q == 21) = false := by rw [beq_eq_false_iff_ne]; exact hno 21 (by simp)
  have e22 : (q == 22) = false := by rw [beq_eq_false_iff_ne]; exact hno 22 (by simp)
  have e23 : (q == 23) = false := by rw [beq_eq_false_iff_ne]; exact hno 23 (by simp)
  have e24 : (q == 24) = false := by rw [beq_eq_false_iff_ne]; exact hno 24 (by simp)
  have e25 : (q == 25) = false := by rw [beq_eq_false_iff_ne]; exact hno 25 (by simp)
  have e26 : (q == 26) = false := by rw [beq_eq_false_iff_ne]; exact hno 26 (by simp)
  have e27 : (q == 27) = false := by rw [beq_eq_false_iff_ne]; exact hno 27 (by simp)
  have e28 : (q == 28) = false := by rw [beq_eq_false_iff_ne]; exact hno 28 (by simp)
  have e29 : (q == 29) = false := by rw [beq_eq_false_iff_ne]; exact hno 29 (by simp)
  have e30 : (q == 30) = false := by rw [beq_eq_false_iff_ne]; exact hno 30 (by simp)
  by_cases hps : ps < 0
  · have hf : ((decide (0 ≤ ps) && !N) && false) = false := by simp [show ¬ 0 ≤ ps by omega]
    rw [hf]
    clear hf
    go_enter Tryd.func27, Tryd.ntmps27
    go_upto_region 1 with fail
    obtain ⟨c0, c1, c2, c3, c4, c5, c6, c7, c8, _⟩ := SV.out w1 (Below.refl _ _)
    go_quiet (fail)
    all_goals go_wp2
    all_goals go_ret
    all_goals exact ⟨rfl, B1.out.trans (Below.mono (⟨rfl, rfl, rfl, Nat.le_refl _, fun _ _ => rfl⟩ : Below w1.heap.size w1 (w1.drewN nq)) B1.out.size)⟩
  · have hp0 : decide (0 ≤ ps) = true := by simp; omega
    rw [hp0, Bool.true_and]
    clear hp0
    cases N with
    | true =>
      rw [Bool.not_true, Bool.false_and]
      go_enter Tryd.func27, Tryd.ntmps27
      go_upto_region 1 with fail
      have hcd : Below w1.heap.size w1 w1.drew := (Below.refl _ w1).drew
      obtain ⟨c0, c1, c2, c3, c4, c5, c6, c7, c8, _⟩ := SV.out w1 (Below.refl _ _)
      go_region_held3 (fun w' => w'.cell? ⟨w.heap.size, 0, none⟩ = some (.int .i64 q) ∧ w'.cell? ⟨w.heap.size, 1, none⟩ = some (.int .i64 ps) ∧ w'.cell? ⟨w.heap.size, 2, none⟩ = some (.string nm) ∧ w'.cell? ⟨w.heap.size, 3, none⟩ = some (.string lb) ∧ w'.cell? ⟨w.heap.size, 4, none⟩ = some (.string ty) ∧ w'.cell? ⟨w.heap.size, 5, none⟩ = some (.int .i64 op) ∧ w'.cell? ⟨w.heap.size, 6, none⟩ = some (.int .i64 it) ∧ w'.cell? ⟨w.heap.size, 7, none⟩ = some (.string tx) ∧ w'.cell? ⟨w.heap.size, 8, none⟩ = some (.int .i64 zz) ∧ Below w1.heap.size w1 w') (exact SV.out _ (by assumption))
        (first
        | (go_at_call 39; refine (HBr.out _ hcd).mono ?_; rintro e w2 ⟨rfl, hb2⟩; replace hcd := hcd.trans (hb2.mono hcd.size)))
      go_wp2
      go_ret
      exact ⟨rfl, B1.out.trans (hcd.mono B1.out.size)⟩
    | false =>
      rw [Bool.not_false, Bool.true_and]
      obtain ⟨b, hb⟩ : ∃ b, false = b := ⟨_, rfl⟩
      have HB : Hid (false = b) := hb
      rw [hb]
      clear hb
      go_enter Tryd.func27, Tryd.ntmps27
      go_upto_region 1 with fail
      have hcd : Below w1.heap.size w1 w1.drew := (Below.refl _ w1).drew
      obtain ⟨c0, c1, c2, c3, c4, c5, c6, c7, c8, _⟩ := SV.out w1 (Below.refl _ _)
      go_region_held3 (fun w' => w'.cell? ⟨w.heap.size, 0, none⟩ = some (.int .i64 q) ∧ w'.cell? ⟨w.heap.size, 1, none⟩ = some (.int .i64 ps) ∧ w'.cell? ⟨w.heap.size, 2, none⟩ = some (.string nm) ∧ w'.cell? ⟨w.heap.size, 3, none⟩ = some (.string lb) ∧ w'.cell? ⟨w.heap.size, 4, none⟩ = some (.string ty) ∧ w'.cell? ⟨w.heap.size, 5, none⟩ = some (.int .i64 op) ∧ w'.cell? ⟨w.heap.size, 6, none⟩ = some (.int .i64 it) ∧ w'.cell? ⟨w.heap.size, 7, none⟩ = some (.string tx) ∧ w'.cell? ⟨w.heap.size, 8, none⟩ = some (.int .i64 zz) ∧ Below w1.heap.size w1 w') (exact SV.out _ (by assumption))
        (first
        | (go_at_call 39; refine (HBr.out _ hcd).mono ?_; rintro e w2 ⟨rfl, hb2⟩; replace hcd := hcd.trans (hb2.mono hcd.size)))
      obtain ⟨d0, d1, d2, d3, d4, d5, d6, d7, d8, _⟩ := SV.out w2 hcd
      have HBw : Hid (Below w.heap.size w w2) := B1.out.trans (hcd.mono B1.out.size)
      clear SV HBr c0 c1 c2 c3 c4 c5 c6 c7 c8 hN hps hw1
      cases hel : (lb.toList == [])
      all_goals go_upto_region 4 with (first
        | (go_at_call 40; refine (HL.out w2 HBw.out).mono ?_; rintro e w3 ⟨rfl, hw3⟩; subst hw3)
        | go_in)
      all_goals clear HL
      all_goals go_wp2_with (first
        | (go_at_call 40; refine (HM.out w2 HBw.out).mono ?_; rintro e w3 ⟨rfl, hw3⟩; subst hw3)
        | (go_at_call 41; refine (HY.out w2 HBw.out).mono ?_; rintro e w3 ⟨rfl, hw3⟩; subst hw3)
        | go_in)
      all_goals rw [← HB.out]
      all_goals go_ret
      all_goals (refine ⟨?_, HBw.out⟩; first | rfl | (simp; done) | (simp_all; done) | (simp_all; omega))

end Go.Proofs.YtlocaalipjjnpaaDoor
