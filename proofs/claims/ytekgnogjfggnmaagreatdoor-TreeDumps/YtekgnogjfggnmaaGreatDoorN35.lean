import Derived.Test.YtekgnogjfggnmaaGreatDoorN24
import Derived.Test.YtekgnogjfggnmaaGreatDoorN30
namespace Go.Proofs.YtekgnogjfggnmaaGreatDoor
open Go.RowKit
theorem typ_len : ∀ (f : Nat) (t : ByteArray), typF f t = true → t.size ≤ 4 + 2 * f := by
 intro f
 induction f with
 | zero =>
  intro t h
  have h : baseB t = true := h
  unfold baseB at h
  rw [toL] at h
  simp only [Bool.or_eq_true, beq_iff_eq] at h
  rw [Lib.size_eq]
  rcases h with (h | h) | h <;> rw [h] <;> decide
 | succ f ih =>
  intro t h
  cases hb : bracB t with
  | true =>
   rw [typ_go f t hb] at h
   have := ih _ h
   simp at this
   omega
  | false =>
   rw [typ_stop (f + 1) t hb] at h
   unfold baseB at h
   rw [toL] at h
   simp only [Bool.or_eq_true, beq_iff_eq] at h
   have : t.size ≤ 4 := by rw [Lib.size_eq]; rcases h with (h | h) | h <;> rw [h] <;> decide
   omega
theorem shp_range (k : Int) (h : (shp k).2 = true) : 1 ≤ k ∧ k ≤ 30 := by
 rcases Int.lt_or_le k 1 with h1 | h1
 ·exfalso
  unfold shp at h
  repeat rw [if_neg (by omega)] at h
  cases h
 ·rcases Int.lt_or_le 30 k with h2 | h2
  ·exfalso
   unfold shp at h
   repeat rw [if_neg (by omega)] at h
   cases h
  ·exact ⟨h1, h2⟩
theorem shp_bounds_all : ∀ j : Fin 31, 0 ≤ (shp (j.val : Int)).1.leastInt ∧ 0 ≤ (shp (j.val : Int)).1.firstOp ∧ (shp (j.val : Int)).1.lastOp ≤ 15 ∧ (shp (j.val : Int)).1.longest ≤ 200 := by decide +kernel
theorem shp_bounds (k : Int) (h : (shp k).2 = true) : 0 ≤ (shp k).1.leastInt ∧ 0 ≤ (shp k).1.firstOp ∧ (shp k).1.lastOp ≤ 15 ∧ (shp k).1.longest ≤ 200 := by
 obtain ⟨h1, h2⟩ := shp_range k h
 have := shp_bounds_all ⟨k.toNat, by omega⟩
 simp only [show ((k.toNat : Nat) : Int) = k by omega] at this
 exact this
theorem name_len {t : ByteArray} (h : nameS t = true) : t.size ≤ 24 := by
 unfold nameS at h
 simp only [Bool.and_eq_true, decide_eq_true_eq] at h
 exact h.1.1.1
theorem fits_name {w : Int} {t : ByteArray} (h : fitsS w t nameS = true) : t.size ≤ 2000 := by
 unfold fitsS at h
 split at h
 ·omega
 ·have := name_len (Bool.and_eq_true_iff.1 h).2
  omega
theorem fits_type {w : Int} {t : ByteArray} (h : fitsS w t typeS = true) : t.size ≤ 2000 := by
 unfold fitsS at h
 split at h
 ·omega
 ·have := typ_len 4 t (Bool.and_eq_true_iff.1 h).2
  omega
def RngP (L : List Nd) : Prop := ∀ n, n < L.length → (nd L n).pos ≤ 9223372036854775807
theorem tame_of {L : List Nd} (ht : treeS nameS typeS L = true) (hr : Rng L) (hp : RngP L) {n : Nat} (hn : n < L.length) : Tame (nd L n) := by
 have hf := (tree_parts ht).2 n hn
 unfold fit at hf
 simp only [Bool.and_eq_true] at hf
 obtain ⟨⟨h1, h2⟩, _⟩ := hf
 obtain ⟨k0, k1⟩ := shp_range _ h1
 obtain ⟨b1, b2, b3, b4⟩ := shp_bounds _ h1
 unfold fieldsS at h2
 simp only [Bool.and_eq_true, decide_eq_true_eq] at h2
 obtain ⟨⟨⟨⟨⟨⟨⟨⟨a1, a2⟩, a3⟩, a4⟩, a5⟩, a6⟩, a7⟩, a8⟩, a9⟩ := h2
 exact ⟨by omega, by omega, by omega, hp n hn, by omega, by omega, by omega, hr n hn, fits_name a3, fits_name a2, fits_type a4, by omega⟩
def dmp (L : List Nd) : Nat → List UInt8
 | 0 => []
 | m + 1 => dmp L m ++ (blk (dep L m) ++ lnS (nd L m))
theorem lnS_pos (x : Nd) : 1 ≤ (lnS x).length := by
 unfold lnS
 rw [List.length_append]
 show 1 ≤ _ + 1
 omega
theorem dmp_ge (L : List Nd) : ∀ m, m ≤ (dmp L m).length
 | 0 => Nat.le_refl _
 | m + 1 => by
  have := dmp_ge L m
  have := lnS_pos (nd L m)
  unfold dmp
  rw [List.length_append, List.length_append]
  omega
theorem dmp_mono (L : List Nd) (m : Nat) : ∀ d, (dmp L m).length ≤ (dmp L (m + d)).length
 | 0 => Nat.le_refl _
 | d + 1 => by
  have := dmp_mono L m d
  show _ ≤ (dmp L (m + d) ++ _).length
  rw [List.length_append]
  omega
def dumpS (L : List Nd) : List UInt8 × Int :=
 if treeS nameS typeS L then (if (dmp L L.length).length ≤ 4194304 then (dmp L L.length, 0) else ([], 2)) else ([], 30)
theorem dump_ok {L : List Nd} (ht : treeS nameS typeS L = true) (h : (dmp L L.length).length ≤ 4194304) : dumpS L = (dmp L L.length, 0) := by unfold dumpS; rw [if_pos ht, if_pos h]
theorem dump_long {L : List Nd} (ht : treeS nameS typeS L = true) {m : Nat} (hm : m ≤ L.length) (h : 4194304 < (dmp L m).length) : dumpS L = ([], 2) := by
 unfold dumpS
 rw [if_pos ht, if_neg]
 have := dmp_mono L m (L.length - m)
 rw [show m + (L.length - m) = L.length by omega] at this
 omega
theorem dump_no {L : List Nd} (ht : treeS nameS typeS L = false) : dumpS L = ([], 30) := by unfold dumpS; rw [if_neg (by simp [ht])]
def endsL (L : List Nd) (l : List Nat) : List Int := l.map fun p : Nat => (p : Int) + sz L p
theorem endsL_app (L : List Nd) (a b : List Nat) : endsL L (a ++ b) = endsL L a ++ endsL L b := List.map_append
theorem endsL_len (L : List Nd) (a : List Nat) : (endsL L a).length = a.length := List.length_map ..
end Go.Proofs.YtekgnogjfggnmaaGreatDoor

namespace Go.Proofs.YtekgnogjfggnmaaGreatDoor
open Go.RowKit Go.Shelf
set_option maxRecDepth 100000
set_option maxHeartbeats 1000000
abbrev c41 (w : World) (i : Int) (nb : ByteArray) : Prop := Calls Tryz.prog 41 #[.int .i64 i, .int .i64 10] w fun e w' => e = .returned (.string nb) ∧ Below w.heap.size w w'
def orB (t : ByteArray) : ByteArray := if t.data.toList = [] then ⟨#[45]⟩ else t
theorem orB_list (t : ByteArray) : (orB t).data.toList = orS t.data.toList := by
 unfold orB orS
 split <;> rfl
theorem baD (a b : ByteArray) : (a ++ b).data.toList = a.data.toList ++ b.data.toList := by simp [ByteArray.data_append]
theorem cat_eq (a b : ByteArray) (h : a.size + b.size ≤ 9223372036854775807) : Op.stringOp .add a b = pure (.string (a ++ b)) := by
 unfold Op.stringOp
 simp only
 have e : IntKind.i64.max = 9223372036854775807 := by decide
 rw [e, if_neg (by omega)]
theorem or_any (t : ByteArray) (w : World) : Calls Tryz.prog 42 #[.string t] w fun e w' => e = .returned (.string (orB t)) ∧ w' = w := by
 by_cases h : t.data.toList = []
 ·obtain rfl := ba_nil h
  have e : orB ⟨#[]⟩ = ⟨#[45]⟩ := rfl
  rw [e]
  clear h e
  go_enter Tryz.func42, Tryz.ntmps42
  go_wp2
  go_ret
  exact ⟨rfl, rfl⟩
 ·have e : orB t = t := by unfold orB; rw [if_neg h]
  rw [e]
  have hne : (t.toList == []) = false := by rw [toL, beq_eq_false_iff_ne]; exact h
  clear h e
  go_enter Tryz.func42, Tryz.ntmps42
  go_wp2
  go_ret
  exact ⟨rfl, rfl⟩
theorem sign_any (o : Nat) (h1 : 1 ≤ o) (h2 : o ≤ 15) (w : World) : Calls Tryz.prog 44 #[.int .i64 (o : Int)] w fun e w' => e = .returned (.string (sgT.getD o ByteArray.empty)) ∧ w' = w := by
 have h : o = 1 ∨ o = 2 ∨ o = 3 ∨ o = 4 ∨ o = 5 ∨ o = 6 ∨ o = 7 ∨ o = 8 ∨ o = 9 ∨ o = 10 ∨ o = 11 ∨ o = 12 ∨ o = 13 ∨ o = 14 ∨ o = 15 := by omega
 clear h1 h2
 rcases h with rfl | rfl | rfl | rfl | rfl | rfl | rfl | rfl | rfl | rfl | rfl | rfl | rfl | rfl | rfl
 all_goals
  go_enter Tryz.func44, Tryz.ntmps44
  go_wp2
  go_ret
  exact ⟨rfl, rfl⟩
theorem plain_any (k : Nat) (h : k = 1 ∨ k = 4 ∨ k = 6 ∨ k = 7 ∨ k = 13 ∨ k = 14 ∨ k = 15 ∨ k = 24 ∨ k = 29 ∨ k = 30) (w : World) : Calls Tryz.prog 45 #[.int .i64 (k : Int)] w fun e w' => e = .returned (.string (wds.getD k ByteArray.empty)) ∧ w' = w := by
 rcases h with rfl | rfl | rfl | rfl | rfl | rfl | rfl | rfl | rfl | rfl
 all_goals
  go_enter Tryz.func45, Tryz.ntmps45
  go_wp2
  go_ret
  exact ⟨rfl, rfl⟩
theorem words_2 (w : World) (ps : Int) (nm lb ty : ByteArray) (op : Int) (it : Int) (tx : ByteArray) (zz : Int) (nb : ByteArray) (hnb : Hid (nb = ⟨(Lib.itoa it).toArray⟩)) (_hns : nb.size ≤ 100) (_hnm : nm.size ≤ 2000) (_hty : ty.size ≤ 2000) (ob : ByteArray) (hob : Hid (orB ty = ob)) (_hos : ob.size ≤ 2000) (i0 : -9223372036854775808 ≤ it) (i1 : it ≤ 9223372036854775807) (ht : Hid (Tab10 w)) (h7 : 15 ≤ w.heap.size) :
 Calls Tryz.prog 22 #[.agg #[.int .i64 2, .int .i64 ps, .string nm, .string lb, .string ty, .int .i64 op, .int .i64 it, .string tx, .int .i64 zz]] w fun e w' => e = .returned (.string ((((⟨#[102, 110, 32]⟩ : ByteArray) ++ nm) ++ (⟨#[32]⟩ : ByteArray)) ++ ob)) ∧ Below w.heap.size w w' := by
 obtain ⟨w1, hw1⟩ : ∃ w1, w.alloc (.cells #[.int .i64 2, .int .i64 ps, .string nm, .string lb, .string ty, .int .i64 op, .int .i64 it, .string tx, .int .i64 zz] 42) = w1 := ⟨_, rfl⟩
 have B1 : Hid (Below w.heap.size w w1) := by rw [← hw1]; exact (Below.refl _ w).alloc (Nat.le_refl _) _
 have z1 : w.heap.size < w1.heap.size := by rw [← hw1]; simp
 have c6 : w1.cell? ⟨w.heap.size, 6, none⟩ = some (.int .i64 it) := by rw [← hw1]; exact cell_new _ _ _ _ _ rfl
 have HF0 : Hid (∀ w', Below w1.heap.size w1 w' → w'.cell? ⟨w.heap.size, 0, none⟩ = some (.int .i64 2)) := fun w' hb => (hb.cell (p := ⟨w.heap.size, 0, none⟩) z1).trans (by rw [← hw1]; exact cell_new _ _ _ _ _ rfl)
 have HF2 : Hid (∀ w', Below w1.heap.size w1 w' → w'.cell? ⟨w.heap.size, 2, none⟩ = some (.string nm)) := fun w' hb => (hb.cell (p := ⟨w.heap.size, 2, none⟩) z1).trans (by rw [← hw1]; exact cell_new _ _ _ _ _ rfl)
 have HF4 : Hid (∀ w', Below w1.heap.size w1 w' → w'.cell? ⟨w.heap.size, 4, none⟩ = some (.string ty)) := fun w' hb => (hb.cell (p := ⟨w.heap.size, 4, none⟩) z1).trans (by rw [← hw1]; exact cell_new _ _ _ _ _ rfl)
 have H76 : Hid (c41 w1 it nb) := by rw [hnb.out]; exact fmt_any it w1 i0 i1 (ht.out.on B1.out h7)
 clear ht hnb
 go_enter Tryz.func22, Tryz.ntmps22
 go_upto_region 4 with (first
  | (go_at_call 41; refine H76.out.mono ?_; rintro e w2 ⟨rfl, hb2⟩; have f0 := HF0.out _ hb2; have f2 := HF2.out _ hb2; have f4 := HF4.out _ hb2)
  | go_in)
 have hsn : ((⟨#[102, 110, 32]⟩ : ByteArray) ++ nm).size = 3 + nm.size := by rw [ByteArray.size_append]; rfl
 have hso : ((⟨#[102, 110, 32]⟩ : ByteArray) ++ ob).size = 3 + ob.size := by rw [ByteArray.size_append]; rfl
 have q1 := cat_eq (⟨#[102, 110, 32]⟩ : ByteArray) nm (by show 3 + _ ≤ _; omega)
 have q2 := cat_eq ((⟨#[102, 110, 32]⟩ : ByteArray) ++ nm) (⟨#[32]⟩ : ByteArray) (by show _ + 1 ≤ _; omega)
 have q3 := cat_eq (((⟨#[102, 110, 32]⟩ : ByteArray) ++ nm) ++ (⟨#[32]⟩ : ByteArray)) ob (by rw [ByteArray.size_append]; show _ + 1 + _ ≤ _; omega)
 clear hsn hso
 have SV : Hid (∀ w' : World, Below w1.heap.size w1 w' → w'.cell? ⟨w.heap.size, 2, none⟩ = some (.string nm) ∧ w'.cell? ⟨w.heap.size, 4, none⟩ = some (.string ty) ∧ Below w1.heap.size w1 w') := fun w' hb => ⟨HF2.out w' hb, HF4.out w' hb, hb⟩
 have hcd : Below w1.heap.size w1 w2.drew := hb2.drew
 go_region_held3 (fun w' => w'.cell? ⟨w.heap.size, 2, none⟩ = some (.string nm) ∧ w'.cell? ⟨w.heap.size, 4, none⟩ = some (.string ty) ∧ Below w1.heap.size w1 w') (exact SV.out _ (by assumption))
  (first | (go_at_call 42; refine (or_any ty _).mono ?_; rw [hob.out]; rintro e w3 ⟨rfl, rfl⟩))
 go_wp2
 go_ret
 exact ⟨rfl, B1.out.trans (hcd.mono B1.out.size)⟩
theorem words_3 (w : World) (ps : Int) (nm lb ty : ByteArray) (op : Int) (it : Int) (tx : ByteArray) (zz : Int) (nb : ByteArray) (hnb : Hid (nb = ⟨(Lib.itoa it).toArray⟩)) (_hns : nb.size ≤ 100) (_hnm : nm.size ≤ 2000) (_hty : ty.size ≤ 2000) (i0 : -9223372036854775808 ≤ it) (i1 : it ≤ 9223372036854775807) (ht : Hid (Tab10 w)) (h7 : 15 ≤ w.heap.size) :
 Calls Tryz.prog 22 #[.agg #[.int .i64 3, .int .i64 ps, .string nm, .string lb, .string ty, .int .i64 op, .int .i64 it, .string tx, .int .i64 zz]] w fun e w' => e = .returned (.string ((((⟨#[112, 97, 114, 97, 109, 32]⟩ : ByteArray) ++ nm) ++ (⟨#[32]⟩ : ByteArray)) ++ ty)) ∧ Below w.heap.size w w' := by
 obtain ⟨w1, hw1⟩ : ∃ w1, w.alloc (.cells #[.int .i64 3, .int .i64 ps, .string nm, .string lb, .string ty, .int .i64 op, .int .i64 it, .string tx, .int .i64 zz] 42) = w1 := ⟨_, rfl⟩
 have B1 : Hid (Below w.heap.size w w1) := by rw [← hw1]; exact (Below.refl _ w).alloc (Nat.le_refl _) _
 have z1 : w.heap.size < w1.heap.size := by rw [← hw1]; simp
 have c6 : w1.cell? ⟨w.heap.size, 6, none⟩ = some (.int .i64 it) := by rw [← hw1]; exact cell_new _ _ _ _ _ rfl
 have HF0 : Hid (∀ w', Below w1.heap.size w1 w' → w'.cell? ⟨w.heap.size, 0, none⟩ = some (.int .i64 3)) := fun w' hb => (hb.cell (p := ⟨w.heap.size, 0, none⟩) z1).trans (by rw [← hw1]; exact cell_new _ _ _ _ _ rfl)
 have HF2 : Hid (∀ w', Below w1.heap.size w1 w' → w'.cell? ⟨w.heap.size, 2, none⟩ = some (.string nm)) := fun w' hb => (hb.cell (p := ⟨w.heap.size, 2, none⟩) z1).trans (by rw [← hw1]; exact cell_new _ _ _ _ _ rfl)
 have HF4 : Hid (∀ w', Below w1.heap.size w1 w' → w'.cell? ⟨w.heap.size, 4, none⟩ = some (.string ty)) := fun w' hb => (hb.cell (p := ⟨w.heap.size, 4, none⟩) z1).trans (by rw [← hw1]; exact cell_new _ _ _ _ _ rfl)
 have H76 : Hid (c41 w1 it nb) := by rw [hnb.out]; exact fmt_any it w1 i0 i1 (ht.out.on B1.out h7)
 clear ht hnb
 go_enter Tryz.func22, Tryz.ntmps22
 go_wp2_with (first
  | (go_at_call 41; refine H76.out.mono ?_; rintro e w2 ⟨rfl, hb2⟩; have f0 := HF0.out _ hb2; have f2 := HF2.out _ hb2; have f4 := HF4.out _ hb2)
  | go_in)
 go_ret
 exact ⟨rfl, B1.out.trans (hb2.mono B1.out.size)⟩
theorem words_5 (w : World) (ps : Int) (nm lb ty : ByteArray) (op : Int) (it : Int) (tx : ByteArray) (zz : Int) (nb : ByteArray) (hnb : Hid (nb = ⟨(Lib.itoa it).toArray⟩)) (_hns : nb.size ≤ 100) (_hnm : nm.size ≤ 2000) (_hty : ty.size ≤ 2000) (i0 : -9223372036854775808 ≤ it) (i1 : it ≤ 9223372036854775807) (ht : Hid (Tab10 w)) (h7 : 15 ≤ w.heap.size) :
 Calls Tryz.prog 22 #[.agg #[.int .i64 5, .int .i64 ps, .string nm, .string lb, .string ty, .int .i64 op, .int .i64 it, .string tx, .int .i64 zz]] w fun e w' => e = .returned (.string ((((⟨#[118, 97, 114, 32]⟩ : ByteArray) ++ nm) ++ (⟨#[32]⟩ : ByteArray)) ++ ty)) ∧ Below w.heap.size w w' := by
 obtain ⟨w1, hw1⟩ : ∃ w1, w.alloc (.cells #[.int .i64 5, .int .i64 ps, .string nm, .string lb, .string ty, .int .i64 op, .int .i64 it, .string tx, .int .i64 zz] 42) = w1 := ⟨_, rfl⟩
 have B1 : Hid (Below w.heap.size w w1) := by rw [← hw1]; exact (Below.refl _ w).alloc (Nat.le_refl _) _
 have z1 : w.heap.size < w1.heap.size := by rw [← hw1]; simp
 have c6 : w1.cell? ⟨w.heap.size, 6, none⟩ = some (.int .i64 it) := by rw [← hw1]; exact cell_new _ _ _ _ _ rfl
 have HF0 : Hid (∀ w', Below w1.heap.size w1 w' → w'.cell? ⟨w.heap.size, 0, none⟩ = some (.int .i64 5)) := fun w' hb => (hb.cell (p := ⟨w.heap.size, 0, none⟩) z1).trans (by rw [← hw1]; exact cell_new _ _ _ _ _ rfl)
 have HF2 : Hid (∀ w', Below w1.heap.size w1 w' → w'.cell? ⟨w.heap.size, 2, none⟩ = some (.string nm)) := fun w' hb => (hb.cell (p := ⟨w.heap.size, 2, none⟩) z1).trans (by rw [← hw1]; exact cell_new _ _ _ _ _ rfl)
 have HF4 : Hid (∀ w', Below w1.heap.size w1 w' → w'.cell? ⟨w.heap.size, 4, none⟩ = some (.string ty)) := fun w' hb => (hb.cell (p := ⟨w.heap.size, 4, none⟩) z1).trans (by rw [← hw1]; exact cell_new _ _ _ _ _ rfl)
 have H76 : Hid (c41 w1 it nb) := by rw [hnb.out]; exact fmt_any it w1 i0 i1 (ht.out.on B1.out h7)
 clear ht hnb
 go_enter Tryz.func22, Tryz.ntmps22
 go_wp2_with (first
  | (go_at_call 41; refine H76.out.mono ?_; rintro e w2 ⟨rfl, hb2⟩; have f0 := HF0.out _ hb2; have f2 := HF2.out _ hb2; have f4 := HF4.out _ hb2)
  | go_in)
 go_ret
 exact ⟨rfl, B1.out.trans (hb2.mono B1.out.size)⟩
theorem words_8 (w : World) (ps : Int) (nm lb ty : ByteArray) (op : Int) (it : Int) (tx : ByteArray) (zz : Int) (nb : ByteArray) (hnb : Hid (nb = ⟨(Lib.itoa it).toArray⟩)) (_hns : nb.size ≤ 100) (_hnm : nm.size ≤ 2000) (_hty : ty.size ≤ 2000) (ob : ByteArray) (hob : Hid (orB lb = ob)) (_hos : ob.size ≤ 2000) (i0 : -9223372036854775808 ≤ it) (i1 : it ≤ 9223372036854775807) (ht : Hid (Tab10 w)) (h7 : 15 ≤ w.heap.size) :
 Calls Tryz.prog 22 #[.agg #[.int .i64 8, .int .i64 ps, .string nm, .string lb, .string ty, .int .i64 op, .int .i64 it, .string tx, .int .i64 zz]] w fun e w' => e = .returned (.string ((⟨#[119, 104, 105, 108, 101, 32]⟩ : ByteArray) ++ ob)) ∧ Below w.heap.size w w' := by
 obtain ⟨w1, hw1⟩ : ∃ w1, w.alloc (.cells #[.int .i64 8, .int .i64 ps, .string nm, .string lb, .string ty, .int .i64 op, .int .i64 it, .string tx, .int .i64 zz] 42) = w1 := ⟨_, rfl⟩
 have B1 : Hid (Below w.heap.size w w1) := by rw [← hw1]; exact (Below.refl _ w).alloc (Nat.le_refl _) _
 have z1 : w.heap.size < w1.heap.size := by rw [← hw1]; simp
 have c6 : w1.cell? ⟨w.heap.size, 6, none⟩ = some (.int .i64 it) := by rw [← hw1]; exact cell_new _ _ _ _ _ rfl
 have HF0 : Hid (∀ w', Below w1.heap.size w1 w' → w'.cell? ⟨w.heap.size, 0, none⟩ = some (.int .i64 8)) := fun w' hb => (hb.cell (p := ⟨w.heap.size, 0, none⟩) z1).trans (by rw [← hw1]; exact cell_new _ _ _ _ _ rfl)
 have HF3 : Hid (∀ w', Below w1.heap.size w1 w' → w'.cell? ⟨w.heap.size, 3, none⟩ = some (.string lb)) := fun w' hb => (hb.cell (p := ⟨w.heap.size, 3, none⟩) z1).trans (by rw [← hw1]; exact cell_new _ _ _ _ _ rfl)
 have H76 : Hid (c41 w1 it nb) := by rw [hnb.out]; exact fmt_any it w1 i0 i1 (ht.out.on B1.out h7)
 clear ht hnb
 go_enter Tryz.func22, Tryz.ntmps22
 go_wp2_with (first
  | (go_at_call 41; refine H76.out.mono ?_; rintro e w2 ⟨rfl, hb2⟩; have f0 := HF0.out _ hb2; have f3 := HF3.out _ hb2)
  | (go_at_call 42; refine (or_any lb _).mono ?_; rw [hob.out]; rintro e w3 ⟨rfl, rfl⟩)
  | go_in)
 go_ret
 exact ⟨rfl, B1.out.trans (hb2.mono B1.out.size)⟩
theorem words_9 (w : World) (ps : Int) (nm lb ty : ByteArray) (op : Int) (it : Int) (tx : ByteArray) (zz : Int) (nb : ByteArray) (hnb : Hid (nb = ⟨(Lib.itoa it).toArray⟩)) (_hns : nb.size ≤ 100) (_hnm : nm.size ≤ 2000) (_hty : ty.size ≤ 2000) (ob : ByteArray) (hob : Hid (orB lb = ob)) (_hos : ob.size ≤ 2000) (i0 : -9223372036854775808 ≤ it) (i1 : it ≤ 9223372036854775807) (ht : Hid (Tab10 w)) (h7 : 15 ≤ w.heap.size) :
 Calls Tryz.prog 22 #[.agg #[.int .i64 9, .int .i64 ps, .string nm, .string lb, .string ty, .int .i64 op, .int .i64 it, .string tx, .int .i64 zz]] w fun e w' => e = .returned (.string ((((⟨#[102, 111, 114, 32]⟩ : ByteArray) ++ ob) ++ (⟨#[32]⟩ : ByteArray)) ++ nm)) ∧ Below w.heap.size w w' := by
 obtain ⟨w1, hw1⟩ : ∃ w1, w.alloc (.cells #[.int .i64 9, .int .i64 ps, .string nm, .string lb, .string ty, .int .i64 op, .int .i64 it, .string tx, .int .i64 zz] 42) = w1 := ⟨_, rfl⟩
 have B1 : Hid (Below w.heap.size w w1) := by rw [← hw1]; exact (Below.refl _ w).alloc (Nat.le_refl _) _
 have z1 : w.heap.size < w1.heap.size := by rw [← hw1]; simp
 have c6 : w1.cell? ⟨w.heap.size, 6, none⟩ = some (.int .i64 it) := by rw [← hw1]; exact cell_new _ _ _ _ _ rfl
 have HF0 : Hid (∀ w', Below w1.heap.size w1 w' → w'.cell? ⟨w.heap.size, 0, none⟩ = some (.int .i64 9)) := fun w' hb => (hb.cell (p := ⟨w.heap.size, 0, none⟩) z1).trans (by rw [← hw1]; exact cell_new _ _ _ _ _ rfl)
 have HF3 : Hid (∀ w', Below w1.heap.size w1 w' → w'.cell? ⟨w.heap.size, 3, none⟩ = some (.string lb)) := fun w' hb => (hb.cell (p := ⟨w.heap.size, 3, none⟩) z1).trans (by rw [← hw1]; exact cell_new _ _ _ _ _ rfl)
 have HF2 : Hid (∀ w', Below w1.heap.size w1 w' → w'.cell? ⟨w.heap.size, 2, none⟩ = some (.string nm)) := fun w' hb => (hb.cell (p := ⟨w.heap.size, 2, none⟩) z1).trans (by rw [← hw1]; exact cell_new _ _ _ _ _ rfl)
 have H76 : Hid (c41 w1 it nb) := by rw [hnb.out]; exact fmt_any it w1 i0 i1 (ht.out.on B1.out h7)
 clear ht hnb
 go_enter Tryz.func22, Tryz.ntmps22
 go_upto_region 12 with (first
  | (go_at_call 41; refine H76.out.mono ?_; rintro e w2 ⟨rfl, hb2⟩; have f0 := HF0.out _ hb2; have f3 := HF3.out _ hb2; have f2 := HF2.out _ hb2)
  | go_in)
 have hsn : ((⟨#[102, 111, 114, 32]⟩ : ByteArray) ++ nm).size = 4 + nm.size := by rw [ByteArray.size_append]; rfl
 have hso : ((⟨#[102, 111, 114, 32]⟩ : ByteArray) ++ ob).size = 4 + ob.size := by rw [ByteArray.size_append]; rfl
 have q1 := cat_eq (⟨#[102, 111, 114, 32]⟩ : ByteArray) ob (by show 4 + _ ≤ _; omega)
 have q2 := cat_eq ((⟨#[102, 111, 114, 32]⟩ : ByteArray) ++ ob) (⟨#[32]⟩ : ByteArray) (by show _ + 1 ≤ _; omega)
 have q3 := cat_eq (((⟨#[102, 111, 114, 32]⟩ : ByteArray) ++ ob) ++ (⟨#[32]⟩ : ByteArray)) nm (by rw [ByteArray.size_append]; show _ + 1 + _ ≤ _; omega)
 clear hsn hso
 have SV : Hid (∀ w' : World, Below w1.heap.size w1 w' → w'.cell? ⟨w.heap.size, 2, none⟩ = some (.string nm) ∧ w'.cell? ⟨w.heap.size, 3, none⟩ = some (.string lb) ∧ Below w1.heap.size w1 w') := fun w' hb => ⟨HF2.out w' hb, HF3.out w' hb, hb⟩
 have hcd : Below w1.heap.size w1 w2.drew := hb2.drew
 go_region_held3 (fun w' => w'.cell? ⟨w.heap.size, 2, none⟩ = some (.string nm) ∧ w'.cell? ⟨w.heap.size, 3, none⟩ = some (.string lb) ∧ Below w1.heap.size w1 w') (exact SV.out _ (by assumption))
  (first | (go_at_call 42; refine (or_any lb _).mono ?_; rw [hob.out]; rintro e w3 ⟨rfl, rfl⟩))
 go_wp2
 go_ret
 exact ⟨rfl, B1.out.trans (hcd.mono B1.out.size)⟩
theorem words_10 (w : World) (ps : Int) (nm lb ty : ByteArray) (op : Int) (it : Int) (tx : ByteArray) (zz : Int) (nb : ByteArray) (hnb : Hid (nb = ⟨(Lib.itoa it).toArray⟩)) (_hns : nb.size ≤ 100) (_hnm : nm.size ≤ 2000) (_hty : ty.size ≤ 2000) (ob : ByteArray) (hob : Hid (orB lb = ob)) (_hos : ob.size ≤ 2000) (i0 : -9223372036854775808 ≤ it) (i1 : it ≤ 9223372036854775807) (ht : Hid (Tab10 w)) (h7 : 15 ≤ w.heap.size) :
 Calls Tryz.prog 22 #[.agg #[.int .i64 10, .int .i64 ps, .string nm, .string lb, .string ty, .int .i64 op, .int .i64 it, .string tx, .int .i64 zz]] w fun e w' => e = .returned (.string ((⟨#[98, 114, 101, 97, 107, 32]⟩ : ByteArray) ++ ob)) ∧ Below w.heap.size w w' := by
 obtain ⟨w1, hw1⟩ : ∃ w1, w.alloc (.cells #[.int .i64 10, .int .i64 ps, .string nm, .string lb, .string ty, .int .i64 op, .int .i64 it, .string tx, .int .i64 zz] 42) = w1 := ⟨_, rfl⟩
 have B1 : Hid (Below w.heap.size w w1) := by rw [← hw1]; exact (Below.refl _ w).alloc (Nat.le_refl _) _
 have z1 : w.heap.size < w1.heap.size := by rw [← hw1]; simp
 have c6 : w1.cell? ⟨w.heap.size, 6, none⟩ = some (.int .i64 it) := by rw [← hw1]; exact cell_new _ _ _ _ _ rfl
 have HF0 : Hid (∀ w', Below w1.heap.size w1 w' → w'.cell? ⟨w.heap.size, 0, none⟩ = some (.int .i64 10)) := fun w' hb => (hb.cell (p := ⟨w.heap.size, 0, none⟩) z1).trans (by rw [← hw1]; exact cell_new _ _ _ _ _ rfl)
 have HF3 : Hid (∀ w', Below w1.heap.size w1 w' → w'.cell? ⟨w.heap.size, 3, none⟩ = some (.string lb)) := fun w' hb => (hb.cell (p := ⟨w.heap.size, 3, none⟩) z1).trans (by rw [← hw1]; exact cell_new _ _ _ _ _ rfl)
 have H76 : Hid (c41 w1 it nb) := by rw [hnb.out]; exact fmt_any it w1 i0 i1 (ht.out.on B1.out h7)
 clear ht hnb
 go_enter Tryz.func22, Tryz.ntmps22
 go_wp2_with (first
  | (go_at_call 41; refine H76.out.mono ?_; rintro e w2 ⟨rfl, hb2⟩; have f0 := HF0.out _ hb2; have f3 := HF3.out _ hb2)
  | (go_at_call 42; refine (or_any lb _).mono ?_; rw [hob.out]; rintro e w3 ⟨rfl, rfl⟩)
  | go_in)
 go_ret
 exact ⟨rfl, B1.out.trans (hb2.mono B1.out.size)⟩
theorem words_11 (w : World) (ps : Int) (nm lb ty : ByteArray) (op : Int) (it : Int) (tx : ByteArray) (zz : Int) (nb : ByteArray) (hnb : Hid (nb = ⟨(Lib.itoa it).toArray⟩)) (_hns : nb.size ≤ 100) (_hnm : nm.size ≤ 2000) (_hty : ty.size ≤ 2000) (ob : ByteArray) (hob : Hid (orB lb = ob)) (_hos : ob.size ≤ 2000) (i0 : -9223372036854775808 ≤ it) (i1 : it ≤ 9223372036854775807) (ht : Hid (Tab10 w)) (h7 : 15 ≤ w.heap.size) :
 Calls Tryz.prog 22 #[.agg #[.int .i64 11, .int .i64 ps, .string nm, .string lb, .string ty, .int .i64 op, .int .i64 it, .string tx, .int .i64 zz]] w fun e w' => e = .returned (.string ((⟨#[99, 111, 110, 116, 105, 110, 117, 101, 32]⟩ : ByteArray) ++ ob)) ∧ Below w.heap.size w w' := by
 obtain ⟨w1, hw1⟩ : ∃ w1, w.alloc (.cells #[.int .i64 11, .int .i64 ps, .string nm, .string lb, .string ty, .int .i64 op, .int .i64 it, .string tx, .int .i64 zz] 42) = w1 := ⟨_, rfl⟩
 have B1 : Hid (Below w.heap.size w w1) := by rw [← hw1]; exact (Below.refl _ w).alloc (Nat.le_refl _) _
 have z1 : w.heap.size < w1.heap.size := by rw [← hw1]; simp
 have c6 : w1.cell? ⟨w.heap.size, 6, none⟩ = some (.int .i64 it) := by rw [← hw1]; exact cell_new _ _ _ _ _ rfl
 have HF0 : Hid (∀ w', Below w1.heap.size w1 w' → w'.cell? ⟨w.heap.size, 0, none⟩ = some (.int .i64 11)) := fun w' hb => (hb.cell (p := ⟨w.heap.size, 0, none⟩) z1).trans (by rw [← hw1]; exact cell_new _ _ _ _ _ rfl)
 have HF3 : Hid (∀ w', Below w1.heap.size w1 w' → w'.cell? ⟨w.heap.size, 3, none⟩ = some (.string lb)) := fun w' hb => (hb.cell (p := ⟨w.heap.size, 3, none⟩) z1).trans (by rw [← hw1]; exact cell_new _ _ _ _ _ rfl)
 have H76 : Hid (c41 w1 it nb) := by rw [hnb.out]; exact fmt_any it w1 i0 i1 (ht.out.on B1.out h7)
 clear ht hnb
 go_enter Tryz.func22, Tryz.ntmps22
 go_wp2_with (first
  | (go_at_call 41; refine H76.out.mono ?_; rintro e w2 ⟨rfl, hb2⟩; have f0 := HF0.out _ hb2; have f3 := HF3.out _ hb2)
  | (go_at_call 42; refine (or_any lb _).mono ?_; rw [hob.out]; rintro e w3 ⟨rfl, rfl⟩)
  | go_in)
 go_ret
 exact ⟨rfl, B1.out.trans (hb2.mono B1.out.size)⟩
theorem words_12 (w : World) (ps : Int) (nm lb ty : ByteArray) (op : Int) (it : Int) (tx : ByteArray) (zz : Int) (nb : ByteArray) (hnb : Hid (nb = ⟨(Lib.itoa it).toArray⟩)) (_hns : nb.size ≤ 100) (_hnm : nm.size ≤ 2000) (_hty : ty.size ≤ 2000) (i0 : -9223372036854775808 ≤ it) (i1 : it ≤ 9223372036854775807) (ht : Hid (Tab10 w)) (h7 : 15 ≤ w.heap.size) :
 Calls Tryz.prog 22 #[.agg #[.int .i64 12, .int .i64 ps, .string nm, .string lb, .string ty, .int .i64 op, .int .i64 it, .string tx, .int .i64 zz]] w fun e w' => e = .returned (.string ((⟨#[114, 101, 116, 117, 114, 110, 32]⟩ : ByteArray) ++ nb)) ∧ Below w.heap.size w w' := by
 obtain ⟨w1, hw1⟩ : ∃ w1, w.alloc (.cells #[.int .i64 12, .int .i64 ps, .string nm, .string lb, .string ty, .int .i64 op, .int .i64 it, .string tx, .int .i64 zz] 42) = w1 := ⟨_, rfl⟩
 have B1 : Hid (Below w.heap.size w w1) := by rw [← hw1]; exact (Below.refl _ w).alloc (Nat.le_refl _) _
 have z1 : w.heap.size < w1.heap.size := by rw [← hw1]; simp
 have c6 : w1.cell? ⟨w.heap.size, 6, none⟩ = some (.int .i64 it) := by rw [← hw1]; exact cell_new _ _ _ _ _ rfl
 have HF0 : Hid (∀ w', Below w1.heap.size w1 w' → w'.cell? ⟨w.heap.size, 0, none⟩ = some (.int .i64 12)) := fun w' hb => (hb.cell (p := ⟨w.heap.size, 0, none⟩) z1).trans (by rw [← hw1]; exact cell_new _ _ _ _ _ rfl)
 have H76 : Hid (c41 w1 it nb) := by rw [hnb.out]; exact fmt_any it w1 i0 i1 (ht.out.on B1.out h7)
 clear ht hnb
 go_enter Tryz.func22, Tryz.ntmps22
 go_wp2_with (first
  | (go_at_call 41; refine H76.out.mono ?_; rintro e w2 ⟨rfl, hb2⟩; have f0 := HF0.out _ hb2)
  | go_in)
 go_ret
 exact ⟨rfl, B1.out.trans (hb2.mono B1.out.size)⟩
theorem words_16 (w : World) (ps : Int) (nm lb ty : ByteArray) (op : Int) (it : Int) (tx : ByteArray) (zz : Int) (nb : ByteArray) (hnb : Hid (nb = ⟨(Lib.itoa it).toArray⟩)) (_hns : nb.size ≤ 100) (_hnm : nm.size ≤ 2000) (_hty : ty.size ≤ 2000) (ob : ByteArray) (hob : Hid (orB nm = ob)) (_hos : ob.size ≤ 2000) (i0 : -9223372036854775808 ≤ it) (i1 : it ≤ 9223372036854775807) (ht : Hid (Tab10 w)) (h7 : 15 ≤ w.heap.size) :
 Calls Tryz.prog 22 #[.agg #[.int .i64 16, .int .i64 ps, .string nm, .string lb, .string ty, .int .i64 op, .int .i64 it, .string tx, .int .i64 zz]] w fun e w' => e = .returned (.string ((((⟨#[104, 111, 111, 107, 32]⟩ : ByteArray) ++ nb) ++ (⟨#[32]⟩ : ByteArray)) ++ ob)) ∧ Below w.heap.size w w' := by
 obtain ⟨w1, hw1⟩ : ∃ w1, w.alloc (.cells #[.int .i64 16, .int .i64 ps, .string nm, .string lb, .string ty, .int .i64 op, .int .i64 it, .string tx, .int .i64 zz] 42) = w1 := ⟨_, rfl⟩
 have B1 : Hid (Below w.heap.size w w1) := by rw [← hw1]; exact (Below.refl _ w).alloc (Nat.le_refl _) _
 have z1 : w.heap.size < w1.heap.size := by rw [← hw1]; simp
 have c6 : w1.cell? ⟨w.heap.size, 6, none⟩ = some (.int .i64 it) := by rw [← hw1]; exact cell_new _ _ _ _ _ rfl
 have HF0 : Hid (∀ w', Below w1.heap.size w1 w' → w'.cell? ⟨w.heap.size, 0, none⟩ = some (.int .i64 16)) := fun w' hb => (hb.cell (p := ⟨w.heap.size, 0, none⟩) z1).trans (by rw [← hw1]; exact cell_new _ _ _ _ _ rfl)
 have HF2 : Hid (∀ w', Below w1.heap.size w1 w' → w'.cell? ⟨w.heap.size, 2, none⟩ = some (.string nm)) := fun w' hb => (hb.cell (p := ⟨w.heap.size, 2, none⟩) z1).trans (by rw [← hw1]; exact cell_new _ _ _ _ _ rfl)
 have H76 : Hid (c41 w1 it nb) := by rw [hnb.out]; exact fmt_any it w1 i0 i1 (ht.out.on B1.out h7)
 clear ht hnb
 go_enter Tryz.func22, Tryz.ntmps22
 go_wp2_with (first
  | (go_at_call 41; refine H76.out.mono ?_; rintro e w2 ⟨rfl, hb2⟩; have f0 := HF0.out _ hb2; have f2 := HF2.out _ hb2)
  | (go_at_call 42; refine (or_any nm _).mono ?_; rw [hob.out]; rintro e w3 ⟨rfl, rfl⟩)
  | go_in)
 go_ret
 exact ⟨rfl, B1.out.trans (hb2.mono B1.out.size)⟩
theorem words_20 (w : World) (ps : Int) (nm lb ty : ByteArray) (op : Int) (it : Int) (tx : ByteArray) (zz : Int) (nb : ByteArray) (hnb : Hid (nb = ⟨(Lib.itoa it).toArray⟩)) (_hns : nb.size ≤ 100) (_hnm : nm.size ≤ 2000) (_hty : ty.size ≤ 2000) (i0 : -9223372036854775808 ≤ it) (i1 : it ≤ 9223372036854775807) (ht : Hid (Tab10 w)) (h7 : 15 ≤ w.heap.size) :
 Calls Tryz.prog 22 #[.agg #[.int .i64 20, .int .i64 ps, .string nm, .string lb, .string ty, .int .i64 op, .int .i64 it, .string tx, .int .i64 zz]] w fun e w' => e = .returned (.string ((⟨#[105, 110, 116, 32]⟩ : ByteArray) ++ nb)) ∧ Below w.heap.size w w' := by
 obtain ⟨w1, hw1⟩ : ∃ w1, w.alloc (.cells #[.int .i64 20, .int .i64 ps, .string nm, .string lb, .string ty, .int .i64 op, .int .i64 it, .string tx, .int .i64 zz] 42) = w1 := ⟨_, rfl⟩
 have B1 : Hid (Below w.heap.size w w1) := by rw [← hw1]; exact (Below.refl _ w).alloc (Nat.le_refl _) _
 have z1 : w.heap.size < w1.heap.size := by rw [← hw1]; simp
 have c6 : w1.cell? ⟨w.heap.size, 6, none⟩ = some (.int .i64 it) := by rw [← hw1]; exact cell_new _ _ _ _ _ rfl
 have HF0 : Hid (∀ w', Below w1.heap.size w1 w' → w'.cell? ⟨w.heap.size, 0, none⟩ = some (.int .i64 20)) := fun w' hb => (hb.cell (p := ⟨w.heap.size, 0, none⟩) z1).trans (by rw [← hw1]; exact cell_new _ _ _ _ _ rfl)
 have H76 : Hid (c41 w1 it nb) := by rw [hnb.out]; exact fmt_any it w1 i0 i1 (ht.out.on B1.out h7)
 clear ht hnb
 go_enter Tryz.func22, Tryz.ntmps22
 go_wp2_with (first
  | (go_at_call 41; refine H76.out.mono ?_; rintro e w2 ⟨rfl, hb2⟩; have f0 := HF0.out _ hb2)
  | go_in)
 go_ret
 exact ⟨rfl, B1.out.trans (hb2.mono B1.out.size)⟩
theorem words_21 (w : World) (ps : Int) (nm lb ty : ByteArray) (op : Int) (it : Int) (tx : ByteArray) (zz : Int) (nb : ByteArray) (hnb : Hid (nb = ⟨(Lib.itoa it).toArray⟩)) (_hns : nb.size ≤ 100) (_hnm : nm.size ≤ 2000) (_hty : ty.size ≤ 2000) (i0 : -9223372036854775808 ≤ it) (i1 : it ≤ 9223372036854775807) (ht : Hid (Tab10 w)) (h7 : 15 ≤ w.heap.size) :
 Calls Tryz.prog 22 #[.agg #[.int .i64 21, .int .i64 ps, .string nm, .string lb, .string ty, .int .i64 op, .int .i64 it, .string tx, .int .i64 zz]] w fun e w' => e = .returned (.string ((⟨#[98, 111, 111, 108, 32]⟩ : ByteArray) ++ nb)) ∧ Below w.heap.size w w' := by
 obtain ⟨w1, hw1⟩ : ∃ w1, w.alloc (.cells #[.int .i64 21, .int .i64 ps, .string nm, .string lb, .string ty, .int .i64 op, .int .i64 it, .string tx, .int .i64 zz] 42) = w1 := ⟨_, rfl⟩
 have B1 : Hid (Below w.heap.size w w1) := by rw [← hw1]; exact (Below.refl _ w).alloc (Nat.le_refl _) _
 have z1 : w.heap.size < w1.heap.size := by rw [← hw1]; simp
 have c6 : w1.cell? ⟨w.heap.size, 6, none⟩ = some (.int .i64 it) := by rw [← hw1]; exact cell_new _ _ _ _ _ rfl
 have HF0 : Hid (∀ w', Below w1.heap.size w1 w' → w'.cell? ⟨w.heap.size, 0, none⟩ = some (.int .i64 21)) := fun w' hb => (hb.cell (p := ⟨w.heap.size, 0, none⟩) z1).trans (by rw [← hw1]; exact cell_new _ _ _ _ _ rfl)
 have H76 : Hid (c41 w1 it nb) := by rw [hnb.out]; exact fmt_any it w1 i0 i1 (ht.out.on B1.out h7)
 clear ht hnb
 go_enter Tryz.func22, Tryz.ntmps22
 go_wp2_with (first
  | (go_at_call 41; refine H76.out.mono ?_; rintro e w2 ⟨rfl, hb2⟩; have f0 := HF0.out _ hb2)
  | go_in)
 go_ret
 exact ⟨rfl, B1.out.trans (hb2.mono B1.out.size)⟩
theorem words_22 (w : World) (ps : Int) (nm lb ty : ByteArray) (op : Int) (it : Int) (tx : ByteArray) (zz : Int) (nb : ByteArray) (hnb : Hid (nb = ⟨(Lib.itoa it).toArray⟩)) (_hns : nb.size ≤ 100) (_hnm : nm.size ≤ 2000) (_hty : ty.size ≤ 2000) (qb : ByteArray) (hqb : Hid (qb = ⟨(Lx.qt tx.data.toList).toArray⟩)) (htx : tx.size ≤ 2000) (_hqs : qb.size ≤ 10000) (i0 : -9223372036854775808 ≤ it) (i1 : it ≤ 9223372036854775807) (ht : Hid (Tab10 w)) (h7 : 15 ≤ w.heap.size) :
 Calls Tryz.prog 22 #[.agg #[.int .i64 22, .int .i64 ps, .string nm, .string lb, .string ty, .int .i64 op, .int .i64 it, .string tx, .int .i64 zz]] w fun e w' => e = .returned (.string ((⟨#[116, 101, 120, 116, 32]⟩ : ByteArray) ++ qb)) ∧ Below w.heap.size w w' := by
 obtain ⟨w1, hw1⟩ : ∃ w1, w.alloc (.cells #[.int .i64 22, .int .i64 ps, .string nm, .string lb, .string ty, .int .i64 op, .int .i64 it, .string tx, .int .i64 zz] 42) = w1 := ⟨_, rfl⟩
 have B1 : Hid (Below w.heap.size w w1) := by rw [← hw1]; exact (Below.refl _ w).alloc (Nat.le_refl _) _
 have z1 : w.heap.size < w1.heap.size := by rw [← hw1]; simp
 have c6 : w1.cell? ⟨w.heap.size, 6, none⟩ = some (.int .i64 it) := by rw [← hw1]; exact cell_new _ _ _ _ _ rfl
 have HF0 : Hid (∀ w', Below w1.heap.size w1 w' → w'.cell? ⟨w.heap.size, 0, none⟩ = some (.int .i64 22)) := fun w' hb => (hb.cell (p := ⟨w.heap.size, 0, none⟩) z1).trans (by rw [← hw1]; exact cell_new _ _ _ _ _ rfl)
 have HF7 : Hid (∀ w', Below w1.heap.size w1 w' → w'.cell? ⟨w.heap.size, 7, none⟩ = some (.string tx)) := fun w' hb => (hb.cell (p := ⟨w.heap.size, 7, none⟩) z1).trans (by rw [← hw1]; exact cell_new _ _ _ _ _ rfl)
 have H76 : Hid (c41 w1 it nb) := by rw [hnb.out]; exact fmt_any it w1 i0 i1 (ht.out.on B1.out h7)
 clear ht hnb
 go_enter Tryz.func22, Tryz.ntmps22
 go_wp2_with (first
  | (go_at_call 41; refine H76.out.mono ?_; rintro e w2 ⟨rfl, hb2⟩; have f0 := HF0.out _ hb2; have f7 := HF7.out _ hb2)
  | (go_at_call 43; refine (Lx.refQuote_any tx qb _ (by omega) hqb).mono ?_; rintro e w3 ⟨rfl, hb3⟩)
  | go_in)
 go_ret
 exact ⟨rfl, (B1.out.trans (hb2.mono B1.out.size)).trans (hb3.mono (Nat.le_trans B1.out.size hb2.size))⟩
theorem words_23 (w : World) (ps : Int) (nm lb ty : ByteArray) (op : Int) (it : Int) (tx : ByteArray) (zz : Int) (nb : ByteArray) (hnb : Hid (nb = ⟨(Lib.itoa it).toArray⟩)) (_hns : nb.size ≤ 100) (_hnm : nm.size ≤ 2000) (_hty : ty.size ≤ 2000) (i0 : -9223372036854775808 ≤ it) (i1 : it ≤ 9223372036854775807) (ht : Hid (Tab10 w)) (h7 : 15 ≤ w.heap.size) :
 Calls Tryz.prog 22 #[.agg #[.int .i64 23, .int .i64 ps, .string nm, .string lb, .string ty, .int .i64 op, .int .i64 it, .string tx, .int .i64 zz]] w fun e w' => e = .returned (.string ((⟨#[110, 97, 109, 101, 32]⟩ : ByteArray) ++ nm)) ∧ Below w.heap.size w w' := by
 obtain ⟨w1, hw1⟩ : ∃ w1, w.alloc (.cells #[.int .i64 23, .int .i64 ps, .string nm, .string lb, .string ty, .int .i64 op, .int .i64 it, .string tx, .int .i64 zz] 42) = w1 := ⟨_, rfl⟩
 have B1 : Hid (Below w.heap.size w w1) := by rw [← hw1]; exact (Below.refl _ w).alloc (Nat.le_refl _) _
 have z1 : w.heap.size < w1.heap.size := by rw [← hw1]; simp
 have c6 : w1.cell? ⟨w.heap.size, 6, none⟩ = some (.int .i64 it) := by rw [← hw1]; exact cell_new _ _ _ _ _ rfl
 have HF0 : Hid (∀ w', Below w1.heap.size w1 w' → w'.cell? ⟨w.heap.size, 0, none⟩ = some (.int .i64 23)) := fun w' hb => (hb.cell (p := ⟨w.heap.size, 0, none⟩) z1).trans (by rw [← hw1]; exact cell_new _ _ _ _ _ rfl)
 have HF2 : Hid (∀ w', Below w1.heap.size w1 w' → w'.cell? ⟨w.heap.size, 2, none⟩ = some (.string nm)) := fun w' hb => (hb.cell (p := ⟨w.heap.size, 2, none⟩) z1).trans (by rw [← hw1]; exact cell_new _ _ _ _ _ rfl)
 have H76 : Hid (c41 w1 it nb) := by rw [hnb.out]; exact fmt_any it w1 i0 i1 (ht.out.on B1.out h7)
 clear ht hnb
 go_enter Tryz.func22, Tryz.ntmps22
 go_wp2_with (first
  | (go_at_call 41; refine H76.out.mono ?_; rintro e w2 ⟨rfl, hb2⟩; have f0 := HF0.out _ hb2; have f2 := HF2.out _ hb2)
  | go_in)
 go_ret
 exact ⟨rfl, B1.out.trans (hb2.mono B1.out.size)⟩
theorem words_25 (w : World) (ps : Int) (nm lb ty : ByteArray) (op : Int) (it : Int) (tx : ByteArray) (zz : Int) (nb : ByteArray) (hnb : Hid (nb = ⟨(Lib.itoa it).toArray⟩)) (_hns : nb.size ≤ 100) (_hnm : nm.size ≤ 2000) (_hty : ty.size ≤ 2000) (i0 : -9223372036854775808 ≤ it) (i1 : it ≤ 9223372036854775807) (ht : Hid (Tab10 w)) (h7 : 15 ≤ w.heap.size) :
 Calls Tryz.prog 22 #[.agg #[.int .i64 25, .int .i64 ps, .string nm, .string lb, .string ty, .int .i64 op, .int .i64 it, .string tx, .int .i64 zz]] w fun e w' => e = .returned (.string ((⟨#[99, 97, 108, 108, 32]⟩ : ByteArray) ++ nm)) ∧ Below w.heap.size w w' := by
 obtain ⟨w1, hw1⟩ : ∃ w1, w.alloc (.cells #[.int .i64 25, .int .i64 ps, .string nm, .string lb, .string ty, .int .i64 op, .int .i64 it, .string tx, .int .i64 zz] 42) = w1 := ⟨_, rfl⟩
 have B1 : Hid (Below w.heap.size w w1) := by rw [← hw1]; exact (Below.refl _ w).alloc (Nat.le_refl _) _
 have z1 : w.heap.size < w1.heap.size := by rw [← hw1]; simp
 have c6 : w1.cell? ⟨w.heap.size, 6, none⟩ = some (.int .i64 it) := by rw [← hw1]; exact cell_new _ _ _ _ _ rfl
 have HF0 : Hid (∀ w', Below w1.heap.size w1 w' → w'.cell? ⟨w.heap.size, 0, none⟩ = some (.int .i64 25)) := fun w' hb => (hb.cell (p := ⟨w.heap.size, 0, none⟩) z1).trans (by rw [← hw1]; exact cell_new _ _ _ _ _ rfl)
 have HF2 : Hid (∀ w', Below w1.heap.size w1 w' → w'.cell? ⟨w.heap.size, 2, none⟩ = some (.string nm)) := fun w' hb => (hb.cell (p := ⟨w.heap.size, 2, none⟩) z1).trans (by rw [← hw1]; exact cell_new _ _ _ _ _ rfl)
 have H76 : Hid (c41 w1 it nb) := by rw [hnb.out]; exact fmt_any it w1 i0 i1 (ht.out.on B1.out h7)
 clear ht hnb
 go_enter Tryz.func22, Tryz.ntmps22
 go_wp2_with (first
  | (go_at_call 41; refine H76.out.mono ?_; rintro e w2 ⟨rfl, hb2⟩; have f0 := HF0.out _ hb2; have f2 := HF2.out _ hb2)
  | go_in)
 go_ret
 exact ⟨rfl, B1.out.trans (hb2.mono B1.out.size)⟩
theorem words_26 (w : World) (ps : Int) (nm lb ty : ByteArray) (o : Nat) (ho1 : 1 ≤ o) (ho2 : o ≤ 15) (it : Int) (tx : ByteArray) (zz : Int) (nb : ByteArray) (hnb : Hid (nb = ⟨(Lib.itoa it).toArray⟩)) (_hns : nb.size ≤ 100) (_hnm : nm.size ≤ 2000) (_hty : ty.size ≤ 2000) (ob : ByteArray) (hob : Hid (sgT.getD o ByteArray.empty = ob)) (_hos : ob.size ≤ 2000) (i0 : -9223372036854775808 ≤ it) (i1 : it ≤ 9223372036854775807) (ht : Hid (Tab10 w)) (h7 : 15 ≤ w.heap.size) :
 Calls Tryz.prog 22 #[.agg #[.int .i64 26, .int .i64 ps, .string nm, .string lb, .string ty, .int .i64 (o : Int), .int .i64 it, .string tx, .int .i64 zz]] w fun e w' => e = .returned (.string ((⟨#[117, 110, 97, 114, 121, 32]⟩ : ByteArray) ++ ob)) ∧ Below w.heap.size w w' := by
 obtain ⟨w1, hw1⟩ : ∃ w1, w.alloc (.cells #[.int .i64 26, .int .i64 ps, .string nm, .string lb, .string ty, .int .i64 (o : Int), .int .i64 it, .string tx, .int .i64 zz] 42) = w1 := ⟨_, rfl⟩
 have B1 : Hid (Below w.heap.size w w1) := by rw [← hw1]; exact (Below.refl _ w).alloc (Nat.le_refl _) _
 have z1 : w.heap.size < w1.heap.size := by rw [← hw1]; simp
 have c6 : w1.cell? ⟨w.heap.size, 6, none⟩ = some (.int .i64 it) := by rw [← hw1]; exact cell_new _ _ _ _ _ rfl
 have HF0 : Hid (∀ w', Below w1.heap.size w1 w' → w'.cell? ⟨w.heap.size, 0, none⟩ = some (.int .i64 26)) := fun w' hb => (hb.cell (p := ⟨w.heap.size, 0, none⟩) z1).trans (by rw [← hw1]; exact cell_new _ _ _ _ _ rfl)
 have HF5 : Hid (∀ w', Below w1.heap.size w1 w' → w'.cell? ⟨w.heap.size, 5, none⟩ = some (.int .i64 (o : Int))) := fun w' hb => (hb.cell (p := ⟨w.heap.size, 5, none⟩) z1).trans (by rw [← hw1]; exact cell_new _ _ _ _ _ rfl)
 have H76 : Hid (c41 w1 it nb) := by rw [hnb.out]; exact fmt_any it w1 i0 i1 (ht.out.on B1.out h7)
 clear ht hnb
 go_enter Tryz.func22, Tryz.ntmps22
 go_wp2_with (first
  | (go_at_call 41; refine H76.out.mono ?_; rintro e w2 ⟨rfl, hb2⟩; have f0 := HF0.out _ hb2; have f5 := HF5.out _ hb2)
  | (go_at_call 44; refine (sign_any o ho1 ho2 _).mono ?_; rw [hob.out]; rintro e w3 ⟨rfl, rfl⟩)
  | go_in)
 go_ret
 exact ⟨rfl, B1.out.trans (hb2.mono B1.out.size)⟩
theorem words_27 (w : World) (ps : Int) (nm lb ty : ByteArray) (o : Nat) (ho1 : 1 ≤ o) (ho2 : o ≤ 15) (it : Int) (tx : ByteArray) (zz : Int) (nb : ByteArray) (hnb : Hid (nb = ⟨(Lib.itoa it).toArray⟩)) (_hns : nb.size ≤ 100) (_hnm : nm.size ≤ 2000) (_hty : ty.size ≤ 2000) (ob : ByteArray) (hob : Hid (sgT.getD o ByteArray.empty = ob)) (_hos : ob.size ≤ 2000) (i0 : -9223372036854775808 ≤ it) (i1 : it ≤ 9223372036854775807) (ht : Hid (Tab10 w)) (h7 : 15 ≤ w.heap.size) :
 Calls Tryz.prog 22 #[.agg #[.int .i64 27, .int .i64 ps, .string nm, .string lb, .string ty, .int .i64 (o : Int), .int .i64 it, .string tx, .int .i64 zz]] w fun e w' => e = .returned (.string ((⟨#[98, 105, 110, 97, 114, 121, 32]⟩ : ByteArray) ++ ob)) ∧ Below w.heap.size w w' := by
 obtain ⟨w1, hw1⟩ : ∃ w1, w.alloc (.cells #[.int .i64 27, .int .i64 ps, .string nm, .string lb, .string ty, .int .i64 (o : Int), .int .i64 it, .string tx, .int .i64 zz] 42) = w1 := ⟨_, rfl⟩
 have B1 : Hid (Below w.heap.size w w1) := by rw [← hw1]; exact (Below.refl _ w).alloc (Nat.le_refl _) _
 have z1 : w.heap.size < w1.heap.size := by rw [← hw1]; simp
 have c6 : w1.cell? ⟨w.heap.size, 6, none⟩ = some (.int .i64 it) := by rw [← hw1]; exact cell_new _ _ _ _ _ rfl
 have HF0 : Hid (∀ w', Below w1.heap.size w1 w' → w'.cell? ⟨w.heap.size, 0, none⟩ = some (.int .i64 27)) := fun w' hb => (hb.cell (p := ⟨w.heap.size, 0, none⟩) z1).trans (by rw [← hw1]; exact cell_new _ _ _ _ _ rfl)
 have HF5 : Hid (∀ w', Below w1.heap.size w1 w' → w'.cell? ⟨w.heap.size, 5, none⟩ = some (.int .i64 (o : Int))) := fun w' hb => (hb.cell (p := ⟨w.heap.size, 5, none⟩) z1).trans (by rw [← hw1]; exact cell_new _ _ _ _ _ rfl)
 have H76 : Hid (c41 w1 it nb) := by rw [hnb.out]; exact fmt_any it w1 i0 i1 (ht.out.on B1.out h7)
 clear ht hnb
 go_enter Tryz.func22, Tryz.ntmps22
 go_wp2_with (first
  | (go_at_call 41; refine H76.out.mono ?_; rintro e w2 ⟨rfl, hb2⟩; have f0 := HF0.out _ hb2; have f5 := HF5.out _ hb2)
  | (go_at_call 44; refine (sign_any o ho1 ho2 _).mono ?_; rw [hob.out]; rintro e w3 ⟨rfl, rfl⟩)
  | go_in)
 go_ret
 exact ⟨rfl, B1.out.trans (hb2.mono B1.out.size)⟩
theorem words_28 (w : World) (ps : Int) (nm lb ty : ByteArray) (op : Int) (it : Int) (tx : ByteArray) (zz : Int) (nb : ByteArray) (hnb : Hid (nb = ⟨(Lib.itoa it).toArray⟩)) (_hns : nb.size ≤ 100) (_hnm : nm.size ≤ 2000) (_hty : ty.size ≤ 2000) (i0 : -9223372036854775808 ≤ it) (i1 : it ≤ 9223372036854775807) (ht : Hid (Tab10 w)) (h7 : 15 ≤ w.heap.size) :
 Calls Tryz.prog 22 #[.agg #[.int .i64 28, .int .i64 ps, .string nm, .string lb, .string ty, .int .i64 op, .int .i64 it, .string tx, .int .i64 zz]] w fun e w' => e = .returned (.string ((⟨#[110, 101, 119, 32]⟩ : ByteArray) ++ ty)) ∧ Below w.heap.size w w' := by
 obtain ⟨w1, hw1⟩ : ∃ w1, w.alloc (.cells #[.int .i64 28, .int .i64 ps, .string nm, .string lb, .string ty, .int .i64 op, .int .i64 it, .string tx, .int .i64 zz] 42) = w1 := ⟨_, rfl⟩
 have B1 : Hid (Below w.heap.size w w1) := by rw [← hw1]; exact (Below.refl _ w).alloc (Nat.le_refl _) _
 have z1 : w.heap.size < w1.heap.size := by rw [← hw1]; simp
 have c6 : w1.cell? ⟨w.heap.size, 6, none⟩ = some (.int .i64 it) := by rw [← hw1]; exact cell_new _ _ _ _ _ rfl
 have HF0 : Hid (∀ w', Below w1.heap.size w1 w' → w'.cell? ⟨w.heap.size, 0, none⟩ = some (.int .i64 28)) := fun w' hb => (hb.cell (p := ⟨w.heap.size, 0, none⟩) z1).trans (by rw [← hw1]; exact cell_new _ _ _ _ _ rfl)
 have HF4 : Hid (∀ w', Below w1.heap.size w1 w' → w'.cell? ⟨w.heap.size, 4, none⟩ = some (.string ty)) := fun w' hb => (hb.cell (p := ⟨w.heap.size, 4, none⟩) z1).trans (by rw [← hw1]; exact cell_new _ _ _ _ _ rfl)
 have H76 : Hid (c41 w1 it nb) := by rw [hnb.out]; exact fmt_any it w1 i0 i1 (ht.out.on B1.out h7)
 clear ht hnb
 go_enter Tryz.func22, Tryz.ntmps22
 go_wp2_with (first
  | (go_at_call 41; refine H76.out.mono ?_; rintro e w2 ⟨rfl, hb2⟩; have f0 := HF0.out _ hb2; have f4 := HF4.out _ hb2)
  | go_in)
 go_ret
 exact ⟨rfl, B1.out.trans (hb2.mono B1.out.size)⟩
theorem words_1 (w : World) (ps : Int) (nm lb ty : ByteArray) (op : Int) (it : Int) (tx : ByteArray) (zz : Int) (nb : ByteArray) (hnb : Hid (nb = ⟨(Lib.itoa it).toArray⟩)) (_hns : nb.size ≤ 100) (_hnm : nm.size ≤ 2000) (_hty : ty.size ≤ 2000) (i0 : -9223372036854775808 ≤ it) (i1 : it ≤ 9223372036854775807) (ht : Hid (Tab10 w)) (h7 : 15 ≤ w.heap.size) :
 Calls Tryz.prog 22 #[.agg #[.int .i64 1, .int .i64 ps, .string nm, .string lb, .string ty, .int .i64 op, .int .i64 it, .string tx, .int .i64 zz]] w fun e w' => e = .returned (.string (wds.getD 1 ByteArray.empty)) ∧ Below w.heap.size w w' := by
 obtain ⟨w1, hw1⟩ : ∃ w1, w.alloc (.cells #[.int .i64 1, .int .i64 ps, .string nm, .string lb, .string ty, .int .i64 op, .int .i64 it, .string tx, .int .i64 zz] 42) = w1 := ⟨_, rfl⟩
 have B1 : Hid (Below w.heap.size w w1) := by rw [← hw1]; exact (Below.refl _ w).alloc (Nat.le_refl _) _
 have z1 : w.heap.size < w1.heap.size := by rw [← hw1]; simp
 have c6 : w1.cell? ⟨w.heap.size, 6, none⟩ = some (.int .i64 it) := by rw [← hw1]; exact cell_new _ _ _ _ _ rfl
 have HF0 : Hid (∀ w', Below w1.heap.size w1 w' → w'.cell? ⟨w.heap.size, 0, none⟩ = some (.int .i64 1)) := fun w' hb => (hb.cell (p := ⟨w.heap.size, 0, none⟩) z1).trans (by rw [← hw1]; exact cell_new _ _ _ _ _ rfl)
 have H76 : Hid (c41 w1 it nb) := by rw [hnb.out]; exact fmt_any it w1 i0 i1 (ht.out.on B1.out h7)
 clear ht hnb
 go_enter Tryz.func22, Tryz.ntmps22
 go_wp2_with (first
  | (go_at_call 41; refine H76.out.mono ?_; rintro e w2 ⟨rfl, hb2⟩; have f0 := HF0.out _ hb2)
  | (go_at_call 45; refine (plain_any 1 (by decide) _).mono ?_; rintro e w3 ⟨rfl, rfl⟩)
  | go_in)
 go_ret
 exact ⟨rfl, B1.out.trans (hb2.mono B1.out.size)⟩
theorem words_4 (w : World) (ps : Int) (nm lb ty : ByteArray) (op : Int) (it : Int) (tx : ByteArray) (zz : Int) (nb : ByteArray) (hnb : Hid (nb = ⟨(Lib.itoa it).toArray⟩)) (_hns : nb.size ≤ 100) (_hnm : nm.size ≤ 2000) (_hty : ty.size ≤ 2000) (i0 : -9223372036854775808 ≤ it) (i1 : it ≤ 9223372036854775807) (ht : Hid (Tab10 w)) (h7 : 15 ≤ w.heap.size) :
 Calls Tryz.prog 22 #[.agg #[.int .i64 4, .int .i64 ps, .string nm, .string lb, .string ty, .int .i64 op, .int .i64 it, .string tx, .int .i64 zz]] w fun e w' => e = .returned (.string (wds.getD 4 ByteArray.empty)) ∧ Below w.heap.size w w' := by
 obtain ⟨w1, hw1⟩ : ∃ w1, w.alloc (.cells #[.int .i64 4, .int .i64 ps, .string nm, .string lb, .string ty, .int .i64 op, .int .i64 it, .string tx, .int .i64 zz] 42) = w1 := ⟨_, rfl⟩
 have B1 : Hid (Below w.heap.size w w1) := by rw [← hw1]; exact (Below.refl _ w).alloc (Nat.le_refl _) _
 have z1 : w.heap.size < w1.heap.size := by rw [← hw1]; simp
 have c6 : w1.cell? ⟨w.heap.size, 6, none⟩ = some (.int .i64 it) := by rw [← hw1]; exact cell_new _ _ _ _ _ rfl
 have HF0 : Hid (∀ w', Below w1.heap.size w1 w' → w'.cell? ⟨w.heap.size, 0, none⟩ = some (.int .i64 4)) := fun w' hb => (hb.cell (p := ⟨w.heap.size, 0, none⟩) z1).trans (by rw [← hw1]; exact cell_new _ _ _ _ _ rfl)
 have H76 : Hid (c41 w1 it nb) := by rw [hnb.out]; exact fmt_any it w1 i0 i1 (ht.out.on B1.out h7)
 clear ht hnb
 go_enter Tryz.func22, Tryz.ntmps22
 go_wp2_with (first
  | (go_at_call 41; refine H76.out.mono ?_; rintro e w2 ⟨rfl, hb2⟩; have f0 := HF0.out _ hb2)
  | (go_at_call 45; refine (plain_any 4 (by decide) _).mono ?_; rintro e w3 ⟨rfl, rfl⟩)
  | go_in)
 go_ret
 exact ⟨rfl, B1.out.trans (hb2.mono B1.out.size)⟩
theorem words_6 (w : World) (ps : Int) (nm lb ty : ByteArray) (op : Int) (it : Int) (tx : ByteArray) (zz : Int) (nb : ByteArray) (hnb : Hid (nb = ⟨(Lib.itoa it).toArray⟩)) (_hns : nb.size ≤ 100) (_hnm : nm.size ≤ 2000) (_hty : ty.size ≤ 2000) (i0 : -9223372036854775808 ≤ it) (i1 : it ≤ 9223372036854775807) (ht : Hid (Tab10 w)) (h7 : 15 ≤ w.heap.size) :
 Calls Tryz.prog 22 #[.agg #[.int .i64 6, .int .i64 ps, .string nm, .string lb, .string ty, .int .i64 op, .int .i64 it, .string tx, .int .i64 zz]] w fun e w' => e = .returned (.string (wds.getD 6 ByteArray.empty)) ∧ Below w.heap.size w w' := by
 obtain ⟨w1, hw1⟩ : ∃ w1, w.alloc (.cells #[.int .i64 6, .int .i64 ps, .string nm, .string lb, .string ty, .int .i64 op, .int .i64 it, .string tx, .int .i64 zz] 42) = w1 := ⟨_, rfl⟩
 have B1 : Hid (Below w.heap.size w w1) := by rw [← hw1]; exact (Below.refl _ w).alloc (Nat.le_refl _) _
 have z1 : w.heap.size < w1.heap.size := by rw [← hw1]; simp
 have c6 : w1.cell? ⟨w.heap.size, 6, none⟩ = some (.int .i64 it) := by rw [← hw1]; exact cell_new _ _ _ _ _ rfl
 have HF0 : Hid (∀ w', Below w1.heap.size w1 w' → w'.cell? ⟨w.heap.size, 0, none⟩ = some (.int .i64 6)) := fun w' hb => (hb.cell (p := ⟨w.heap.size, 0, none⟩) z1).trans (by rw [← hw1]; exact cell_new _ _ _ _ _ rfl)
 have H76 : Hid (c41 w1 it nb) := by rw [hnb.out]; exact fmt_any it w1 i0 i1 (ht.out.on B1.out h7)
 clear ht hnb
 go_enter Tryz.func22, Tryz.ntmps22
 go_wp2_with (first
  | (go_at_call 41; refine H76.out.mono ?_; rintro e w2 ⟨rfl, hb2⟩; have f0 := HF0.out _ hb2)
  | (go_at_call 45; refine (plain_any 6 (by decide) _).mono ?_; rintro e w3 ⟨rfl, rfl⟩)
  | go_in)
 go_ret
 exact ⟨rfl, B1.out.trans (hb2.mono B1.out.size)⟩
theorem words_7 (w : World) (ps : Int) (nm lb ty : ByteArray) (op : Int) (it : Int) (tx : ByteArray) (zz : Int) (nb : ByteArray) (hnb : Hid (nb = ⟨(Lib.itoa it).toArray⟩)) (_hns : nb.size ≤ 100) (_hnm : nm.size ≤ 2000) (_hty : ty.size ≤ 2000) (i0 : -9223372036854775808 ≤ it) (i1 : it ≤ 9223372036854775807) (ht : Hid (Tab10 w)) (h7 : 15 ≤ w.heap.size) :
 Calls Tryz.prog 22 #[.agg #[.int .i64 7, .int .i64 ps, .string nm, .string lb, .string ty, .int .i64 op, .int .i64 it, .string tx, .int .i64 zz]] w fun e w' => e = .returned (.string (wds.getD 7 ByteArray.empty)) ∧ Below w.heap.size w w' := by
 obtain ⟨w1, hw1⟩ : ∃ w1, w.alloc (.cells #[.int .i64 7, .int .i64 ps, .string nm, .string lb, .string ty, .int .i64 op, .int .i64 it, .string tx, .int .i64 zz] 42) = w1 := ⟨_, rfl⟩
 have B1 : Hid (Below w.heap.size w w1) := by rw [← hw1]; exact (Below.refl _ w).alloc (Nat.le_refl _) _
 have z1 : w.heap.size < w1.heap.size := by rw [← hw1]; simp
 have c6 : w1.cell? ⟨w.heap.size, 6, none⟩ = some (.int .i64 it) := by rw [← hw1]; exact cell_new _ _ _ _ _ rfl
 have HF0 : Hid (∀ w', Below w1.heap.size w1 w' → w'.cell? ⟨w.heap.size, 0, none⟩ = some (.int .i64 7)) := fun w' hb => (hb.cell (p := ⟨w.heap.size, 0, none⟩) z1).trans (by rw [← hw1]; exact cell_new _ _ _ _ _ rfl)
 have H76 : Hid (c41 w1 it nb) := by rw [hnb.out]; exact fmt_any it w1 i0 i1 (ht.out.on B1.out h7)
 clear ht hnb
 go_enter Tryz.func22, Tryz.ntmps22
 go_wp2_with (first
  | (go_at_call 41; refine H76.out.mono ?_; rintro e w2 ⟨rfl, hb2⟩; have f0 := HF0.out _ hb2)
  | (go_at_call 45; refine (plain_any 7 (by decide) _).mono ?_; rintro e w3 ⟨rfl, rfl⟩)
  | go_in)
 go_ret
 exact ⟨rfl, B1.out.trans (hb2.mono B1.out.size)⟩
theorem words_13 (w : World) (ps : Int) (nm lb ty : ByteArray) (op : Int) (it : Int) (tx : ByteArray) (zz : Int) (nb : ByteArray) (hnb : Hid (nb = ⟨(Lib.itoa it).toArray⟩)) (_hns : nb.size ≤ 100) (_hnm : nm.size ≤ 2000) (_hty : ty.size ≤ 2000) (i0 : -9223372036854775808 ≤ it) (i1 : it ≤ 9223372036854775807) (ht : Hid (Tab10 w)) (h7 : 15 ≤ w.heap.size) :
 Calls Tryz.prog 22 #[.agg #[.int .i64 13, .int .i64 ps, .string nm, .string lb, .string ty, .int .i64 op, .int .i64 it, .string tx, .int .i64 zz]] w fun e w' => e = .returned (.string (wds.getD 13 ByteArray.empty)) ∧ Below w.heap.size w w' := by
 obtain ⟨w1, hw1⟩ : ∃ w1, w.alloc (.cells #[.int .i64 13, .int .i64 ps, .string nm, .string lb, .string ty, .int .i64 op, .int .i64 it, .string tx, .int .i64 zz] 42) = w1 := ⟨_, rfl⟩
 have B1 : Hid (Below w.heap.size w w1) := by rw [← hw1]; exact (Below.refl _ w).alloc (Nat.le_refl _) _
 have z1 : w.heap.size < w1.heap.size := by rw [← hw1]; simp
 have c6 : w1.cell? ⟨w.heap.size, 6, none⟩ = some (.int .i64 it) := by rw [← hw1]; exact cell_new _ _ _ _ _ rfl
 have HF0 : Hid (∀ w', Below w1.heap.size w1 w' → w'.cell? ⟨w.heap.size, 0, none⟩ = some (.int .i64 13)) := fun w' hb => (hb.cell (p := ⟨w.heap.size, 0, none⟩) z1).trans (by rw [← hw1]; exact cell_new _ _ _ _ _ rfl)
 have H76 : Hid (c41 w1 it nb) := by rw [hnb.out]; exact fmt_any it w1 i0 i1 (ht.out.on B1.out h7)
 clear ht hnb
 go_enter Tryz.func22, Tryz.ntmps22
 go_wp2_with (first
  | (go_at_call 41; refine H76.out.mono ?_; rintro e w2 ⟨rfl, hb2⟩; have f0 := HF0.out _ hb2)
  | (go_at_call 45; refine (plain_any 13 (by decide) _).mono ?_; rintro e w3 ⟨rfl, rfl⟩)
  | go_in)
 go_ret
 exact ⟨rfl, B1.out.trans (hb2.mono B1.out.size)⟩
theorem words_14 (w : World) (ps : Int) (nm lb ty : ByteArray) (op : Int) (it : Int) (tx : ByteArray) (zz : Int) (nb : ByteArray) (hnb : Hid (nb = ⟨(Lib.itoa it).toArray⟩)) (_hns : nb.size ≤ 100) (_hnm : nm.size ≤ 2000) (_hty : ty.size ≤ 2000) (i0 : -9223372036854775808 ≤ it) (i1 : it ≤ 9223372036854775807) (ht : Hid (Tab10 w)) (h7 : 15 ≤ w.heap.size) :
 Calls Tryz.prog 22 #[.agg #[.int .i64 14, .int .i64 ps, .string nm, .string lb, .string ty, .int .i64 op, .int .i64 it, .string tx, .int .i64 zz]] w fun e w' => e = .returned (.string (wds.getD 14 ByteArray.empty)) ∧ Below w.heap.size w w' := by
 obtain ⟨w1, hw1⟩ : ∃ w1, w.alloc (.cells #[.int .i64 14, .int .i64 ps, .string nm, .string lb, .string ty, .int .i64 op, .int .i64 it, .string tx, .int .i64 zz] 42) = w1 := ⟨_, rfl⟩
 have B1 : Hid (Below w.heap.size w w1) := by rw [← hw1]; exact (Below.refl _ w).alloc (Nat.le_refl _) _
 have z1 : w.heap.size < w1.heap.size := by rw [← hw1]; simp
 have c6 : w1.cell? ⟨w.heap.size, 6, none⟩ = some (.int .i64 it) := by rw [← hw1]; exact cell_new _ _ _ _ _ rfl
 have HF0 : Hid (∀ w', Below w1.heap.size w1 w' → w'.cell? ⟨w.heap.size, 0, none⟩ = some (.int .i64 14)) := fun w' hb => (hb.cell (p := ⟨w.heap.size, 0, none⟩) z1).trans (by rw [← hw1]; exact cell_new _ _ _ _ _ rfl)
 have H76 : Hid (c41 w1 it nb) := by rw [hnb.out]; exact fmt_any it w1 i0 i1 (ht.out.on B1.out h7)
 clear ht hnb
 go_enter Tryz.func22, Tryz.ntmps22
 go_wp2_with (first
  | (go_at_call 41; refine H76.out.mono ?_; rintro e w2 ⟨rfl, hb2⟩; have f0 := HF0.out _ hb2)
  | (go_at_call 45; refine (plain_any 14 (by decide) _).mono ?_; rintro e w3 ⟨rfl, rfl⟩)
  | go_in)
 go_ret
 exact ⟨rfl, B1.out.trans (hb2.mono B1.out.size)⟩
theorem words_15 (w : World) (ps : Int) (nm lb ty : ByteArray) (op : Int) (it : Int) (tx : ByteArray) (zz : Int) (nb : ByteArray) (hnb : Hid (nb = ⟨(Lib.itoa it).toArray⟩)) (_hns : nb.size ≤ 100) (_hnm : nm.size ≤ 2000) (_hty : ty.size ≤ 2000) (i0 : -9223372036854775808 ≤ it) (i1 : it ≤ 9223372036854775807) (ht : Hid (Tab10 w)) (h7 : 15 ≤ w.heap.size) :
 Calls Tryz.prog 22 #[.agg #[.int .i64 15, .int .i64 ps, .string nm, .string lb, .string ty, .int .i64 op, .int .i64 it, .string tx, .int .i64 zz]] w fun e w' => e = .returned (.string (wds.getD 15 ByteArray.empty)) ∧ Below w.heap.size w w' := by
 obtain ⟨w1, hw1⟩ : ∃ w1, w.alloc (.cells #[.int .i64 15, .int .i64 ps, .string nm, .string lb, .string ty, .int .i64 op, .int .i64 it, .string tx, .int .i64 zz] 42) = w1 := ⟨_, rfl⟩
 have B1 : Hid (Below w.heap.size w w1) := by rw [← hw1]; exact (Below.refl _ w).alloc (Nat.le_refl _) _
 have z1 : w.heap.size < w1.heap.size := by rw [← hw1]; simp
 have c6 : w1.cell? ⟨w.heap.size, 6, none⟩ = some (.int .i64 it) := by rw [← hw1]; exact cell_new _ _ _ _ _ rfl
 have HF0 : Hid (∀ w', Below w1.heap.size w1 w' → w'.cell? ⟨w.heap.size, 0, none⟩ = some (.int .i64 15)) := fun w' hb => (hb.cell (p := ⟨w.heap.size, 0, none⟩) z1).trans (by rw [← hw1]; exact cell_new _ _ _ _ _ rfl)
 have H76 : Hid (c41 w1 it nb) := by rw [hnb.out]; exact fmt_any it w1 i0 i1 (ht.out.on B1.out h7)
 clear ht hnb
 go_enter Tryz.func22, Tryz.ntmps22
 go_wp2_with (first
  | (go_at_call 41; refine H76.out.mono ?_; rintro e w2 ⟨rfl, hb2⟩; have f0 := HF0.out _ hb2)
  | (go_at_call 45; refine (plain_any 15 (by decide) _).mono ?_; rintro e w3 ⟨rfl, rfl⟩)
  | go_in)
 go_ret
 exact ⟨rfl, B1.out.trans (hb2.mono B1.out.size)⟩
theorem words_24 (w : World) (ps : Int) (nm lb ty : ByteArray) (op : Int) (it : Int) (tx : ByteArray) (zz : Int) (nb : ByteArray) (hnb : Hid (nb = ⟨(Lib.itoa it).toArray⟩)) (_hns : nb.size ≤ 100) (_hnm : nm.size ≤ 2000) (_hty : ty.size ≤ 2000) (i0 : -9223372036854775808 ≤ it) (i1 : it ≤ 9223372036854775807) (ht : Hid (Tab10 w)) (h7 : 15 ≤ w.heap.size) :
 Calls Tryz.prog 22 #[.agg #[.int .i64 24, .int .i64 ps, .string nm, .string lb, .string ty, .int .i64 op, .int .i64 it, .string tx, .int .i64 zz]] w fun e w' => e = .returned (.string (wds.getD 24 ByteArray.empty)) ∧ Below w.heap.size w w' := by
 obtain ⟨w1, hw1⟩ : ∃ w1, w.alloc (.cells #[.int .i64 24, .int .i64 ps, .string nm, .string lb, .string ty, .int .i64 op, .int .i64 it, .string tx, .int .i64 zz] 42) = w1 := ⟨_, rfl⟩
 have B1 : Hid (Below w.heap.size w w1) := by rw [← hw1]; exact (Below.refl _ w).alloc (Nat.le_refl _) _
 have z1 : w.heap.size < w1.heap.size := by rw [← hw1]; simp
 have c6 : w1.cell? ⟨w.heap.size, 6, none⟩ = some (.int .i64 it) := by rw [← hw1]; exact cell_new _ _ _ _ _ rfl
 have HF0 : Hid (∀ w', Below w1.heap.size w1 w' → w'.cell? ⟨w.heap.size, 0, none⟩ = some (.int .i64 24)) := fun w' hb => (hb.cell (p := ⟨w.heap.size, 0, none⟩) z1).trans (by rw [← hw1]; exact cell_new _ _ _ _ _ rfl)
 have H76 : Hid (c41 w1 it nb) := by rw [hnb.out]; exact fmt_any it w1 i0 i1 (ht.out.on B1.out h7)
 clear ht hnb
 go_enter Tryz.func22, Tryz.ntmps22
 go_wp2_with (first
  | (go_at_call 41; refine H76.out.mono ?_; rintro e w2 ⟨rfl, hb2⟩; have f0 := HF0.out _ hb2)
  | (go_at_call 45; refine (plain_any 24 (by decide) _).mono ?_; rintro e w3 ⟨rfl, rfl⟩)
  | go_in)
 go_ret
 exact ⟨rfl, B1.out.trans (hb2.mono B1.out.size)⟩
theorem words_29 (w : World) (ps : Int) (nm lb ty : ByteArray) (op : Int) (it : Int) (tx : ByteArray) (zz : Int) (nb : ByteArray) (hnb : Hid (nb = ⟨(Lib.itoa it).toArray⟩)) (_hns : nb.size ≤ 100) (_hnm : nm.size ≤ 2000) (_hty : ty.size ≤ 2000) (i0 : -9223372036854775808 ≤ it) (i1 : it ≤ 9223372036854775807) (ht : Hid (Tab10 w)) (h7 : 15 ≤ w.heap.size) :
 Calls Tryz.prog 22 #[.agg #[.int .i64 29, .int .i64 ps, .string nm, .string lb, .string ty, .int .i64 op, .int .i64 it, .string tx, .int .i64 zz]] w fun e w' => e = .returned (.string (wds.getD 29 ByteArray.empty)) ∧ Below w.heap.size w w' := by
 obtain ⟨w1, hw1⟩ : ∃ w1, w.alloc (.cells #[.int .i64 29, .int .i64 ps, .string nm, .string lb, .string ty, .int .i64 op, .int .i64 it, .string tx, .int .i64 zz] 42) = w1 := ⟨_, rfl⟩
 have B1 : Hid (Below w.heap.size w w1) := by rw [← hw1]; exact (Below.refl _ w).alloc (Nat.le_refl _) _
 have z1 : w.heap.size < w1.heap.size := by rw [← hw1]; simp
 have c6 : w1.cell? ⟨w.heap.size, 6, none⟩ = some (.int .i64 it) := by rw [← hw1]; exact cell_new _ _ _ _ _ rfl
 have HF0 : Hid (∀ w', Below w1.heap.size w1 w' → w'.cell? ⟨w.heap.size, 0, none⟩ = some (.int .i64 29)) := fun w' hb => (hb.cell (p := ⟨w.heap.size, 0, none⟩) z1).trans (by rw [← hw1]; exact cell_new _ _ _ _ _ rfl)
 have H76 : Hid (c41 w1 it nb) := by rw [hnb.out]; exact fmt_any it w1 i0 i1 (ht.out.on B1.out h7)
 clear ht hnb
 go_enter Tryz.func22, Tryz.ntmps22
 go_wp2_with (first
  | (go_at_call 41; refine H76.out.mono ?_; rintro e w2 ⟨rfl, hb2⟩; have f0 := HF0.out _ hb2)
  | (go_at_call 45; refine (plain_any 29 (by decide) _).mono ?_; rintro e w3 ⟨rfl, rfl⟩)
  | go_in)
 go_ret
 exact ⟨rfl, B1.out.trans (hb2.mono B1.out.size)⟩
theorem words_30 (w : World) (ps : Int) (nm lb ty : ByteArray) (op : Int) (it : Int) (tx : ByteArray) (zz : Int) (nb : ByteArray) (hnb : Hid (nb = ⟨(Lib.itoa it).toArray⟩)) (_hns : nb.size ≤ 100) (_hnm : nm.size ≤ 2000) (_hty : ty.size ≤ 2000) (i0 : -9223372036854775808 ≤ it) (i1 : it ≤ 9223372036854775807) (ht : Hid (Tab10 w)) (h7 : 15 ≤ w.heap.size) :
 Calls Tryz.prog 22 #[.agg #[.int .i64 30, .int .i64 ps, .string nm, .string lb, .string ty, .int .i64 op, .int .i64 it, .string tx, .int .i64 zz]] w fun e w' => e = .returned (.string (wds.getD 30 ByteArray.empty)) ∧ Below w.heap.size w w' := by
 obtain ⟨w1, hw1⟩ : ∃ w1, w.alloc (.cells #[.int .i64 30, .int .i64 ps, .string nm, .string lb, .string ty, .int .i64 op, .int .i64 it, .string tx, .int .i64 zz] 42) = w1 := ⟨_, rfl⟩
 have B1 : Hid (Below w.heap.size w w1) := by rw [← hw1]; exact (Below.refl _ w).alloc (Nat.le_refl _) _
 have z1 : w.heap.size < w1.heap.size := by rw [← hw1]; simp
 have c6 : w1.cell? ⟨w.heap.size, 6, none⟩ = some (.int .i64 it) := by rw [← hw1]; exact cell_new _ _ _ _ _ rfl
 have HF0 : Hid (∀ w', Below w1.heap.size w1 w' → w'.cell? ⟨w.heap.size, 0, none⟩ = some (.int .i64 30)) := fun w' hb => (hb.cell (p := ⟨w.heap.size, 0, none⟩) z1).trans (by rw [← hw1]; exact cell_new _ _ _ _ _ rfl)
 have H76 : Hid (c41 w1 it nb) := by rw [hnb.out]; exact fmt_any it w1 i0 i1 (ht.out.on B1.out h7)
 clear ht hnb
 go_enter Tryz.func22, Tryz.ntmps22
 go_wp2_with (first
  | (go_at_call 41; refine H76.out.mono ?_; rintro e w2 ⟨rfl, hb2⟩; have f0 := HF0.out _ hb2)
  | (go_at_call 45; refine (plain_any 30 (by decide) _).mono ?_; rintro e w3 ⟨rfl, rfl⟩)
  | go_in)
 go_ret
 exact ⟨rfl, B1.out.trans (hb2.mono B1.out.size)⟩
theorem ba_eq {a : ByteArray} {l : List UInt8} (h : a.data.toList = l) : a = ⟨l.toArray⟩ := ByteArray.ext (Array.ext' h)
theorem aw_ne {t : List UInt8} (h : t ≠ []) : aw t = 32 :: t := by unfold aw orS; rw [if_neg h]
theorem ne_of_size {t : ByteArray} (h : 0 < t.size) : t.data.toList ≠ [] := fun e => by rw [Lib.size_eq, e] at h; simp at h
theorem orB_size {t : ByteArray} (h : t.size ≤ 2000) : (orB t).size ≤ 2000 := by
 unfold orB
 split
 ·show 1 ≤ 2000; omega
 ·exact h
theorem sg_size {o : Nat} (h : o ≤ 15) : (sgT.getD o ByteArray.empty).size ≤ 2000 := by
 have : ∀ k : Fin 16, (sgT.getD k.val ByteArray.empty).size ≤ 2000 := by decide +kernel
 exact this ⟨o, by omega⟩
theorem sg_ne {o : Nat} (h1 : 1 ≤ o) (h : o ≤ 15) : (sgT.getD o ByteArray.empty).data.toList ≠ [] := by
 have : ∀ k : Fin 16, 1 ≤ k.val → 0 < (sgT.getD k.val ByteArray.empty).size := by decide +kernel
 exact ne_of_size (this ⟨o, by omega⟩ h1)
theorem nb_size (it : Int) (i0 : -9223372036854775808 ≤ it) (i1 : it ≤ 9223372036854775807) : (⟨(Lib.itoa it).toArray⟩ : ByteArray).size ≤ 100 := by
 show (Lib.itoa it).toArray.size ≤ 100
 rw [List.size_toArray]
 have := Lib.itoa_length_le it i0 i1
 omega
theorem qt_ne (t : List UInt8) : Lx.qt t ≠ [] := by unfold Lx.qt; simp
theorem qb_size (tx : ByteArray) (h : tx.size ≤ 2000) : (⟨(Lx.qt tx.data.toList).toArray⟩ : ByteArray).size ≤ 10000 := by
 have := Lx.pcs_len tx.data.toList
 rw [← Lib.size_eq] at this
 show (Lx.qt tx.data.toList).toArray.size ≤ 10000
 rw [List.size_toArray]
 unfold Lx.qt
 rw [List.length_cons, List.length_append]
 show (Lx.pcs tx.data.toList).length + 1 + 1 ≤ _
 omega
theorem lnE_1 (ps : Int) (nm lb ty : ByteArray) (op : Int) (it : Int) (tx : ByteArray) (zz : Int) : ((wds.getD 1 ByteArray.empty)).data.toList = lnB (shp 1).1 ⟨1, ps, nm, lb, ty, op, it, tx, zz⟩ := by
 have hw : wordS ⟨1, ps, nm, lb, ty, op, it, tx, zz⟩ = [112, 114, 111, 103, 114, 97, 109] := rfl
 unfold lnB pLb pIt pNm pTy pOp pTx
 rw [hw, if_pos (show (shp 1).1.label = 0 by decide), if_neg (show ¬ 0 < (shp 1).1.mostInt by decide), if_pos (show (shp 1).1.name = 0 by decide), if_pos (show (shp 1).1.typ = 0 by decide), if_neg (show ¬ 0 < (shp 1).1.lastOp by decide), if_neg (show ¬ 0 < (shp 1).1.longest by decide)]
 rfl
theorem lnE_2 (ps : Int) (nm lb ty : ByteArray) (op : Int) (it : Int) (tx : ByteArray) (zz : Int) (hnm : nm.data.toList ≠ []) : (((((⟨#[102, 110, 32]⟩ : ByteArray) ++ nm) ++ (⟨#[32]⟩ : ByteArray)) ++ orB ty)).data.toList = lnB (shp 2).1 ⟨2, ps, nm, lb, ty, op, it, tx, zz⟩ := by
 have hw : wordS ⟨2, ps, nm, lb, ty, op, it, tx, zz⟩ = [102, 110] := rfl
 unfold lnB pLb pIt pNm pTy pOp pTx
 rw [hw, if_pos (show (shp 2).1.label = 0 by decide), if_neg (show ¬ 0 < (shp 2).1.mostInt by decide), if_neg (show ¬ (shp 2).1.name = 0 by decide), if_neg (show ¬ (shp 2).1.typ = 0 by decide), if_neg (show ¬ 0 < (shp 2).1.lastOp by decide), if_neg (show ¬ 0 < (shp 2).1.longest by decide)]
 rw [aw_ne hnm]
 unfold aw
 simp [orB_list]
theorem lnE_3 (ps : Int) (nm lb ty : ByteArray) (op : Int) (it : Int) (tx : ByteArray) (zz : Int) (hnm : nm.data.toList ≠ []) (hty : ty.data.toList ≠ []) : (((((⟨#[112, 97, 114, 97, 109, 32]⟩ : ByteArray) ++ nm) ++ (⟨#[32]⟩ : ByteArray)) ++ ty)).data.toList = lnB (shp 3).1 ⟨3, ps, nm, lb, ty, op, it, tx, zz⟩ := by
 have hw : wordS ⟨3, ps, nm, lb, ty, op, it, tx, zz⟩ = [112, 97, 114, 97, 109] := rfl
 unfold lnB pLb pIt pNm pTy pOp pTx
 rw [hw, if_pos (show (shp 3).1.label = 0 by decide), if_neg (show ¬ 0 < (shp 3).1.mostInt by decide), if_neg (show ¬ (shp 3).1.name = 0 by decide), if_neg (show ¬ (shp 3).1.typ = 0 by decide), if_neg (show ¬ 0 < (shp 3).1.lastOp by decide), if_neg (show ¬ 0 < (shp 3).1.longest by decide)]
 rw [aw_ne hnm]
 rw [aw_ne hty]
 simp
theorem lnE_4 (ps : Int) (nm lb ty : ByteArray) (op : Int) (it : Int) (tx : ByteArray) (zz : Int) : ((wds.getD 4 ByteArray.empty)).data.toList = lnB (shp 4).1 ⟨4, ps, nm, lb, ty, op, it, tx, zz⟩ := by
 have hw : wordS ⟨4, ps, nm, lb, ty, op, it, tx, zz⟩ = [98, 108, 111, 99, 107] := rfl
 unfold lnB pLb pIt pNm pTy pOp pTx
 rw [hw, if_pos (show (shp 4).1.label = 0 by decide), if_neg (show ¬ 0 < (shp 4).1.mostInt by decide), if_pos (show (shp 4).1.name = 0 by decide), if_pos (show (shp 4).1.typ = 0 by decide), if_neg (show ¬ 0 < (shp 4).1.lastOp by decide), if_neg (show ¬ 0 < (shp 4).1.longest by decide)]
 rfl
theorem lnE_5 (ps : Int) (nm lb ty : ByteArray) (op : Int) (it : Int) (tx : ByteArray) (zz : Int) (hnm : nm.data.toList ≠ []) (hty : ty.data.toList ≠ []) : (((((⟨#[118, 97, 114, 32]⟩ : ByteArray) ++ nm) ++ (⟨#[32]⟩ : ByteArray)) ++ ty)).data.toList = lnB (shp 5).1 ⟨5, ps, nm, lb, ty, op, it, tx, zz⟩ := by
 have hw : wordS ⟨5, ps, nm, lb, ty, op, it, tx, zz⟩ = [118, 97, 114] := rfl
 unfold lnB pLb pIt pNm pTy pOp pTx
 rw [hw, if_pos (show (shp 5).1.label = 0 by decide), if_neg (show ¬ 0 < (shp 5).1.mostInt by decide), if_neg (show ¬ (shp 5).1.name = 0 by decide), if_neg (show ¬ (shp 5).1.typ = 0 by decide), if_neg (show ¬ 0 < (shp 5).1.lastOp by decide), if_neg (show ¬ 0 < (shp 5).1.longest by decide)]
 rw [aw_ne hnm]
 rw [aw_ne hty]
 simp
theorem lnE_6 (ps : Int) (nm lb ty : ByteArray) (op : Int) (it : Int) (tx : ByteArray) (zz : Int) : ((wds.getD 6 ByteArray.empty)).data.toList = lnB (shp 6).1 ⟨6, ps, nm, lb, ty, op, it, tx, zz⟩ := by
 have hw : wordS ⟨6, ps, nm, lb, ty, op, it, tx, zz⟩ = [97, 115, 115, 105, 103, 110] := rfl
 unfold lnB pLb pIt pNm pTy pOp pTx
 rw [hw, if_pos (show (shp 6).1.label = 0 by decide), if_neg (show ¬ 0 < (shp 6).1.mostInt by decide), if_pos (show (shp 6).1.name = 0 by decide), if_pos (show (shp 6).1.typ = 0 by decide), if_neg (show ¬ 0 < (shp 6).1.lastOp by decide), if_neg (show ¬ 0 < (shp 6).1.longest by decide)]
 rfl
theorem lnE_7 (ps : Int) (nm lb ty : ByteArray) (op : Int) (it : Int) (tx : ByteArray) (zz : Int) : ((wds.getD 7 ByteArray.empty)).data.toList = lnB (shp 7).1 ⟨7, ps, nm, lb, ty, op, it, tx, zz⟩ := by
 have hw : wordS ⟨7, ps, nm, lb, ty, op, it, tx, zz⟩ = [105, 102] := rfl
 unfold lnB pLb pIt pNm pTy pOp pTx
 rw [hw, if_pos (show (shp 7).1.label = 0 by decide), if_neg (show ¬ 0 < (shp 7).1.mostInt by decide), if_pos (show (shp 7).1.name = 0 by decide), if_pos (show (shp 7).1.typ = 0 by decide), if_neg (show ¬ 0 < (shp 7).1.lastOp by decide), if_neg (show ¬ 0 < (shp 7).1.longest by decide)]
 rfl
theorem lnE_8 (ps : Int) (nm lb ty : ByteArray) (op : Int) (it : Int) (tx : ByteArray) (zz : Int) : (((⟨#[119, 104, 105, 108, 101, 32]⟩ : ByteArray) ++ orB lb)).data.toList = lnB (shp 8).1 ⟨8, ps, nm, lb, ty, op, it, tx, zz⟩ := by
 have hw : wordS ⟨8, ps, nm, lb, ty, op, it, tx, zz⟩ = [119, 104, 105, 108, 101] := rfl
 unfold lnB pLb pIt pNm pTy pOp pTx
 rw [hw, if_neg (show ¬ (shp 8).1.label = 0 by decide), if_neg (show ¬ 0 < (shp 8).1.mostInt by decide), if_pos (show (shp 8).1.name = 0 by decide), if_pos (show (shp 8).1.typ = 0 by decide), if_neg (show ¬ 0 < (shp 8).1.lastOp by decide), if_neg (show ¬ 0 < (shp 8).1.longest by decide)]
 unfold aw
 simp [orB_list]
theorem lnE_9 (ps : Int) (nm lb ty : ByteArray) (op : Int) (it : Int) (tx : ByteArray) (zz : Int) (hnm : nm.data.toList ≠ []) : (((((⟨#[102, 111, 114, 32]⟩ : ByteArray) ++ orB lb) ++ (⟨#[32]⟩ : ByteArray)) ++ nm)).data.toList = lnB (shp 9).1 ⟨9, ps, nm, lb, ty, op, it, tx, zz⟩ := by
 have hw : wordS ⟨9, ps, nm, lb, ty, op, it, tx, zz⟩ = [102, 111, 114] := rfl
 unfold lnB pLb pIt pNm pTy pOp pTx
 rw [hw, if_neg (show ¬ (shp 9).1.label = 0 by decide), if_neg (show ¬ 0 < (shp 9).1.mostInt by decide), if_neg (show ¬ (shp 9).1.name = 0 by decide), if_pos (show (shp 9).1.typ = 0 by decide), if_neg (show ¬ 0 < (shp 9).1.lastOp by decide), if_neg (show ¬ 0 < (shp 9).1.longest by decide)]
 rw [aw_ne hnm]
 unfold aw
 simp [orB_list]
theorem lnE_10 (ps : Int) (nm lb ty : ByteArray) (op : Int) (it : Int) (tx : ByteArray) (zz : Int) : (((⟨#[98, 114, 101, 97, 107, 32]⟩ : ByteArray) ++ orB lb)).data.toList = lnB (shp 10).1 ⟨10, ps, nm, lb, ty, op, it, tx, zz⟩ := by
 have hw : wordS ⟨10, ps, nm, lb, ty, op, it, tx, zz⟩ = [98, 114, 101, 97, 107] := rfl
 unfold lnB pLb pIt pNm pTy pOp pTx
 rw [hw, if_neg (show ¬ (shp 10).1.label = 0 by decide), if_neg (show ¬ 0 < (shp 10).1.mostInt by decide), if_pos (show (shp 10).1.name = 0 by decide), if_pos (show (shp 10).1.typ = 0 by decide), if_neg (show ¬ 0 < (shp 10).1.lastOp by decide), if_neg (show ¬ 0 < (shp 10).1.longest by decide)]
 unfold aw
 simp [orB_list]
theorem lnE_11 (ps : Int) (nm lb ty : ByteArray) (op : Int) (it : Int) (tx : ByteArray) (zz : Int) : (((⟨#[99, 111, 110, 116, 105, 110, 117, 101, 32]⟩ : ByteArray) ++ orB lb)).data.toList = lnB (shp 11).1 ⟨11, ps, nm, lb, ty, op, it, tx, zz⟩ := by
 have hw : wordS ⟨11, ps, nm, lb, ty, op, it, tx, zz⟩ = [99, 111, 110, 116, 105, 110, 117, 101] := rfl
 unfold lnB pLb pIt pNm pTy pOp pTx
 rw [hw, if_neg (show ¬ (shp 11).1.label = 0 by decide), if_neg (show ¬ 0 < (shp 11).1.mostInt by decide), if_pos (show (shp 11).1.name = 0 by decide), if_pos (show (shp 11).1.typ = 0 by decide), if_neg (show ¬ 0 < (shp 11).1.lastOp by decide), if_neg (show ¬ 0 < (shp 11).1.longest by decide)]
 unfold aw
 simp [orB_list]
theorem lnE_12 (ps : Int) (nm lb ty : ByteArray) (op : Int) (it : Int) (tx : ByteArray) (zz : Int) : (((⟨#[114, 101, 116, 117, 114, 110, 32]⟩ : ByteArray) ++ (⟨(Lib.itoa it).toArray⟩ : ByteArray))).data.toList = lnB (shp 12).1 ⟨12, ps, nm, lb, ty, op, it, tx, zz⟩ := by
 have hw : wordS ⟨12, ps, nm, lb, ty, op, it, tx, zz⟩ = [114, 101, 116, 117, 114, 110] := rfl
 unfold lnB pLb pIt pNm pTy pOp pTx
 rw [hw, if_pos (show (shp 12).1.label = 0 by decide), if_pos (show 0 < (shp 12).1.mostInt by decide), if_pos (show (shp 12).1.name = 0 by decide), if_pos (show (shp 12).1.typ = 0 by decide), if_neg (show ¬ 0 < (shp 12).1.lastOp by decide), if_neg (show ¬ 0 < (shp 12).1.longest by decide)]
 simp
theorem lnE_13 (ps : Int) (nm lb ty : ByteArray) (op : Int) (it : Int) (tx : ByteArray) (zz : Int) : ((wds.getD 13 ByteArray.empty)).data.toList = lnB (shp 13).1 ⟨13, ps, nm, lb, ty, op, it, tx, zz⟩ := by
 have hw : wordS ⟨13, ps, nm, lb, ty, op, it, tx, zz⟩ = [112, 114, 105, 110, 116] := rfl
 unfold lnB pLb pIt pNm pTy pOp pTx
 rw [hw, if_pos (show (shp 13).1.label = 0 by decide), if_neg (show ¬ 0 < (shp 13).1.mostInt by decide), if_pos (show (shp 13).1.name = 0 by decide), if_pos (show (shp 13).1.typ = 0 by decide), if_neg (show ¬ 0 < (shp 13).1.lastOp by decide), if_neg (show ¬ 0 < (shp 13).1.longest by decide)]
 rfl
theorem lnE_14 (ps : Int) (nm lb ty : ByteArray) (op : Int) (it : Int) (tx : ByteArray) (zz : Int) : ((wds.getD 14 ByteArray.empty)).data.toList = lnB (shp 14).1 ⟨14, ps, nm, lb, ty, op, it, tx, zz⟩ := by
 have hw : wordS ⟨14, ps, nm, lb, ty, op, it, tx, zz⟩ = [114, 101, 97, 100] := rfl
 unfold lnB pLb pIt pNm pTy pOp pTx
 rw [hw, if_pos (show (shp 14).1.label = 0 by decide), if_neg (show ¬ 0 < (shp 14).1.mostInt by decide), if_pos (show (shp 14).1.name = 0 by decide), if_pos (show (shp 14).1.typ = 0 by decide), if_neg (show ¬ 0 < (shp 14).1.lastOp by decide), if_neg (show ¬ 0 < (shp 14).1.longest by decide)]
 rfl
theorem lnE_15 (ps : Int) (nm lb ty : ByteArray) (op : Int) (it : Int) (tx : ByteArray) (zz : Int) : ((wds.getD 15 ByteArray.empty)).data.toList = lnB (shp 15).1 ⟨15, ps, nm, lb, ty, op, it, tx, zz⟩ := by
 have hw : wordS ⟨15, ps, nm, lb, ty, op, it, tx, zz⟩ = [100, 111] := rfl
 unfold lnB pLb pIt pNm pTy pOp pTx
 rw [hw, if_pos (show (shp 15).1.label = 0 by decide), if_neg (show ¬ 0 < (shp 15).1.mostInt by decide), if_pos (show (shp 15).1.name = 0 by decide), if_pos (show (shp 15).1.typ = 0 by decide), if_neg (show ¬ 0 < (shp 15).1.lastOp by decide), if_neg (show ¬ 0 < (shp 15).1.longest by decide)]
 rfl
theorem lnE_16 (ps : Int) (nm lb ty : ByteArray) (op : Int) (it : Int) (tx : ByteArray) (zz : Int) : (((((⟨#[104, 111, 111, 107, 32]⟩ : ByteArray) ++ (⟨(Lib.itoa it).toArray⟩ : ByteArray)) ++ (⟨#[32]⟩ : ByteArray)) ++ orB nm)).data.toList = lnB (shp 16).1 ⟨16, ps, nm, lb, ty, op, it, tx, zz⟩ := by
 have hw : wordS ⟨16, ps, nm, lb, ty, op, it, tx, zz⟩ = [104, 111, 111, 107] := rfl
 unfold lnB pLb pIt pNm pTy pOp pTx
 rw [hw, if_pos (show (shp 16).1.label = 0 by decide), if_pos (show 0 < (shp 16).1.mostInt by decide), if_neg (show ¬ (shp 16).1.name = 0 by decide), if_pos (show (shp 16).1.typ = 0 by decide), if_neg (show ¬ 0 < (shp 16).1.lastOp by decide), if_neg (show ¬ 0 < (shp 16).1.longest by decide)]
 unfold aw
 simp [orB_list]
theorem lnE_20 (ps : Int) (nm lb ty : ByteArray) (op : Int) (it : Int) (tx : ByteArray) (zz : Int) : (((⟨#[105, 110, 116, 32]⟩ : ByteArray) ++ (⟨(Lib.itoa it).toArray⟩ : ByteArray))).data.toList = lnB (shp 20).1 ⟨20, ps, nm, lb, ty, op, it, tx, zz⟩ := by
 have hw : wordS ⟨20, ps, nm, lb, ty, op, it, tx, zz⟩ = [105, 110, 116] := rfl
 unfold lnB pLb pIt pNm pTy pOp pTx
 rw [hw, if_pos (show (shp 20).1.label = 0 by decide), if_pos (show 0 < (shp 20).1.mostInt by decide), if_pos (show (shp 20).1.name = 0 by decide), if_pos (show (shp 20).1.typ = 0 by decide), if_neg (show ¬ 0 < (shp 20).1.lastOp by decide), if_neg (show ¬ 0 < (shp 20).1.longest by decide)]
 simp
theorem lnE_21 (ps : Int) (nm lb ty : ByteArray) (op : Int) (it : Int) (tx : ByteArray) (zz : Int) : (((⟨#[98, 111, 111, 108, 32]⟩ : ByteArray) ++ (⟨(Lib.itoa it).toArray⟩ : ByteArray))).data.toList = lnB (shp 21).1 ⟨21, ps, nm, lb, ty, op, it, tx, zz⟩ := by
 have hw : wordS ⟨21, ps, nm, lb, ty, op, it, tx, zz⟩ = [98, 111, 111, 108] := rfl
 unfold lnB pLb pIt pNm pTy pOp pTx
 rw [hw, if_pos (show (shp 21).1.label = 0 by decide), if_pos (show 0 < (shp 21).1.mostInt by decide), if_pos (show (shp 21).1.name = 0 by decide), if_pos (show (shp 21).1.typ = 0 by decide), if_neg (show ¬ 0 < (shp 21).1.lastOp by decide), if_neg (show ¬ 0 < (shp 21).1.longest by decide)]
 simp
theorem lnE_22 (ps : Int) (nm lb ty : ByteArray) (op : Int) (it : Int) (tx : ByteArray) (zz : Int) : (((⟨#[116, 101, 120, 116, 32]⟩ : ByteArray) ++ (⟨(Lx.qt tx.data.toList).toArray⟩ : ByteArray))).data.toList = lnB (shp 22).1 ⟨22, ps, nm, lb, ty, op, it, tx, zz⟩ := by
 have hw : wordS ⟨22, ps, nm, lb, ty, op, it, tx, zz⟩ = [116, 101, 120, 116] := rfl
 unfold lnB pLb pIt pNm pTy pOp pTx
 rw [hw, if_pos (show (shp 22).1.label = 0 by decide), if_neg (show ¬ 0 < (shp 22).1.mostInt by decide), if_pos (show (shp 22).1.name = 0 by decide), if_pos (show (shp 22).1.typ = 0 by decide), if_neg (show ¬ 0 < (shp 22).1.lastOp by decide), if_pos (show 0 < (shp 22).1.longest by decide)]
 rw [aw_ne (qt_ne _)]
 simp
theorem lnE_23 (ps : Int) (nm lb ty : ByteArray) (op : Int) (it : Int) (tx : ByteArray) (zz : Int) (hnm : nm.data.toList ≠ []) : (((⟨#[110, 97, 109, 101, 32]⟩ : ByteArray) ++ nm)).data.toList = lnB (shp 23).1 ⟨23, ps, nm, lb, ty, op, it, tx, zz⟩ := by
 have hw : wordS ⟨23, ps, nm, lb, ty, op, it, tx, zz⟩ = [110, 97, 109, 101] := rfl
 unfold lnB pLb pIt pNm pTy pOp pTx
 rw [hw, if_pos (show (shp 23).1.label = 0 by decide), if_neg (show ¬ 0 < (shp 23).1.mostInt by decide), if_neg (show ¬ (shp 23).1.name = 0 by decide), if_pos (show (shp 23).1.typ = 0 by decide), if_neg (show ¬ 0 < (shp 23).1.lastOp by decide), if_neg (show ¬ 0 < (shp 23).1.longest by decide)]
 rw [aw_ne hnm]
 simp
theorem lnE_24 (ps : Int) (nm lb ty : ByteArray) (op : Int) (it : Int) (tx : ByteArray) (zz : Int) : ((wds.getD 24 ByteArray.empty)).data.toList = lnB (shp 24).1 ⟨24, ps, nm, lb, ty, op, it, tx, zz⟩ := by
 have hw : wordS ⟨24, ps, nm, lb, ty, op, it, tx, zz⟩ = [105, 110, 100, 101, 120] := rfl
 unfold lnB pLb pIt pNm pTy pOp pTx
 rw [hw, if_pos (show (shp 24).1.label = 0 by decide), if_neg (show ¬ 0 < (shp 24).1.mostInt by decide), if_pos (show (shp 24).1.name = 0 by decide), if_pos (show (shp 24).1.typ = 0 by decide), if_neg (show ¬ 0 < (shp 24).1.lastOp by decide), if_neg (show ¬ 0 < (shp 24).1.longest by decide)]
 rfl
theorem lnE_25 (ps : Int) (nm lb ty : ByteArray) (op : Int) (it : Int) (tx : ByteArray) (zz : Int) (hnm : nm.data.toList ≠ []) : (((⟨#[99, 97, 108, 108, 32]⟩ : ByteArray) ++ nm)).data.toList = lnB (shp 25).1 ⟨25, ps, nm, lb, ty, op, it, tx, zz⟩ := by
 have hw : wordS ⟨25, ps, nm, lb, ty, op, it, tx, zz⟩ = [99, 97, 108, 108] := rfl
 unfold lnB pLb pIt pNm pTy pOp pTx
 rw [hw, if_pos (show (shp 25).1.label = 0 by decide), if_neg (show ¬ 0 < (shp 25).1.mostInt by decide), if_neg (show ¬ (shp 25).1.name = 0 by decide), if_pos (show (shp 25).1.typ = 0 by decide), if_neg (show ¬ 0 < (shp 25).1.lastOp by decide), if_neg (show ¬ 0 < (shp 25).1.longest by decide)]
 rw [aw_ne hnm]
 simp
theorem lnE_26 (ps : Int) (nm lb ty : ByteArray) (o : Nat) (it : Int) (tx : ByteArray) (zz : Int) (ho1 : 1 ≤ o) (ho2 : o ≤ 15) : (((⟨#[117, 110, 97, 114, 121, 32]⟩ : ByteArray) ++ sgT.getD o ByteArray.empty)).data.toList = lnB (shp 26).1 ⟨26, ps, nm, lb, ty, (o : Int), it, tx, zz⟩ := by
 have hw : wordS ⟨26, ps, nm, lb, ty, (o : Int), it, tx, zz⟩ = [117, 110, 97, 114, 121] := rfl
 unfold lnB pLb pIt pNm pTy pOp pTx
 rw [hw, if_pos (show (shp 26).1.label = 0 by decide), if_neg (show ¬ 0 < (shp 26).1.mostInt by decide), if_pos (show (shp 26).1.name = 0 by decide), if_pos (show (shp 26).1.typ = 0 by decide), if_pos (show 0 < (shp 26).1.lastOp by decide), if_neg (show ¬ 0 < (shp 26).1.longest by decide)]
 simp only [Int.toNat_natCast]
 rw [aw_ne (sg_ne ho1 ho2)]
 simp
theorem lnE_27 (ps : Int) (nm lb ty : ByteArray) (o : Nat) (it : Int) (tx : ByteArray) (zz : Int) (ho1 : 1 ≤ o) (ho2 : o ≤ 15) : (((⟨#[98, 105, 110, 97, 114, 121, 32]⟩ : ByteArray) ++ sgT.getD o ByteArray.empty)).data.toList = lnB (shp 27).1 ⟨27, ps, nm, lb, ty, (o : Int), it, tx, zz⟩ := by
 have hw : wordS ⟨27, ps, nm, lb, ty, (o : Int), it, tx, zz⟩ = [98, 105, 110, 97, 114, 121] := rfl
 unfold lnB pLb pIt pNm pTy pOp pTx
 rw [hw, if_pos (show (shp 27).1.label = 0 by decide), if_neg (show ¬ 0 < (shp 27).1.mostInt by decide), if_pos (show (shp 27).1.name = 0 by decide), if_pos (show (shp 27).1.typ = 0 by decide), if_pos (show 0 < (shp 27).1.lastOp by decide), if_neg (show ¬ 0 < (shp 27).1.longest by decide)]
 simp only [Int.toNat_natCast]
 rw [aw_ne (sg_ne ho1 ho2)]
 simp
theorem lnE_28 (ps : Int) (nm lb ty : ByteArray) (op : Int) (it : Int) (tx : ByteArray) (zz : Int) (hty : ty.data.toList ≠ []) : (((⟨#[110, 101, 119, 32]⟩ : ByteArray) ++ ty)).data.toList = lnB (shp 28).1 ⟨28, ps, nm, lb, ty, op, it, tx, zz⟩ := by
 have hw : wordS ⟨28, ps, nm, lb, ty, op, it, tx, zz⟩ = [110, 101, 119] := rfl
 unfold lnB pLb pIt pNm pTy pOp pTx
 rw [hw, if_pos (show (shp 28).1.label = 0 by decide), if_neg (show ¬ 0 < (shp 28).1.mostInt by decide), if_pos (show (shp 28).1.name = 0 by decide), if_neg (show ¬ (shp 28).1.typ = 0 by decide), if_neg (show ¬ 0 < (shp 28).1.lastOp by decide), if_neg (show ¬ 0 < (shp 28).1.longest by decide)]
 rw [aw_ne hty]
 simp
theorem lnE_29 (ps : Int) (nm lb ty : ByteArray) (op : Int) (it : Int) (tx : ByteArray) (zz : Int) : ((wds.getD 29 ByteArray.empty)).data.toList = lnB (shp 29).1 ⟨29, ps, nm, lb, ty, op, it, tx, zz⟩ := by
 have hw : wordS ⟨29, ps, nm, lb, ty, op, it, tx, zz⟩ = [108, 101, 110] := rfl
 unfold lnB pLb pIt pNm pTy pOp pTx
 rw [hw, if_pos (show (shp 29).1.label = 0 by decide), if_neg (show ¬ 0 < (shp 29).1.mostInt by decide), if_pos (show (shp 29).1.name = 0 by decide), if_pos (show (shp 29).1.typ = 0 by decide), if_neg (show ¬ 0 < (shp 29).1.lastOp by decide), if_neg (show ¬ 0 < (shp 29).1.longest by decide)]
 rfl
theorem lnE_30 (ps : Int) (nm lb ty : ByteArray) (op : Int) (it : Int) (tx : ByteArray) (zz : Int) : ((wds.getD 30 ByteArray.empty)).data.toList = lnB (shp 30).1 ⟨30, ps, nm, lb, ty, op, it, tx, zz⟩ := by
 have hw : wordS ⟨30, ps, nm, lb, ty, op, it, tx, zz⟩ = [115, 116, 114] := rfl
 unfold lnB pLb pIt pNm pTy pOp pTx
 rw [hw, if_pos (show (shp 30).1.label = 0 by decide), if_neg (show ¬ 0 < (shp 30).1.mostInt by decide), if_pos (show (shp 30).1.name = 0 by decide), if_pos (show (shp 30).1.typ = 0 by decide), if_neg (show ¬ 0 < (shp 30).1.lastOp by decide), if_neg (show ¬ 0 < (shp 30).1.longest by decide)]
 rfl
theorem words_any (w : World) (x : Nd) (hx : Tame x) (hv : (shp x.kind).2 = true) (hf : fieldsS nameS typeS (shp x.kind).1 x = true) (ht : Tab10 w) (h7 : 15 ≤ w.heap.size) :
 Calls Tryz.prog 22 #[.agg (ndV x)] w fun e w' => e = .returned (.string ⟨(lnB (shp x.kind).1 x).toArray⟩) ∧ Below w.heap.size w w' := by
 obtain ⟨kd, ps, nm, lb, ty, op, it, tx, zz⟩ := x
 obtain ⟨_, _, p0, p1, o0, o1, i0, i1, t1, t2, t3, t4⟩ := hx
 simp only at p0 p1 o0 o1 i0 i1 t1 t2 t3 t4 hv hf
 obtain ⟨k1, k2⟩ := shp_range kd hv
 unfold fieldsS at hf
 simp only [Bool.and_eq_true, decide_eq_true_eq] at hf
 obtain ⟨⟨⟨⟨⟨⟨⟨⟨_, _⟩, a3⟩, a4⟩, _⟩, _⟩, a7⟩, a8⟩, _⟩ := hf
 have hk : kd = 1 ∨ kd = 2 ∨ kd = 3 ∨ kd = 4 ∨ kd = 5 ∨ kd = 6 ∨ kd = 7 ∨ kd = 8 ∨ kd = 9 ∨ kd = 10 ∨ kd = 11 ∨ kd = 12 ∨ kd = 13 ∨ kd = 14 ∨ kd = 15 ∨ kd = 16 ∨ kd = 17 ∨ kd = 18 ∨ kd = 19 ∨ kd = 20 ∨ kd = 21 ∨ kd = 22 ∨ kd = 23 ∨ kd = 24 ∨ kd = 25 ∨ kd = 26 ∨ kd = 27 ∨ kd = 28 ∨ kd = 29 ∨ kd = 30 := by omega
 have hnb := nb_size it i0 i1
 clear k1 k2
 rcases hk with rfl | rfl | rfl | rfl | rfl | rfl | rfl | rfl | rfl | rfl | rfl | rfl | rfl | rfl | rfl | rfl | rfl | rfl | rfl | rfl | rfl | rfl | rfl | rfl | rfl | rfl | rfl | rfl | rfl | rfl
 ·refine (words_1 w ps nm lb ty op it tx zz _ rfl hnb t1 t3 i0 i1 ht h7).mono ?_
  rintro e w' ⟨rfl, hb⟩
  exact ⟨congrArg (fun b => Ending.returned (Value.string b)) (ba_eq (lnE_1 ps nm lb ty op it tx zz)), hb⟩
 ·have hnm : nm.data.toList ≠ [] := ne_of_size (by rw [show (shp 2).1.name = 2 by rfl, fitW2] at a3; simp at a3; exact a3.1)
  refine (words_2 w ps nm lb ty op it tx zz _ rfl hnb t1 t3 _ rfl (orB_size t3) i0 i1 ht h7).mono ?_
  rintro e w' ⟨rfl, hb⟩
  exact ⟨congrArg (fun b => Ending.returned (Value.string b)) (ba_eq (lnE_2 ps nm lb ty op it tx zz hnm)), hb⟩
 ·have hnm : nm.data.toList ≠ [] := ne_of_size (by rw [show (shp 3).1.name = 2 by rfl, fitW2] at a3; simp at a3; exact a3.1)
  have hty : ty.data.toList ≠ [] := ne_of_size (by rw [show (shp 3).1.typ = 2 by rfl, fitW2] at a4; simp at a4; exact a4.1)
  refine (words_3 w ps nm lb ty op it tx zz _ rfl hnb t1 t3 i0 i1 ht h7).mono ?_
  rintro e w' ⟨rfl, hb⟩
  exact ⟨congrArg (fun b => Ending.returned (Value.string b)) (ba_eq (lnE_3 ps nm lb ty op it tx zz hnm hty)), hb⟩
 ·refine (words_4 w ps nm lb ty op it tx zz _ rfl hnb t1 t3 i0 i1 ht h7).mono ?_
  rintro e w' ⟨rfl, hb⟩
  exact ⟨congrArg (fun b => Ending.returned (Value.string b)) (ba_eq (lnE_4 ps nm lb ty op it tx zz)), hb⟩
 ·have hnm : nm.data.toList ≠ [] := ne_of_size (by rw [show (shp 5).1.name = 2 by rfl, fitW2] at a3; simp at a3; exact a3.1)
  have hty : ty.data.toList ≠ [] := ne_of_size (by rw [show (shp 5).1.typ = 2 by rfl, fitW2] at a4; simp at a4; exact a4.1)
  refine (words_5 w ps nm lb ty op it tx zz _ rfl hnb t1 t3 i0 i1 ht h7).mono ?_
  rintro e w' ⟨rfl, hb⟩
  exact ⟨congrArg (fun b => Ending.returned (Value.string b)) (ba_eq (lnE_5 ps nm lb ty op it tx zz hnm hty)), hb⟩
 ·refine (words_6 w ps nm lb ty op it tx zz _ rfl hnb t1 t3 i0 i1 ht h7).mono ?_
  rintro e w' ⟨rfl, hb⟩
  exact ⟨congrArg (fun b => Ending.returned (Value.string b)) (ba_eq (lnE_6 ps nm lb ty op it tx zz)), hb⟩
 ·refine (words_7 w ps nm lb ty op it tx zz _ rfl hnb t1 t3 i0 i1 ht h7).mono ?_
  rintro e w' ⟨rfl, hb⟩
  exact ⟨congrArg (fun b => Ending.returned (Value.string b)) (ba_eq (lnE_7 ps nm lb ty op it tx zz)), hb⟩
 ·refine (words_8 w ps nm lb ty op it tx zz _ rfl hnb t1 t3 _ rfl (orB_size t2) i0 i1 ht h7).mono ?_
  rintro e w' ⟨rfl, hb⟩
  exact ⟨congrArg (fun b => Ending.returned (Value.string b)) (ba_eq (lnE_8 ps nm lb ty op it tx zz)), hb⟩
 ·have hnm : nm.data.toList ≠ [] := ne_of_size (by rw [show (shp 9).1.name = 2 by rfl, fitW2] at a3; simp at a3; exact a3.1)
  refine (words_9 w ps nm lb ty op it tx zz _ rfl hnb t1 t3 _ rfl (orB_size t2) i0 i1 ht h7).mono ?_
  rintro e w' ⟨rfl, hb⟩
  exact ⟨congrArg (fun b => Ending.returned (Value.string b)) (ba_eq (lnE_9 ps nm lb ty op it tx zz hnm)), hb⟩
 ·refine (words_10 w ps nm lb ty op it tx zz _ rfl hnb t1 t3 _ rfl (orB_size t2) i0 i1 ht h7).mono ?_
  rintro e w' ⟨rfl, hb⟩
  exact ⟨congrArg (fun b => Ending.returned (Value.string b)) (ba_eq (lnE_10 ps nm lb ty op it tx zz)), hb⟩
 ·refine (words_11 w ps nm lb ty op it tx zz _ rfl hnb t1 t3 _ rfl (orB_size t2) i0 i1 ht h7).mono ?_
  rintro e w' ⟨rfl, hb⟩
  exact ⟨congrArg (fun b => Ending.returned (Value.string b)) (ba_eq (lnE_11 ps nm lb ty op it tx zz)), hb⟩
 ·refine (words_12 w ps nm lb ty op it tx zz _ rfl hnb t1 t3 i0 i1 ht h7).mono ?_
  rintro e w' ⟨rfl, hb⟩
  exact ⟨congrArg (fun b => Ending.returned (Value.string b)) (ba_eq (lnE_12 ps nm lb ty op it tx zz)), hb⟩
 ·refine (words_13 w ps nm lb ty op it tx zz _ rfl hnb t1 t3 i0 i1 ht h7).mono ?_
  rintro e w' ⟨rfl, hb⟩
  exact ⟨congrArg (fun b => Ending.returned (Value.string b)) (ba_eq (lnE_13 ps nm lb ty op it tx zz)), hb⟩
 ·refine (words_14 w ps nm lb ty op it tx zz _ rfl hnb t1 t3 i0 i1 ht h7).mono ?_
  rintro e w' ⟨rfl, hb⟩
  exact ⟨congrArg (fun b => Ending.returned (Value.string b)) (ba_eq (lnE_14 ps nm lb ty op it tx zz)), hb⟩
 ·refine (words_15 w ps nm lb ty op it tx zz _ rfl hnb t1 t3 i0 i1 ht h7).mono ?_
  rintro e w' ⟨rfl, hb⟩
  exact ⟨congrArg (fun b => Ending.returned (Value.string b)) (ba_eq (lnE_15 ps nm lb ty op it tx zz)), hb⟩
 ·refine (words_16 w ps nm lb ty op it tx zz _ rfl hnb t1 t3 _ rfl (orB_size t1) i0 i1 ht h7).mono ?_
  rintro e w' ⟨rfl, hb⟩
  exact ⟨congrArg (fun b => Ending.returned (Value.string b)) (ba_eq (lnE_16 ps nm lb ty op it tx zz)), hb⟩
 ·exact absurd hv (by decide)
 ·exact absurd hv (by decide)
 ·exact absurd hv (by decide)
 ·refine (words_20 w ps nm lb ty op it tx zz _ rfl hnb t1 t3 i0 i1 ht h7).mono ?_
  rintro e w' ⟨rfl, hb⟩
  exact ⟨congrArg (fun b => Ending.returned (Value.string b)) (ba_eq (lnE_20 ps nm lb ty op it tx zz)), hb⟩
 ·refine (words_21 w ps nm lb ty op it tx zz _ rfl hnb t1 t3 i0 i1 ht h7).mono ?_
  rintro e w' ⟨rfl, hb⟩
  exact ⟨congrArg (fun b => Ending.returned (Value.string b)) (ba_eq (lnE_21 ps nm lb ty op it tx zz)), hb⟩
 ·refine (words_22 w ps nm lb ty op it tx zz _ rfl hnb t1 t3 _ rfl t4 (qb_size tx t4) i0 i1 ht h7).mono ?_
  rintro e w' ⟨rfl, hb⟩
  exact ⟨congrArg (fun b => Ending.returned (Value.string b)) (ba_eq (lnE_22 ps nm lb ty op it tx zz)), hb⟩
 ·have hnm : nm.data.toList ≠ [] := ne_of_size (by rw [show (shp 23).1.name = 2 by rfl, fitW2] at a3; simp at a3; exact a3.1)
  refine (words_23 w ps nm lb ty op it tx zz _ rfl hnb t1 t3 i0 i1 ht h7).mono ?_
  rintro e w' ⟨rfl, hb⟩
  exact ⟨congrArg (fun b => Ending.returned (Value.string b)) (ba_eq (lnE_23 ps nm lb ty op it tx zz hnm)), hb⟩
 ·refine (words_24 w ps nm lb ty op it tx zz _ rfl hnb t1 t3 i0 i1 ht h7).mono ?_
  rintro e w' ⟨rfl, hb⟩
  exact ⟨congrArg (fun b => Ending.returned (Value.string b)) (ba_eq (lnE_24 ps nm lb ty op it tx zz)), hb⟩
 ·have hnm : nm.data.toList ≠ [] := ne_of_size (by rw [show (shp 25).1.name = 2 by rfl, fitW2] at a3; simp at a3; exact a3.1)
  refine (words_25 w ps nm lb ty op it tx zz _ rfl hnb t1 t3 i0 i1 ht h7).mono ?_
  rintro e w' ⟨rfl, hb⟩
  exact ⟨congrArg (fun b => Ending.returned (Value.string b)) (ba_eq (lnE_25 ps nm lb ty op it tx zz hnm)), hb⟩
 ·obtain ⟨o, rfl⟩ : ∃ o : Nat, op = (o : Int) := ⟨op.toNat, by omega⟩
  have b1 : (shp 26).1.firstOp = 1 := rfl
  have ho1 : 1 ≤ o := by omega
  have ho2 : o ≤ 15 := by omega
  refine (words_26 w ps nm lb ty o ho1 ho2 it tx zz _ rfl hnb t1 t3 _ rfl (sg_size ho2) i0 i1 ht h7).mono ?_
  rintro e w' ⟨rfl, hb⟩
  exact ⟨congrArg (fun b => Ending.returned (Value.string b)) (ba_eq (lnE_26 ps nm lb ty o it tx zz ho1 ho2)), hb⟩
 ·obtain ⟨o, rfl⟩ : ∃ o : Nat, op = (o : Int) := ⟨op.toNat, by omega⟩
  have b1 : (shp 27).1.firstOp = 3 := rfl
  have ho1 : 1 ≤ o := by omega
  have ho2 : o ≤ 15 := by omega
  refine (words_27 w ps nm lb ty o ho1 ho2 it tx zz _ rfl hnb t1 t3 _ rfl (sg_size ho2) i0 i1 ht h7).mono ?_
  rintro e w' ⟨rfl, hb⟩
  exact ⟨congrArg (fun b => Ending.returned (Value.string b)) (ba_eq (lnE_27 ps nm lb ty o it tx zz ho1 ho2)), hb⟩
 ·have hty : ty.data.toList ≠ [] := ne_of_size (by rw [show (shp 28).1.typ = 2 by rfl, fitW2] at a4; simp at a4; exact a4.1)
  refine (words_28 w ps nm lb ty op it tx zz _ rfl hnb t1 t3 i0 i1 ht h7).mono ?_
  rintro e w' ⟨rfl, hb⟩
  exact ⟨congrArg (fun b => Ending.returned (Value.string b)) (ba_eq (lnE_28 ps nm lb ty op it tx zz hty)), hb⟩
 ·refine (words_29 w ps nm lb ty op it tx zz _ rfl hnb t1 t3 i0 i1 ht h7).mono ?_
  rintro e w' ⟨rfl, hb⟩
  exact ⟨congrArg (fun b => Ending.returned (Value.string b)) (ba_eq (lnE_29 ps nm lb ty op it tx zz)), hb⟩
 ·refine (words_30 w ps nm lb ty op it tx zz _ rfl hnb t1 t3 i0 i1 ht h7).mono ?_
  rintro e w' ⟨rfl, hb⟩
  exact ⟨congrArg (fun b => Ending.returned (Value.string b)) (ba_eq (lnE_30 ps nm lb ty op it tx zz)), hb⟩
end Go.Proofs.YtekgnogjfggnmaaGreatDoor
