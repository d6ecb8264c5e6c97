import Derived.Lib.ParseIntB
import Derived.Test.YtekgnogjfggnmaaGreatDoorN35
namespace Go.Proofs.YtekgnogjfggnmaaGreatDoor
open Go.RowKit
def dv (acc : Nat) (D : List UInt8) : Nat := D.foldl (fun a c => a * 10 + (c.toNat - 48)) acc
theorem dv_nil (acc : Nat) : dv acc [] = acc := rfl
theorem dv_cons (acc : Nat) (c : UInt8) (D : List UInt8) : dv acc (c :: D) = dv (acc * 10 + (c.toNat - 48)) D := by unfold dv; rw [List.foldl_cons]
theorem dv_snoc (acc : Nat) (D : List UInt8) (c : UInt8) : dv acc (D ++ [c]) = dv acc D * 10 + (c.toNat - 48) := by unfold dv; rw [List.foldl_append, List.foldl_cons, List.foldl_nil]
theorem dv_ge (D : List UInt8) : ∀ acc, acc * 10 ^ D.length ≤ dv acc D := by
 induction D with
 | nil => intro acc; simp [dv_nil]
 | cons c D ih =>
  intro acc
  rw [dv_cons, List.length_cons, Nat.pow_succ]
  refine Nat.le_trans ?_ (ih _)
  rw [Nat.mul_comm (10 ^ D.length) 10, ← Nat.mul_assoc]
  exact Nat.mul_le_mul_right _ (Nat.le_add_right _ _)
theorem dv_le (D : List UInt8) (acc : Nat) : acc ≤ dv acc D := Nat.le_trans (Nat.le_mul_of_pos_right acc (Nat.pow_pos (by omega))) (dv_ge D acc)
theorem parse_M (D : List UInt8) (hd : ∀ c ∈ D, (48 ≤ c.toNat ∧ c.toNat ≤ 57)) : ∀ acc, acc ≤ 18446744073709551615 → Lib.parseUintM 18446744073709551615 acc D = if dv acc D ≤ 18446744073709551615 then .ok (dv acc D) else .range := by
 induction D with
 | nil => intro acc h; rw [dv_nil, if_pos h]; rfl
 | cons c D ih =>
  intro acc h
  have hc : 48 ≤ c.toNat ∧ c.toNat ≤ 57 := hd c (by simp)
  have hle := dv_le D (acc * 10 + (c.toNat - 48))
  unfold Lib.parseUintM
  rw [if_pos hc, dv_cons]
  by_cases h1 : 1844674407370955162 ≤ acc
  ·rw [if_pos h1, if_neg (by omega)]
  ·rw [if_neg h1]
   by_cases h2 : 18446744073709551615 < acc * 10 + (c.toNat - 48)
   ·rw [if_pos h2, if_neg (by omega)]
   ·rw [if_neg h2, ih (fun d hd' => hd d (by simp [hd'])) _ (by omega)]
theorem parse_D (D : List UInt8) (hne : D ≠ []) (hd : ∀ c ∈ D, (48 ≤ c.toNat ∧ c.toNat ≤ 57)) : Lib.parseIntB 64 D = if dv 0 D < 9223372036854775808 then .ok ((dv 0 D : Nat) : Int) else .range := by
 match D, hne with
 | c :: r, _ =>
  have hc : 48 ≤ c.toNat ∧ c.toNat ≤ 57 := hd c (by simp)
  have hM := parse_M (c :: r) hd 0 (by omega)
  unfold Lib.parseIntB
  simp only
  rw [if_neg (by omega)]
  unfold Lib.parseUintB
  rw [if_neg (by simp), show (2 ^ 64 - 1 : Nat) = 18446744073709551615 from rfl, hM]
  by_cases h1 : dv 0 (c :: r) ≤ 18446744073709551615
  ·rw [if_pos h1]
   simp only
   by_cases h2 : dv 0 (c :: r) < 9223372036854775808
   ·rw [if_pos h2, if_neg (by simp; omega), if_neg (by omega), if_neg (by omega)]
   ·rw [if_neg h2, if_pos ⟨by omega, by simp; omega⟩]
  ·rw [if_neg h1, if_neg (by omega)]
theorem dd_pos (d : Nat) (h : d < 10) : (UInt8.ofNat (48 + d)).toNat = 48 + d := by
 rw [UInt8.toNat_ofNat']
 omega
theorem dec_digits (u : Nat) : (∀ c ∈ Lib.decDigits u, 48 ≤ c.toNat ∧ c.toNat ≤ 57) ∧ Lib.decDigits u ≠ [] ∧ dv 0 (Lib.decDigits u) = u := by
 induction u using Nat.strongRecOn with
 | ind u ih =>
  rw [Lib.decDigits]
  by_cases h : u < 10
  ·rw [dif_pos h]
   have e := dd_pos u h
   refine ⟨fun c hc => ?_, by simp, ?_⟩
   ·rw [List.mem_singleton.1 hc, e]; omega
   ·rw [dv_cons, dv_nil, e]; omega
  ·rw [dif_neg h]
   obtain ⟨h1, h2, h3⟩ := ih (u / 10) (by omega)
   have e := dd_pos (u % 10) (by omega)
   refine ⟨fun c hc => ?_, by simp, ?_⟩
   ·rcases List.mem_append.1 hc with hc | hc
    ·exact h1 c hc
    ·rw [List.mem_singleton.1 hc, e]; omega
   ·rw [dv_snoc, h3, e]; omega
def numS (w : List UInt8) : Option Int := match Lib.parseIntB 64 w with
 | .ok v => if Lib.itoa v = w then some v else none
 | _ => none
theorem num_sound {w : List UInt8} {v : Int} (h : numS w = some v) : Lib.itoa v = w := by
 unfold numS at h
 split at h
 ·split at h
  ·rename_i h2
   cases h
   exact h2
  ·cases h
 ·cases h
theorem itoa_nat {v : Int} (h : 0 ≤ v) : Lib.itoa v = Lib.decDigits v.toNat := by
 obtain ⟨u, rfl⟩ : ∃ u : Nat, v = (u : Int) := ⟨v.toNat, by omega⟩
 rw [Lib.itoa_nonneg, Int.toNat_natCast]
theorem num_ok {v : Int} (h0 : 0 ≤ v) (h1 : v ≤ 9223372036854775807) : numS (Lib.itoa v) = some v := by
 obtain ⟨d1, d2, d3⟩ := dec_digits v.toNat
 have hp := parse_D (Lib.decDigits v.toNat) d2 d1
 rw [d3, if_pos (by omega)] at hp
 unfold numS
 rw [itoa_nat h0, hp]
 have e : ((v.toNat : Nat) : Int) = v := by omega
 simp only [e]
 rw [itoa_nat h0, if_pos rfl]
theorem itoa_no32 {v : Int} (h0 : 0 ≤ v) : ∀ c ∈ Lib.itoa v, c ≠ 32 := by
 rw [itoa_nat h0]
 intro c hc e
 have := (dec_digits v.toNat).1 c hc
 rw [e] at this
 simp at this
def Hd (r : List UInt8) : Prop := r = [] ∨ ∃ r0, r = 32 :: r0
def fstW (t : List UInt8) : List UInt8 × List UInt8 := (t.takeWhile (fun c => c != 32), t.dropWhile (fun c => c != 32))
theorem fst_join (t : List UInt8) : (fstW t).1 ++ (fstW t).2 = t := List.takeWhile_append_dropWhile
theorem fst_hd : ∀ t : List UInt8, Hd (fstW t).2
 | [] => Or.inl rfl
 | c :: t => by
  by_cases h : c = 32
  ·subst h
   exact Or.inr ⟨t, rfl⟩
  ·have hb : (c != 32) = true := by simpa using h
   have : (fstW (c :: t)).2 = (fstW t).2 := by unfold fstW; simp only [List.dropWhile_cons, hb, if_true]
   rw [this]
   exact fst_hd t
theorem fst_app {w r : List UInt8} (hw : ∀ c ∈ w, c ≠ 32) (hr : Hd r) : fstW (w ++ r) = (w, r) := by
 induction w with
 | nil =>
  rcases hr with rfl | ⟨r0, rfl⟩
  ·rfl
  ·rfl
 | cons c w ih =>
  have hb : (c != 32) = true := by simpa using hw c (List.mem_cons_self ..)
  have h2 := ih (fun d hd => hw d (List.mem_cons_of_mem _ hd))
  unfold fstW at h2 ⊢
  simp only [Prod.mk.injEq] at h2
  simp only [List.cons_append, List.takeWhile_cons, List.dropWhile_cons, hb, if_true, h2.1, h2.2]
def nxtW : List UInt8 → Option (List UInt8 × List UInt8)
 | [] => none
 | _ :: r => some (fstW r)
theorem nxt_sound {r w r' : List UInt8} (h : nxtW r = some (w, r')) (hr : Hd r) : r = 32 :: (w ++ r') ∧ Hd r' := by
 rcases hr with rfl | ⟨r0, rfl⟩
 ·cases h
 ·have e : fstW r0 = (w, r') := Option.some.inj h
  have h1 := fst_join r0
  have h2 := fst_hd r0
  rw [e] at h1 h2
  exact ⟨by rw [← h1], h2⟩
theorem nxt_ok {w r : List UInt8} (hw : ∀ c ∈ w, c ≠ 32) (hr : Hd r) : nxtW (32 :: (w ++ r)) = some (w, r) := congrArg some (fst_app hw hr)
def fillS (w : List UInt8) : Option (List UInt8) := if w = [] then none else if w = [45] then some [] else some w
def rdW (on : Prop) [Decidable on] (r : List UInt8) : Option (List UInt8 × List UInt8) := if on then (nxtW r).bind fun p => (fillS p.1).map fun f => (f, p.2) else some ([], r)
theorem rdW_sound {on : Prop} [Decidable on] {r f r' : List UInt8} (h : rdW on r = some (f, r')) (hr : Hd r) : r = (if on then aw f else []) ++ r' ∧ Hd r' := by
 unfold rdW at h
 split at h
 ·rename_i hon
  rw [if_pos hon]
  obtain ⟨⟨w, r1⟩, h1, h2⟩ := Option.bind_eq_some_iff.1 h
  obtain ⟨f', h3, h4⟩ := Option.map_eq_some_iff.1 h2
  simp only [Prod.mk.injEq] at h4
  obtain ⟨rfl, rfl⟩ := h4
  obtain ⟨h5, h6⟩ := nxt_sound h1 hr
  refine ⟨?_, h6⟩
  rw [h5]
  unfold fillS at h3
  simp only at h3
  split at h3
  ·cases h3
  ·rename_i hne
   split at h3
   ·rename_i h45
    cases h3
    rw [h45]
    rfl
   ·cases h3
    rw [aw_ne hne]
    rfl
 ·rename_i hon
  rw [if_neg hon]
  cases h
  exact ⟨rfl, hr⟩
theorem rdW_ok {on : Prop} [Decidable on] {f r : List UInt8} (h32 : ∀ c ∈ f, c ≠ 32) (h45 : f ≠ [45]) (hr : Hd r) (hoff : ¬ on → f = []) : rdW on ((if on then aw f else []) ++ r) = some (f, r) := by
 unfold rdW
 by_cases hon : on
 ·rw [if_pos hon, if_pos hon]
  by_cases hf : f = []
  ·subst hf
   have := nxt_ok (w := [45]) (r := r) (by intro c hc; rw [List.mem_singleton.1 hc]; decide) hr
   show (nxtW (32 :: ([45] ++ r))).bind _ = _
   rw [this]
   rfl
  ·rw [aw_ne hf]
   have := nxt_ok h32 hr
   show (nxtW (32 :: (f ++ r))).bind _ = _
   rw [this]
   show (fillS f).map _ = _
   unfold fillS
   rw [if_neg hf, if_neg h45]
   rfl
 ·rw [if_neg hon, if_neg hon, hoff hon]
  rfl
def rdN (on : Prop) [Decidable on] (r : List UInt8) : Option (Int × List UInt8) := if on then (nxtW r).bind fun p => (numS p.1).map fun v => (v, p.2) else some (0, r)
theorem rdN_sound {on : Prop} [Decidable on] {r r' : List UInt8} {v : Int} (h : rdN on r = some (v, r')) (hr : Hd r) : r = (if on then 32 :: Lib.itoa v else []) ++ r' ∧ Hd r' := by
 unfold rdN at h
 split at h
 ·rename_i hon
  rw [if_pos hon]
  obtain ⟨⟨w, r1⟩, h1, h2⟩ := Option.bind_eq_some_iff.1 h
  obtain ⟨f', h3, h4⟩ := Option.map_eq_some_iff.1 h2
  simp only [Prod.mk.injEq] at h4
  obtain ⟨rfl, rfl⟩ := h4
  obtain ⟨h5, h6⟩ := nxt_sound h1 hr
  refine ⟨?_, h6⟩
  rw [h5, num_sound h3]
  rfl
 ·rename_i hon
  rw [if_neg hon]
  cases h
  exact ⟨rfl, hr⟩
theorem rdN_ok {on : Prop} [Decidable on] {r : List UInt8} {v : Int} (h0 : 0 ≤ v) (h1 : v ≤ 9223372036854775807) (hr : Hd r) (hoff : ¬ on → v = 0) : rdN on ((if on then 32 :: Lib.itoa v else []) ++ r) = some (v, r) := by
 unfold rdN
 by_cases hon : on
 ·rw [if_pos hon, if_pos hon]
  have := nxt_ok (itoa_no32 h0) hr
  show (nxtW (32 :: (Lib.itoa v ++ r))).bind _ = _
  rw [this]
  show (numS (Lib.itoa v)).map _ = _
  rw [num_ok h0 h1]
  rfl
 ·rw [if_neg hon, if_neg hon, hoff hon]
  rfl
def opS (lo hi : Int) (w : List UInt8) : Option Int := ((List.range (hi + 1 - lo).toNat).find? (fun (i : Nat) => (sgT.getD (lo + (i : Int)).toNat ByteArray.empty).data.toList == w)).map fun (i : Nat) => lo + (i : Int)
def rdO (on : Prop) [Decidable on] (lo hi : Int) (r : List UInt8) : Option (Int × List UInt8) := if on then (nxtW r).bind fun p => (opS lo hi p.1).map fun v => (v, p.2) else some (0, r)
theorem op_sound {lo hi v : Int} {w : List UInt8} (h : opS lo hi w = some v) : (sgT.getD v.toNat ByteArray.empty).data.toList = w ∧ lo ≤ v ∧ v ≤ hi := by
 unfold opS at h
 obtain ⟨i, h1, rfl⟩ := Option.map_eq_some_iff.1 h
 have h2 := List.find?_some h1
 have h3 := List.mem_range.1 (List.mem_of_find?_eq_some h1)
 exact ⟨by simpa using h2, by omega, by omega⟩
theorem sg_uniq_all : ∀ a b : Fin 16, ((3 ≤ a.val ∧ 3 ≤ b.val) ∨ (1 ≤ a.val ∧ a.val ≤ 2 ∧ 1 ≤ b.val ∧ b.val ≤ 2)) → (sgT.getD a.val ByteArray.empty).data.toList = (sgT.getD b.val ByteArray.empty).data.toList → a = b := by decide +kernel
theorem sg_32_all : ∀ a : Fin 16, ∀ c ∈ (sgT.getD a.val ByteArray.empty).data.toList, c ≠ 32 := by decide +kernel
theorem op_ok {lo hi v : Int} (h : (lo = 1 ∧ hi = 2) ∨ (lo = 3 ∧ hi = 15)) (h1 : lo ≤ v) (h2 : v ≤ hi) : opS lo hi (sgT.getD v.toNat ByteArray.empty).data.toList = some v := by
 cases he : opS lo hi (sgT.getD v.toNat ByteArray.empty).data.toList with
 | none =>
  exfalso
  unfold opS at he
  have h3 := Option.map_eq_none_iff.1 he
  have h4 := List.find?_eq_none.1 h3 (v - lo).toNat (List.mem_range.2 (by omega))
  rw [show lo + ((v - lo).toNat : Int) = v by omega] at h4
  simp at h4
 | some u =>
  obtain ⟨e1, e2, e3⟩ := op_sound he
  have := sg_uniq_all ⟨u.toNat, by omega⟩ ⟨v.toNat, by omega⟩ (by simp only; omega) e1
  have := congrArg Fin.val this
  simp only at this
  congr 1
  omega
theorem rdO_sound {on : Prop} [Decidable on] {lo hi : Int} {r r' : List UInt8} {v : Int} (hlo : on → 1 ≤ lo ∧ hi ≤ 15) (h : rdO on lo hi r = some (v, r')) (hr : Hd r) : r = (if on then aw (sgT.getD v.toNat ByteArray.empty).data.toList else []) ++ r' ∧ Hd r' := by
 unfold rdO at h
 split at h
 ·rename_i hon
  rw [if_pos hon]
  obtain ⟨⟨w, r1⟩, h1, h2⟩ := Option.bind_eq_some_iff.1 h
  obtain ⟨f', h3, h4⟩ := Option.map_eq_some_iff.1 h2
  simp only [Prod.mk.injEq] at h4
  obtain ⟨rfl, rfl⟩ := h4
  obtain ⟨h5, h6⟩ := nxt_sound h1 hr
  refine ⟨?_, h6⟩
  obtain ⟨e1, e2, e3⟩ := op_sound h3
  have := hlo hon
  simp only at e1
  rw [h5, aw_ne (sg_ne (by omega) (by omega)), e1]
  rfl
 ·rename_i hon
  rw [if_neg hon]
  cases h
  exact ⟨rfl, hr⟩
theorem rdO_ok {on : Prop} [Decidable on] {lo hi v : Int} {r : List UInt8} (hon' : on → ((lo = 1 ∧ hi = 2) ∨ (lo = 3 ∧ hi = 15)) ∧ lo ≤ v ∧ v ≤ hi) (hr : Hd r) (hoff : ¬ on → v = 0) : rdO on lo hi ((if on then aw (sgT.getD v.toNat ByteArray.empty).data.toList else []) ++ r) = some (v, r) := by
 unfold rdO
 by_cases hon : on
 ·obtain ⟨h1, h2, h3⟩ := hon' hon
  rw [if_pos hon, if_pos hon, aw_ne (sg_ne (by omega) (by omega))]
  have := nxt_ok (sg_32_all ⟨v.toNat, by omega⟩) hr
  show (nxtW (32 :: ((sgT.getD v.toNat ByteArray.empty).data.toList ++ r))).bind _ = _
  rw [this]
  show (opS lo hi (sgT.getD v.toNat ByteArray.empty).data.toList).map _ = _
  rw [op_ok h1 h2 h3]
  rfl
 ·rw [if_neg hon, if_neg hon, hoff hon]
  rfl
open Classical in
noncomputable def txtS (w : List UInt8) : Option (List UInt8) := if h : ∃ t : List UInt8, t.length ≤ 200 ∧ Lx.qt t = w then some h.choose else none
def cutB : List UInt8 → List UInt8
 | [] => []
 | c :: r => if c = 32 then r else c :: r
noncomputable def rdT (on : Prop) [Decidable on] (r : List UInt8) : Option (List UInt8 × List UInt8) := if on then (txtS (cutB r)).map fun t => (t, []) else some ([], r)
theorem txt_sound {w t : List UInt8} (h : txtS w = some t) : Lx.qt t = w ∧ t.length ≤ 200 := by
 unfold txtS at h
 split at h
 ·rename_i hx
  cases h
  exact ⟨hx.choose_spec.2, hx.choose_spec.1⟩
 ·cases h
theorem rdT_sound {on : Prop} [Decidable on] {r t r' : List UInt8} (h : rdT on r = some (t, r')) (hr : Hd r) : r = (if on then aw (Lx.qt t) else []) ++ r' ∧ Hd r' := by
 unfold rdT at h
 split at h
 ·rename_i hon
  rw [if_pos hon]
  obtain ⟨t', h1, h2⟩ := Option.map_eq_some_iff.1 h
  simp only [Prod.mk.injEq] at h2
  obtain ⟨rfl, rfl⟩ := h2
  have h3 := (txt_sound h1).1
  rcases hr with rfl | ⟨r0, rfl⟩
  ·exact absurd h3 (qt_ne _)
  ·refine ⟨?_, Or.inl rfl⟩
   rw [aw_ne (qt_ne _), List.append_nil, h3]
   rfl
 ·rename_i hon
  rw [if_neg hon]
  cases h
  exact ⟨rfl, hr⟩
theorem rdT_ok (hq : ∀ a b : List UInt8, Lx.qt a = Lx.qt b → a = b) {on : Prop} [Decidable on] {t : List UInt8} (h2 : t.length ≤ 200) (hoff : ¬ on → t = []) : rdT on ((if on then aw (Lx.qt t) else []) ++ []) = some (t, []) := by
 unfold rdT
 by_cases hon : on
 ·rw [if_pos hon, if_pos hon, aw_ne (qt_ne _), List.append_nil]
  show (txtS (Lx.qt t)).map _ = _
  have hx : ∃ u : List UInt8, u.length ≤ 200 ∧ Lx.qt u = Lx.qt t := ⟨t, h2, rfl⟩
  unfold txtS
  rw [dif_pos hx]
  have := hq _ _ hx.choose_spec.2
  simp only [Option.map_some, this]
 ·rw [if_neg hon, if_neg hon, hoff hon]
  rfl
def kndS (w : List UInt8) : Option Nat := (List.range 31).find? (fun k => (wds.getD k ByteArray.empty).data.toList == w)
theorem knd_sound {w : List UInt8} {k : Nat} (h : kndS w = some k) : (wds.getD k ByteArray.empty).data.toList = w ∧ k < 31 := by
 unfold kndS at h
 exact ⟨by simpa using List.find?_some h, List.mem_range.1 (List.mem_of_find?_eq_some h)⟩
theorem knd_ok_all : ∀ k : Fin 31, (shp (k.val : Int)).2 = true → kndS (wds.getD k.val ByteArray.empty).data.toList = some k.val ∧ (∀ c ∈ (wds.getD k.val ByteArray.empty).data.toList, c ≠ 32) := by decide +kernel
noncomputable def wordsS (told : List UInt8) : Option Nd :=
 (kndS (fstW told).1).bind fun k =>
 (rdW ((shp (k : Int)).1.label ≠ 0) (fstW told).2).bind fun q1 =>
 (rdN (0 < (shp (k : Int)).1.mostInt) q1.2).bind fun q2 =>
 (rdW ((shp (k : Int)).1.name ≠ 0) q2.2).bind fun q3 =>
 (rdW ((shp (k : Int)).1.typ ≠ 0) q3.2).bind fun q4 =>
 (rdO (0 < (shp (k : Int)).1.lastOp) (shp (k : Int)).1.firstOp (shp (k : Int)).1.lastOp q4.2).bind fun q5 =>
 (rdT (0 < (shp (k : Int)).1.longest) q5.2).bind fun q6 =>
 if q6.2 = [] then some ⟨k, 0, ⟨q3.1.toArray⟩, ⟨q1.1.toArray⟩, ⟨q4.1.toArray⟩, q5.1, q2.1, ⟨q6.1.toArray⟩, 0⟩ else none
theorem shp_op_all : ∀ k : Fin 31, 0 < (shp (k.val : Int)).1.lastOp → ((shp (k.val : Int)).1.firstOp = 1 ∧ (shp (k.val : Int)).1.lastOp = 2) ∨ ((shp (k.val : Int)).1.firstOp = 3 ∧ (shp (k.val : Int)).1.lastOp = 15) := by decide +kernel
theorem words_sound {told : List UInt8} {x : Nd} (h : wordsS told = some x) : told = lnB (shp x.kind).1 x ∧ x.pos = 0 ∧ x.size = 0 := by
 unfold wordsS at h
 obtain ⟨k, h0, h⟩ := Option.bind_eq_some_iff.1 h
 obtain ⟨⟨lb, r1⟩, h1, h⟩ := Option.bind_eq_some_iff.1 h
 obtain ⟨⟨it, r2⟩, h2, h⟩ := Option.bind_eq_some_iff.1 h
 obtain ⟨⟨nm, r3⟩, h3, h⟩ := Option.bind_eq_some_iff.1 h
 obtain ⟨⟨ty, r4⟩, h4, h⟩ := Option.bind_eq_some_iff.1 h
 obtain ⟨⟨op, r5⟩, h5, h⟩ := Option.bind_eq_some_iff.1 h
 obtain ⟨⟨tx, r6⟩, h6, h⟩ := Option.bind_eq_some_iff.1 h
 simp only at h1 h2 h3 h4 h5 h6 h
 split at h
 ·rename_i hr6
  cases h
  obtain ⟨e0, hk⟩ := knd_sound h0
  obtain ⟨e1, g1⟩ := rdW_sound h1 (fst_hd told)
  obtain ⟨e2, g2⟩ := rdN_sound h2 g1
  obtain ⟨e3, g3⟩ := rdW_sound h3 g2
  obtain ⟨e4, g4⟩ := rdW_sound h4 g3
  obtain ⟨e5, g5⟩ := rdO_sound (fun hon => by have := shp_op_all ⟨k, hk⟩ hon; simp only at this; omega) h5 g4
  obtain ⟨e6, _⟩ := rdT_sound h6 g5
  refine ⟨?_, rfl, rfl⟩
  have hj := fst_join told
  rw [← e0, e1, e2, e3, e4, e5, e6, hr6] at hj
  rw [← hj]
  unfold lnB wordS pLb pIt pNm pTy pOp pTx
  simp only [Int.toNat_natCast, ite_not, List.append_nil, List.append_assoc]
 ·cases h
namespace Lx
def hv (a : UInt8) : Nat := hexs.data.toList.findIdx (fun c => c == a)
theorem hv_all : ∀ n : Fin 16, hv (hx n.val) = n.val ∧ 32 ≤ (hx n.val).toNat ∧ (hx n.val).toNat ≤ 126 := by decide +kernel
def unp : List UInt8 → UInt8
 | [] => 0
 | c :: r => if c ≠ 92 then c else match r with
  | [] => 0
  | d :: r => if d = 110 then 10 else if d = 34 ∨ d = 92 then d else match r with
   | a :: b :: _ => UInt8.ofNat (16 * hv a + hv b)
   | _ => 0
theorem unp_pc (c : UInt8) (rest : List UInt8) : unp (pc c ++ rest) = c := by
 have hc := UInt8.toNat_lt c
 unfold pc
 by_cases h1 : c = 10
 ·rw [if_pos h1]; subst h1; simp [unp]
 ·rw [if_neg h1]
  by_cases h2 : c = 34 ∨ c = 92
  ·rw [if_pos h2]
   have h3 : c ≠ 110 := by rcases h2 with rfl | rfl <;> decide
   simp only [List.cons_append, List.nil_append, unp]
   rw [if_neg (by simp), if_neg h3, if_pos h2]
  ·rw [if_neg h2]
   by_cases h3 : 32 ≤ c.toNat ∧ c.toNat ≤ 126
   ·rw [if_pos h3]
    simp only [List.cons_append, List.nil_append, unp]
    rw [if_pos (fun e => h2 (Or.inr e))]
   ·rw [if_neg h3]
    simp only [List.cons_append, List.nil_append, unp]
    rw [if_neg (by simp), if_neg (by decide), if_neg (by decide)]
    have g1 := (hv_all ⟨c.toNat / 16, by omega⟩).1
    have g2 := (hv_all ⟨c.toNat % 16, by omega⟩).1
    simp only at g1 g2
    rw [g1, g2]
    apply UInt8.toNat_inj.1
    rw [UInt8.toNat_ofNat_of_lt' (by show _ < 256; omega)]
    omega
theorem pc_head (c : UInt8) : ∃ d r, pc c = d :: r ∧ d ≠ 34 := by
 unfold pc
 by_cases h1 : c = 10
 ·rw [if_pos h1]; exact ⟨_, _, rfl, by decide⟩
 ·rw [if_neg h1]
  by_cases h2 : c = 34 ∨ c = 92
  ·rw [if_pos h2]; exact ⟨_, _, rfl, by decide⟩
  ·rw [if_neg h2]
   by_cases h3 : 32 ≤ c.toNat ∧ c.toNat ≤ 126
   ·rw [if_pos h3]; exact ⟨_, _, rfl, fun e => h2 (Or.inl e)⟩
   ·rw [if_neg h3]; exact ⟨_, _, rfl, by decide⟩
theorem pc_bytes (c : UInt8) : ∀ d ∈ pc c, 32 ≤ d.toNat ∧ d.toNat ≤ 126 := by
 have hc := UInt8.toNat_lt c
 unfold pc
 by_cases h1 : c = 10
 ·rw [if_pos h1]; decide
 ·rw [if_neg h1]
  by_cases h2 : c = 34 ∨ c = 92
  ·rw [if_pos h2]; rcases h2 with rfl | rfl <;> decide
  ·rw [if_neg h2]
   by_cases h3 : 32 ≤ c.toNat ∧ c.toNat ≤ 126
   ·rw [if_pos h3]; intro d hd; rw [List.mem_singleton.1 hd]; exact h3
   ·rw [if_neg h3]
    intro d hd
    simp only [List.mem_cons, List.not_mem_nil, or_false] at hd
    rcases hd with rfl | rfl | rfl | rfl
    ·decide
    ·decide
    ·exact (hv_all ⟨c.toNat / 16, by omega⟩).2
    ·exact (hv_all ⟨c.toNat % 16, by omega⟩).2
theorem pcs_cons (c : UInt8) (l : List UInt8) : pcs (c :: l) = pc c ++ pcs l := List.flatMap_cons
theorem qt_bytes (l : List UInt8) : ∀ d ∈ qt l, 32 ≤ d.toNat ∧ d.toNat ≤ 126 := by
 intro d hd
 unfold qt at hd
 rcases List.mem_cons.1 hd with rfl | hd
 ·decide
 ·rcases List.mem_append.1 hd with hd | hd
  ·unfold pcs at hd
   obtain ⟨c, _, hc⟩ := List.mem_flatMap.1 hd
   exact pc_bytes c d hc
  ·rw [List.mem_singleton.1 hd]; decide
theorem pcs_inj : ∀ (a b : List UInt8), pcs a ++ [34] = pcs b ++ [34] → a = b
 | [], [], _ => rfl
 | [], d :: b, h => by
  obtain ⟨x, r, e, hx⟩ := pc_head d
  rw [pcs_cons, e] at h
  simp [pcs] at h
 | c :: a, [], h => by
  obtain ⟨x, r, e, hx⟩ := pc_head c
  rw [pcs_cons, e] at h
  simp [pcs] at h
 | c :: a, d :: b, h => by
  rw [pcs_cons, pcs_cons, List.append_assoc, List.append_assoc] at h
  have h1 := unp_pc c (pcs a ++ [34])
  rw [h, unp_pc d] at h1
  subst h1
  rw [pcs_inj a b (List.append_cancel_left h)]
theorem qt_inj (a b : List UInt8) (h : qt a = qt b) : a = b := by
 unfold qt at h
 rw [List.cons.injEq] at h
 exact pcs_inj a b h.2
end Lx
def Seen (l : List UInt8) : Prop := ∀ c ∈ l, 32 < c.toNat ∧ c.toNat ≤ 126
theorem Seen.no32 {l : List UInt8} (h : Seen l) : ∀ c ∈ l, c ≠ 32 := fun c hc e => by
 have := h c hc
 subst e
 exact absurd this.1 (by decide)
theorem name_seen {t : ByteArray} (h : nameS t = true) : Seen t.data.toList ∧ t.data.toList ≠ [45] := by
 unfold nameS at h
 simp only [Bool.and_eq_true] at h
 obtain ⟨⟨⟨_, h2⟩, _⟩, h4⟩ := h
 refine ⟨fun c hc => ?_, fun e => ?_⟩
 ·have := List.all_eq_true.1 h4 c hc
  unfold innerB letterB digitB at this
  simp only [Bool.or_eq_true, Bool.and_eq_true, decide_eq_true_eq, beq_iff_eq] at this
  omega
 ·rw [e] at h2
  exact absurd h2 (by decide)
theorem base_seen {t : ByteArray} (h : baseB t = true) : Seen t.data.toList ∧ t.data.toList ≠ [45] := by
 unfold baseB at h
 rw [toL] at h
 simp only [Bool.or_eq_true, beq_iff_eq] at h
 rcases h with (h | h) | h <;> rw [h] <;> exact ⟨by unfold Seen; decide, by decide⟩
theorem brac_eq {t : ByteArray} (h : bracB t = true) : t.data.toList = 91 :: ((t.extract 1 (t.size - 1)).data.toList ++ [93]) := by
 unfold bracB at h
 simp only [Bool.and_eq_true, decide_eq_true_eq, beq_iff_eq] at h
 obtain ⟨⟨h1, h2⟩, h3⟩ := h
 have hs : t.size = t.data.toList.length := Lib.size_eq t
 have he : (t.extract 1 (t.size - 1)).data.toList = (t.data.toList.take (t.size - 1)).drop 1 := by
  simp [ByteArray.data_extract, Array.toList_extract, List.extract, List.drop_take]
 rw [he]
 generalize t.data.toList = l at *
 rw [hs] at h1 h3 ⊢
 cases l with
 | nil => simp at h1
 | cons a l =>
  simp only [List.getD_cons_zero] at h2
  subst h2
  simp only [List.length_cons, Nat.add_sub_cancel] at h1 h3 ⊢
  rcases List.eq_nil_or_concat l with rfl | ⟨l, b, rfl⟩
  ·simp at h1
  ·simp at h3
   subst h3
   simp
theorem typ_seen : ∀ (f : Nat) (t : ByteArray), typF f t = true → Seen t.data.toList ∧ t.data.toList ≠ [45]
 | 0, t, h => base_seen h
 | f + 1, t, h => by
  cases hb : bracB t with
  | true =>
   rw [typ_go f t hb] at h
   obtain ⟨h1, _⟩ := typ_seen f _ h
   rw [brac_eq hb]
   refine ⟨fun c hc => ?_, fun e => by simp at e⟩
   rcases List.mem_cons.1 hc with rfl | hc
   ·decide
   ·rcases List.mem_append.1 hc with hc | hc
    ·exact h1 c hc
    ·rw [List.mem_singleton.1 hc]; decide
  | false =>
   rw [typ_stop (f + 1) t hb] at h
   exact base_seen h
theorem fits_seen {w : Int} {t : ByteArray} {good : ByteArray → Bool} (hg : ∀ t, good t = true → Seen t.data.toList ∧ t.data.toList ≠ [45]) (h : fitsS w t good = true) : Seen t.data.toList ∧ t.data.toList ≠ [45] ∧ (w = 0 → t.data.toList = []) := by
 unfold fitsS at h
 have hs := Lib.size_eq t
 split at h
 ·have : t.data.toList = [] := List.eq_nil_of_length_eq_zero (by omega)
  rw [this]
  exact ⟨fun c hc => by simp at hc, by simp, fun _ => rfl⟩
 ·obtain ⟨h1, h2⟩ := Bool.and_eq_true_iff.1 h
  obtain ⟨g1, g2⟩ := hg t h2
  refine ⟨g1, g2, fun e => ?_⟩
  subst e
  exact absurd h1 (by decide)
structure Sound (x : Nd) : Prop where
 kn : (shp x.kind).2 = true
 p0 : 0 ≤ x.pos
 p1 : x.pos ≤ 9223372036854775807
 lb : Seen x.label.data.toList ∧ x.label.data.toList ≠ [45] ∧ ((shp x.kind).1.label = 0 → x.label.data.toList = [])
 nm : Seen x.name.data.toList ∧ x.name.data.toList ≠ [45] ∧ ((shp x.kind).1.name = 0 → x.name.data.toList = [])
 ty : Seen x.typ.data.toList ∧ x.typ.data.toList ≠ [45] ∧ ((shp x.kind).1.typ = 0 → x.typ.data.toList = [])
 i0 : 0 ≤ x.int
 i1 : x.int ≤ 9223372036854775807
 i2 : ¬ 0 < (shp x.kind).1.mostInt → x.int = 0
 op : 0 < (shp x.kind).1.lastOp → (shp x.kind).1.firstOp ≤ x.op ∧ x.op ≤ (shp x.kind).1.lastOp
 o0 : ¬ 0 < (shp x.kind).1.lastOp → x.op = 0
 tx : x.text.data.toList.length ≤ 200
 t0 : ¬ 0 < (shp x.kind).1.longest → x.text.data.toList = []
theorem sound_of {L : List Nd} (ht : treeS nameS typeS L = true) (hr : Rng L) (hp : RngP L) {n : Nat} (hn : n < L.length) : Sound (nd L n) := by
 have hf := (tree_parts ht).2 n hn
 unfold fit at hf
 simp only [Bool.and_eq_true] at hf
 obtain ⟨⟨h1, h2⟩, _⟩ := hf
 obtain ⟨b1, b2, b3, b4⟩ := shp_bounds _ h1
 unfold fieldsS at h2
 simp only [Bool.and_eq_true, decide_eq_true_eq] at h2
 obtain ⟨⟨⟨⟨⟨⟨⟨⟨a1, a2⟩, a3⟩, a4⟩, a5⟩, a6⟩, a7⟩, a8⟩, a9⟩ := h2
 have hs := Lib.size_eq (nd L n).text
 exact ⟨h1, a1, hp n hn, fits_seen (fun _ => name_seen) a2, fits_seen (fun _ => name_seen) a3, fits_seen (fun t => typ_seen 4 t) a4, by omega, hr n hn, fun q => by omega, fun _ => ⟨a7, a8⟩, fun q => by omega, by omega, fun q => List.eq_nil_of_length_eq_zero (by omega)⟩
theorem hd_if {on : Prop} [Decidable on] {w r : List UInt8} (hr : Hd r) : Hd ((if on then 32 :: w else []) ++ r) := by
 split
 ·exact Or.inr ⟨_, rfl⟩
 ·exact hr
theorem hd_aw {on : Prop} [Decidable on] {w r : List UInt8} (hr : Hd r) : Hd ((if on then aw w else []) ++ r) := by
 split
 ·exact Or.inr ⟨_, rfl⟩
 ·exact hr
theorem mkB (b : ByteArray) : (⟨b.data.toList.toArray⟩ : ByteArray) = b := by cases b; simp
theorem words_ok {x : Nd} (h : Sound x) : wordsS (lnB (shp x.kind).1 x) = some { x with pos := 0, size := 0 } := by
 obtain ⟨kd, ps, nm, lb, ty, op, it, tx, zz⟩ := x
 obtain ⟨kn, _, _, hlb, hnm, hty, i0, i1, i2, hop, o0, htx, t0⟩ := h
 simp only at kn hlb hnm hty i0 i1 i2 hop o0 htx t0 ⊢
 obtain ⟨k0, k1⟩ := shp_range _ kn
 obtain ⟨k, rfl⟩ : ∃ k : Nat, kd = (k : Int) := ⟨kd.toNat, by omega⟩
 have hk : k < 31 := by omega
 obtain ⟨g1, g2⟩ := knd_ok_all ⟨k, hk⟩ kn
 simp only at g1 g2
 have h6 := rdT_ok Lx.qt_inj (on := 0 < (shp (k : Int)).1.longest) htx t0
 have d6 : Hd ((if 0 < (shp (k : Int)).1.longest then aw (Lx.qt tx.data.toList) else []) ++ []) := hd_aw (Or.inl rfl)
 have h5 := rdO_ok (on := 0 < (shp (k : Int)).1.lastOp) (lo := (shp (k : Int)).1.firstOp) (hi := (shp (k : Int)).1.lastOp) (v := op) (fun q => ⟨shp_op_all ⟨k, hk⟩ q, hop q⟩) d6 o0
 have d5 := hd_aw (on := 0 < (shp (k : Int)).1.lastOp) (w := (sgT.getD op.toNat ByteArray.empty).data.toList) d6
 have h4 := rdW_ok (on := (shp (k : Int)).1.typ ≠ 0) hty.1.no32 hty.2.1 d5 (fun q => hty.2.2 (Decidable.not_not.1 q))
 have d4 := hd_aw (on := (shp (k : Int)).1.typ ≠ 0) (w := ty.data.toList) d5
 have h3 := rdW_ok (on := (shp (k : Int)).1.name ≠ 0) hnm.1.no32 hnm.2.1 d4 (fun q => hnm.2.2 (Decidable.not_not.1 q))
 have d3 := hd_aw (on := (shp (k : Int)).1.name ≠ 0) (w := nm.data.toList) d4
 have h2 := rdN_ok (on := 0 < (shp (k : Int)).1.mostInt) i0 i1 d3 i2
 have d2 := hd_if (on := 0 < (shp (k : Int)).1.mostInt) (w := Lib.itoa it) d3
 have h1 := rdW_ok (on := (shp (k : Int)).1.label ≠ 0) hlb.1.no32 hlb.2.1 d2 (fun q => hlb.2.2 (Decidable.not_not.1 q))
 have d1 := hd_aw (on := (shp (k : Int)).1.label ≠ 0) (w := lb.data.toList) d2
 have h0 := fst_app g2 d1
 have e : lnB (shp (k : Int)).1 ⟨(k : Int), ps, nm, lb, ty, op, it, tx, zz⟩ = (wds.getD k ByteArray.empty).data.toList ++ ((if (shp (k : Int)).1.label ≠ 0 then aw lb.data.toList else []) ++ ((if 0 < (shp (k : Int)).1.mostInt then 32 :: Lib.itoa it else []) ++ ((if (shp (k : Int)).1.name ≠ 0 then aw nm.data.toList else []) ++ ((if (shp (k : Int)).1.typ ≠ 0 then aw ty.data.toList else []) ++ ((if 0 < (shp (k : Int)).1.lastOp then aw (sgT.getD op.toNat ByteArray.empty).data.toList else []) ++ ((if 0 < (shp (k : Int)).1.longest then aw (Lx.qt tx.data.toList) else []) ++ [])))))) := by
  unfold lnB wordS pLb pIt pNm pTy pOp pTx
  simp only [Int.toNat_natCast, ite_not, List.append_nil, List.append_assoc]
 rw [e]
 unfold wordsS
 rw [h0]
 simp only [g1, Option.bind_some, h1, h2, h3, h4, h5, h6, if_true, mkB]
def lastSp : List UInt8 → Option (List UInt8 × List UInt8)
 | [] => none
 | c :: r => match lastSp r with
  | some p => some (c :: p.1, p.2)
  | none => if c = 32 then (match r with | d :: b => if d = 64 then some ([], b) else none | [] => none) else none
theorem last_sound : ∀ {t a b : List UInt8}, lastSp t = some (a, b) → t = a ++ 32 :: 64 :: b
 | [], _, _, h => by cases h
 | c :: r, a, b, h => by
  unfold lastSp at h
  cases hr : lastSp r with
  | some p =>
   rw [hr] at h
   simp only [Option.some.injEq, Prod.mk.injEq] at h
   obtain ⟨rfl, rfl⟩ := h
   rw [last_sound (a := p.1) (b := p.2) hr]
   rfl
  | none =>
   rw [hr] at h
   simp only at h
   split at h
   ·rename_i hc
    subst hc
    split at h
    ·rename_i d b'
     split at h
     ·rename_i hd
      subst hd
      simp only [Option.some.injEq, Prod.mk.injEq] at h
      obtain ⟨rfl, rfl⟩ := h
      rfl
     ·cases h
    ·cases h
   ·cases h
theorem last_none {b : List UInt8} (h : ∀ c ∈ b, c ≠ 32) : lastSp b = none := by
 cases hs : lastSp b with
 | none => rfl
 | some p =>
  have := last_sound (a := p.1) (b := p.2) hs
  exact absurd rfl (h 32 (by rw [this]; simp))
theorem last_ok {b : List UInt8} (h : ∀ c ∈ b, c ≠ 32) : ∀ a : List UInt8, lastSp (a ++ 32 :: 64 :: b) = some (a, b)
 | [] => by
  have h1 : lastSp (64 :: b) = none := last_none fun c hc => (List.mem_cons.1 hc).elim (fun e => by subst e; decide) (h c)
  show lastSp (32 :: 64 :: b) = _
  unfold lastSp
  rw [h1]
  simp
 | c :: a => by
  show lastSp (c :: (a ++ 32 :: 64 :: b)) = _
  unfold lastSp
  rw [last_ok h a]
def told (line : List UInt8) : List UInt8 := line.dropWhile (fun c => c == 32)
def bln (line : List UInt8) : Nat := line.length - (told line).length
theorem told_le (line : List UInt8) : (told line).length ≤ line.length := (List.dropWhile_sublist _).length_le
theorem bln_eq : ∀ line : List UInt8, line = List.replicate (bln line) 32 ++ told line
 | [] => rfl
 | c :: l => by
  by_cases hc : c = 32
  ·subst hc
   have e : told (32 :: l) = told l := rfl
   have := told_le l
   have e2 : bln (32 :: l) = bln l + 1 := by unfold bln; rw [e, List.length_cons]; omega
   rw [e2, e, List.replicate_succ, List.cons_append, ← bln_eq l]
  ·have e : told (c :: l) = c :: l := by
    unfold told
    rw [List.dropWhile_cons, if_neg (by simpa using hc)]
   have e2 : bln (c :: l) = 0 := by unfold bln; rw [e]; omega
   rw [e2, e]
   rfl
theorem told_blk {t : List UInt8} (ht : ∀ r, t ≠ 32 :: r) : ∀ n, told (List.replicate n 32 ++ t) = t
 | 0 => by
  cases t with
  | nil => rfl
  | cons c t =>
   show (c :: t).dropWhile _ = _
   rw [List.dropWhile_cons, if_neg (by simpa using fun e => ht t (by rw [e]))]
 | n + 1 => by
  rw [List.replicate_succ]
  exact told_blk ht n
noncomputable def lineS (line : List UInt8) : Option (Nd × Nat) :=
 if bln line % 2 ≠ 0 then none
 else (lastSp (told line)).bind fun p => (wordsS p.1).bind fun x => (numS p.2).map fun v => ({ x with pos := v }, bln line / 2)
theorem line_sound {line : List UInt8} {x : Nd} {d : Nat} (h : lineS line = some (x, d)) : line ++ [10] = blk d ++ lnS x ∧ x.size = 0 := by
 unfold lineS at h
 split at h
 ·cases h
 ·rename_i hb
  obtain ⟨⟨a, b⟩, h1, h⟩ := Option.bind_eq_some_iff.1 h
  obtain ⟨y, h2, h⟩ := Option.bind_eq_some_iff.1 h
  obtain ⟨v, h3, h⟩ := Option.map_eq_some_iff.1 h
  simp only [Prod.mk.injEq] at h
  obtain ⟨rfl, rfl⟩ := h
  simp only at h2 h3
  obtain ⟨e1, e2, e3⟩ := words_sound h2
  refine ⟨?_, e3⟩
  have e4 := last_sound h1
  have e5 := bln_eq line
  have e6 := num_sound h3
  unfold blk lnS
  rw [show 2 * (bln line / 2) = bln line by omega]
  show line ++ [10] = List.replicate (bln line) 32 ++ (lnB (shp y.kind).1 { y with pos := v } ++ [32, 64] ++ Lib.itoa v ++ [10])
  have e7 : lnB (shp y.kind).1 { y with pos := v } = a := by rw [e1]; rfl
  rw [e7, e6]
  conv => lhs; rw [e5, e4]
  simp only [List.append_assoc, List.cons_append, List.nil_append]
theorem wd_head_all : ∀ k : Fin 31, (shp (k.val : Int)).2 = true → (wds.getD k.val ByteArray.empty).data.toList ≠ [] ∧ ∀ c ∈ (wds.getD k.val ByteArray.empty).data.toList, 32 < c.toNat ∧ c.toNat ≤ 126 := by decide +kernel
theorem word_seen {x : Nd} (h : (shp x.kind).2 = true) : wordS x ≠ [] ∧ Seen (wordS x) := by
 obtain ⟨k0, k1⟩ := shp_range _ h
 have := wd_head_all ⟨x.kind.toNat, by omega⟩ (by simp only [show ((x.kind.toNat : Nat) : Int) = x.kind by omega]; exact h)
 exact this
theorem lnB_head {x : Nd} (h : (shp x.kind).2 = true) (s : List UInt8) : ∀ r, lnB (shp x.kind).1 x ++ s ≠ 32 :: r := by
 obtain ⟨h1, h2⟩ := word_seen h
 intro r e
 unfold lnB at e
 cases hw : wordS x with
 | nil => exact h1 hw
 | cons c t =>
  rw [hw] at e
  simp only [List.cons_append, List.cons.injEq] at e
  exact h2.no32 c (by rw [hw]; exact List.mem_cons_self ..) e.1
theorem line_ok {x : Nd} (h : Sound x) (d : Nat) : lineS (blk d ++ (lnB (shp x.kind).1 x ++ [32, 64] ++ Lib.itoa x.pos)) = some ({ x with size := 0 }, d) := by
 have e1 : lnB (shp x.kind).1 x ++ [32, 64] ++ Lib.itoa x.pos = lnB (shp x.kind).1 x ++ 32 :: 64 :: Lib.itoa x.pos := by simp
 rw [e1]
 have e2 : told (blk d ++ (lnB (shp x.kind).1 x ++ 32 :: 64 :: Lib.itoa x.pos)) = lnB (shp x.kind).1 x ++ 32 :: 64 :: Lib.itoa x.pos := told_blk (lnB_head h.kn _) (2 * d)
 have e3 : bln (blk d ++ (lnB (shp x.kind).1 x ++ 32 :: 64 :: Lib.itoa x.pos)) = 2 * d := by
  unfold bln
  rw [e2, List.length_append, blk_len]
  omega
 unfold lineS
 rw [e3, if_neg (by omega), e2, last_ok (itoa_no32 h.p0), Option.bind_some]
 simp only
 rw [words_ok h, Option.bind_some, num_ok h.p0 h.p1, Option.map_some, show 2 * d / 2 = d by omega]
theorem no10_seen {l : List UInt8} (h : ∀ c ∈ l, 32 ≤ c.toNat ∧ c.toNat ≤ 126) : ∀ c ∈ l, c ≠ 10 := fun c hc e => by
 have := h c hc
 subst e
 exact absurd this.1 (by decide)
theorem aw_seen {l : List UInt8} (h : ∀ c ∈ l, 32 ≤ c.toNat ∧ c.toNat ≤ 126) : ∀ c ∈ aw l, 32 ≤ c.toNat ∧ c.toNat ≤ 126 := by
 by_cases e : l = []
 ·subst e
  intro c hc
  have : c = 32 ∨ c = 45 := by simpa [aw, orS] using hc
  rcases this with rfl | rfl <;> decide
 ·rw [aw_ne e]
  intro c hc
  rcases List.mem_cons.1 hc with rfl | hc
  ·decide
  ·exact h c hc
theorem itoa_seen {v : Int} (h : 0 ≤ v) : ∀ c ∈ Lib.itoa v, 32 ≤ c.toNat ∧ c.toNat ≤ 126 := by
 rw [itoa_nat h]
 intro c hc
 have := (dec_digits v.toNat).1 c hc
 omega
theorem Seen.le {l : List UInt8} (h : Seen l) : ∀ c ∈ l, 32 ≤ c.toNat ∧ c.toNat ≤ 126 := fun c hc => by have := h c hc; omega
theorem sg_seen_all : ∀ a : Fin 16, ∀ c ∈ (sgT.getD a.val ByteArray.empty).data.toList, 32 ≤ c.toNat ∧ c.toNat ≤ 126 := by decide +kernel
theorem seen_app {a b : List UInt8} (ha : ∀ c ∈ a, 32 ≤ c.toNat ∧ c.toNat ≤ 126) (hb : ∀ c ∈ b, 32 ≤ c.toNat ∧ c.toNat ≤ 126) : ∀ c ∈ a ++ b, 32 ≤ c.toNat ∧ c.toNat ≤ 126 := fun c hc => (List.mem_append.1 hc).elim (ha c) (hb c)
theorem seen_if {on : Prop} [Decidable on] {a b : List UInt8} (ha : on → ∀ c ∈ a, 32 ≤ c.toNat ∧ c.toNat ≤ 126) (hb : ¬ on → ∀ c ∈ b, 32 ≤ c.toNat ∧ c.toNat ≤ 126) : ∀ c ∈ (if on then a else b), 32 ≤ c.toNat ∧ c.toNat ≤ 126 := by
 split
 ·rename_i h; exact ha h
 ·rename_i h; exact hb h
theorem seen_nil : ∀ c ∈ ([] : List UInt8), 32 ≤ c.toNat ∧ c.toNat ≤ 126 := fun c hc => by simp at hc
theorem lnB_seen {x : Nd} (h : Sound x) : ∀ c ∈ lnB (shp x.kind).1 x, 32 ≤ c.toNat ∧ c.toNat ≤ 126 := by
 obtain ⟨kn, _, _, hlb, hnm, hty, i0, i1, i2, hop, o0, htx, t0⟩ := h
 obtain ⟨b1, b2, b3, b4⟩ := shp_bounds _ kn
 unfold lnB pLb pIt pNm pTy pOp pTx
 refine seen_app (seen_app (seen_app (seen_app (seen_app (seen_app (word_seen kn).2.le ?_) ?_) ?_) ?_) ?_) ?_
 ·exact seen_if (fun _ => seen_nil) (fun _ => aw_seen hlb.1.le)
 ·refine seen_if (fun _ => ?_) (fun _ => seen_nil)
  intro c hc
  rcases List.mem_cons.1 hc with rfl | hc
  ·decide
  ·exact itoa_seen i0 c hc
 ·exact seen_if (fun _ => seen_nil) (fun _ => aw_seen hnm.1.le)
 ·exact seen_if (fun _ => seen_nil) (fun _ => aw_seen hty.1.le)
 ·refine seen_if (fun q => ?_) (fun _ => seen_nil)
  have := hop q
  exact aw_seen (sg_seen_all ⟨x.op.toNat, by omega⟩)
 ·exact seen_if (fun _ => aw_seen (Lx.qt_bytes _)) (fun _ => seen_nil)
theorem line_no10 {x : Nd} (h : Sound x) (d : Nat) : ∀ c ∈ blk d ++ (lnB (shp x.kind).1 x ++ [32, 64] ++ Lib.itoa x.pos), c ≠ 10 := by
 refine no10_seen (seen_app ?_ (seen_app (seen_app (lnB_seen h) ?_) (itoa_seen h.p0)))
 ·intro c hc
  unfold blk at hc
  rw [(List.mem_replicate.1 hc).2]
  decide
 ·decide
def cut10 (t : List UInt8) : Option (List UInt8 × List UInt8) := match t.dropWhile (fun c => c != 10) with
 | [] => none
 | _ :: r => some (t.takeWhile (fun c => c != 10), r)
theorem cut10_sound {t a b : List UInt8} (h : cut10 t = some (a, b)) : t = a ++ 10 :: b := by
 unfold cut10 at h
 split at h
 ·cases h
 ·rename_i c r hd
  simp only [Option.some.injEq, Prod.mk.injEq] at h
  obtain ⟨rfl, rfl⟩ := h
  have h1 := List.takeWhile_append_dropWhile (p := fun c : UInt8 => c != 10) (l := t)
  have h2 : c = 10 := by
   have := List.head?_dropWhile_not (fun c : UInt8 => c != 10) t
   rw [hd] at this
   simpa using this
  rw [hd, h2] at h1
  exact h1.symm
theorem cut10_ok {a : List UInt8} (h : ∀ c ∈ a, c ≠ 10) (b : List UInt8) : cut10 (a ++ 10 :: b) = some (a, b) := by
 have h1 : (a ++ 10 :: b).dropWhile (fun c => c != 10) = 10 :: b := by
  rw [List.dropWhile_append_of_pos (fun c hc => by simpa using h c hc)]
  rfl
 have h2 : (a ++ 10 :: b).takeWhile (fun c => c != 10) = a := by
  rw [List.takeWhile_append_of_pos (fun c hc => by simpa using h c hc)]
  simp
 unfold cut10
 rw [h1, h2]
noncomputable def rowsS : Nat → List UInt8 → Option (List (Nd × Nat))
 | _, [] => some []
 | 0, _ :: _ => none
 | f + 1, c :: t => (cut10 (c :: t)).bind fun p => (lineS p.1).bind fun q => (rowsS f p.2).map fun ps => q :: ps
def flatP (ps : List (Nd × Nat)) : List UInt8 := ps.flatMap fun p => blk p.2 ++ lnS p.1
theorem rows_sound : ∀ {f : Nat} {t : List UInt8} {ps : List (Nd × Nat)}, rowsS f t = some ps → t = flatP ps ∧ ∀ p ∈ ps, p.1.size = 0
 | f, [], ps, h => by
  have : ps = [] := by cases f <;> exact (Option.some.inj h).symm
  subst this
  exact ⟨rfl, fun p hp => by simp at hp⟩
 | 0, c :: t, ps, h => by cases h
 | f + 1, c :: t, ps, h => by
  unfold rowsS at h
  obtain ⟨⟨a, b⟩, h1, h⟩ := Option.bind_eq_some_iff.1 h
  obtain ⟨⟨x, d⟩, h2, h⟩ := Option.bind_eq_some_iff.1 h
  obtain ⟨qs, h3, rfl⟩ := Option.map_eq_some_iff.1 h
  simp only at h2 h3
  obtain ⟨e1, e2⟩ := line_sound h2
  obtain ⟨e3, e4⟩ := rows_sound h3
  constructor
  ·rw [cut10_sound h1]
   show a ++ 10 :: b = (blk d ++ lnS x) ++ flatP qs
   rw [← e1, ← e3]
   simp
  ·intro p hp
   rcases List.mem_cons.1 hp with rfl | hp
   ·exact e2
   ·exact e4 p hp
theorem rows_ok : ∀ (ps : List (Nd × Nat)), (∀ p ∈ ps, Sound p.1) → ∀ f, ps.length ≤ f → rowsS f (flatP ps) = some (ps.map fun p => ({ p.1 with size := 0 }, p.2))
 | [], _, f, _ => by cases f <;> rfl
 | (x, d) :: ps, h, f, hf => by
  obtain ⟨g, rfl⟩ : ∃ g, f = g + 1 := ⟨f - 1, by rw [List.length_cons] at hf; omega⟩
  have hx := h (x, d) (List.mem_cons_self ..)
  have ih := rows_ok ps (fun p hp => h p (List.mem_cons_of_mem _ hp)) g (by rw [List.length_cons] at hf; omega)
  have e : flatP ((x, d) :: ps) = (blk d ++ (lnB (shp x.kind).1 x ++ [32, 64] ++ Lib.itoa x.pos)) ++ 10 :: flatP ps := by
   show (blk d ++ lnS x) ++ flatP ps = _
   unfold lnS
   simp
  have hc := cut10_ok (line_no10 hx d) (flatP ps)
  rw [← e] at hc
  cases ht : flatP ((x, d) :: ps) with
  | nil => rw [ht] at e; simp at e
  | cons c t =>
   unfold rowsS
   rw [← ht, hc, Option.bind_some]
   simp only
   rw [line_ok hx d, Option.bind_some, ih, Option.map_some]
   rfl
def mkL (ps : List (Nd × Nat)) : List Nd := (List.range ps.length).map fun m => { (ps.getD m default).1 with size := ((cls (ps.map (·.2)) m ps.length : Nat) : Int) - (m : Int) }
theorem mkL_len (ps : List (Nd × Nat)) : (mkL ps).length = ps.length := by unfold mkL; rw [List.length_map, List.length_range]
theorem mkL_nd (ps : List (Nd × Nat)) {m : Nat} (hm : m < ps.length) : nd (mkL ps) m = { (ps.getD m default).1 with size := ((cls (ps.map (·.2)) m ps.length : Nat) : Int) - (m : Int) } := by
 unfold nd mkL
 rw [List.getD_eq_getElem?_getD, List.getElem?_map, List.getElem?_range hm]
 rfl
theorem dmp_flat (L : List Nd) : ∀ m, dmp L m = flatP ((List.range m).map fun i => (nd L i, dep L i))
 | 0 => rfl
 | m + 1 => by
  unfold dmp
  rw [dmp_flat L m, List.range_succ, List.map_append]
  unfold flatP
  rw [List.flatMap_append]
  simp
theorem flatP_congr : ∀ {ps qs : List (Nd × Nat)}, ps.length = qs.length → (∀ i, i < ps.length → (blk (ps.getD i default).2 ++ lnS (ps.getD i default).1) = (blk (qs.getD i default).2 ++ lnS (qs.getD i default).1)) → flatP ps = flatP qs
 | [], [], _, _ => rfl
 | [], _ :: _, h, _ => by simp at h
 | _ :: _, [], h, _ => by simp at h
 | p :: ps, q :: qs, h, hi => by
  have h0 := hi 0 (by simp)
  simp only [List.getD_cons_zero] at h0
  have ih := flatP_congr (ps := ps) (qs := qs) (by simpa using h) (fun i hl => by
   have := hi (i + 1) (by simpa using hl)
   simpa only [List.getD_cons_succ] using this)
  show (blk p.2 ++ lnS p.1) ++ flatP ps = (blk q.2 ++ lnS q.1) ++ flatP qs
  rw [h0, ih]
open Classical in
noncomputable def readS (t : List UInt8) : Option (List Nd) :=
 if 4194304 < t.length then none
 else (rowsS t.length t).bind fun ps => if DOk (ps.map (·.2)) ∧ treeS nameS typeS (mkL ps) = true then some (mkL ps) else none
theorem getD_map2 {α β : Type} (f : α → β) (l : List α) (i : Nat) (a : α) (b : β) (h : i < l.length) : (l.map f).getD i b = f (l.getD i a) := by
 rw [List.getD_eq_getElem?_getD, List.getD_eq_getElem?_getD, List.getElem?_map, List.getElem?_eq_getElem h]
 rfl
theorem read_sound {t : List UInt8} {L : List Nd} (h : readS t = some L) : treeS nameS typeS L = true ∧ dmp L L.length = t ∧ t.length ≤ 4194304 := by
 unfold readS at h
 split at h
 ·cases h
 ·rename_i hlen
  obtain ⟨ps, h1, h⟩ := Option.bind_eq_some_iff.1 h
  split at h
  ·rename_i hd
   obtain ⟨hd, ht⟩ := hd
   have := Option.some.inj h
   subst this
   refine ⟨ht, ?_, by omega⟩
   obtain ⟨e1, e2⟩ := rows_sound h1
   rw [e1, dmp_flat]
   have hll : (mkL ps).length = (ps.map (·.2)).length := by rw [mkL_len, List.length_map]
   refine flatP_congr (by rw [List.length_map, List.length_range, mkL_len]) fun i hi => ?_
   rw [List.length_map, List.length_range] at hi
   have hi2 : i < ps.length := by rw [mkL_len] at hi; exact hi
   rw [getD_map2 _ _ i 0 default (by rw [List.length_range]; exact hi)]
   have hr : (List.range (mkL ps).length).getD i 0 = i := by rw [List.getD_eq_getElem?_getD, List.getElem?_range hi]; rfl
   rw [hr]
   simp only
   have hs : ∀ m, m < (mkL ps).length → (m : Int) + sz (mkL ps) m = (cls (ps.map (·.2)) m (ps.map (·.2)).length : Nat) := fun m hm => by
    have hm2 : m < ps.length := by rw [mkL_len] at hm; exact hm
    show (m : Int) + (nd (mkL ps) m).size = _
    rw [mkL_nd ps hm2, List.length_map]
    simp only
    omega
   rw [dep_of hll hd hs hi, getD_map2 (·.2) ps i default 0 hi2, mkL_nd ps hi2]
   rfl
  ·cases h
theorem read_ok {L : List Nd} (ht : treeS nameS typeS L = true) (hT : Tr L) (hr : Rng L) (hp : RngP L) (hl : (dmp L L.length).length ≤ 4194304) : readS (dmp L L.length) = some L := by
 obtain ⟨ps, hps⟩ : ∃ ps, (List.range L.length).map (fun i => (nd L i, dep L i)) = ps := ⟨_, rfl⟩
 have hpl : ps.length = L.length := by rw [← hps, List.length_map, List.length_range]
 have hpi : ∀ i, i < L.length → ps.getD i default = (nd L i, dep L i) := fun i hi => by
  rw [← hps, getD_map2 _ _ i 0 default (by rw [List.length_range]; exact hi)]
  have hr : (List.range L.length).getD i 0 = i := by rw [List.getD_eq_getElem?_getD, List.getElem?_range hi]; rfl
  rw [hr]
 have h1 : rowsS (dmp L L.length).length (flatP ps) = some (ps.map fun p => ({ p.1 with size := 0 }, p.2)) := by
  refine rows_ok ps (fun p hpm => ?_) _ (by rw [hpl]; exact dmp_ge L L.length)
  rw [← hps] at hpm
  obtain ⟨i, hi, rfl⟩ := List.mem_map.1 hpm
  exact sound_of ht hr hp (List.mem_range.1 hi)
 have e1 : dmp L L.length = flatP ps := by rw [dmp_flat, hps]
 unfold readS
 rw [if_neg (by omega)]
 conv => lhs; rw [e1]
 rw [← e1, show rowsS (dmp L L.length).length (dmp L L.length) = rowsS (dmp L L.length).length (flatP ps) by rw [← e1], h1, Option.bind_some]
 obtain ⟨qs, hqs⟩ : ∃ qs, (ps.map fun p => (({ p.1 with size := 0 }, p.2) : Nd × Nat)) = qs := ⟨_, rfl⟩
 rw [hqs]
 have hql : qs.length = L.length := by rw [← hqs, List.length_map, hpl]
 have hqi : ∀ i, i < L.length → qs.getD i default = ({ nd L i with size := 0 }, dep L i) := fun i hi => by
  rw [← hqs, getD_map2 _ _ i default default (by omega), hpi i hi]
 have hds : ∀ i, i < L.length → (qs.map (·.2)).getD i 0 = dep L i := fun i hi => by
  rw [getD_map2 (·.2) qs i default 0 (by omega), hqi i hi]
 have hD : DOk (qs.map (·.2)) := hT.dok _ (by rw [List.length_map, hql]) hds
 have hM : mkL qs = L := by
  refine List.ext_getElem (by rw [mkL_len, hql]) fun i h2 h3 => ?_
  have e2 : (mkL qs)[i] = nd (mkL qs) i := by unfold nd; rw [List.getD_eq_getElem?_getD, List.getElem?_eq_getElem h2]; rfl
  have e3 : L[i] = nd L i := by unfold nd; rw [List.getD_eq_getElem?_getD, List.getElem?_eq_getElem h3]; rfl
  have e4 := hT.cls_sz _ hds h3
  rw [e2, e3, mkL_nd qs (by omega), hqi i h3, hql, e4]
  simp only
  have : (i : Int) + sz L i - (i : Int) = (nd L i).size := by show (i : Int) + (nd L i).size - (i : Int) = _; omega
  rw [this]
 rw [hM, if_pos ⟨hD, ht⟩]
end Go.Proofs.YtekgnogjfggnmaaGreatDoor
