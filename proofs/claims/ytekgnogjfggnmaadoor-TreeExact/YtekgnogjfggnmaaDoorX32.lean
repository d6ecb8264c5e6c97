import Derived.Deep.RegionHeld3
import Derived.Deep.QuietTactic
import Derived.BigQuiet
import Derived.Deep.RegionLaw
import Derived.Test.YtekgnogjfggnmaaDoorX30
import Derived.Test.YtekgnogjfggnmaaDoorX17
import Derived.Test.YtekgnogjfggnmaaDoorX18
import Derived.Test.YtekgnogjfggnmaaDoorX25
namespace Go.Proofs.YtekgnogjfggnmaaDoor
open Go.RowKit

theorem len_sub (L : List Nd) (k s : Nat) (h : k + s ≤ L.length) : (subL L k s).length = s := by
  unfold subL
  simp
  omega
theorem Lay.sub {w : World} {g o : Nat} {L : List Nd} (h : Lay w g o L) (k s : Nat) (hs : k + s ≤ L.length) : Lay w g (o + k * 9) (subL L k s) :=
  ⟨h.lt, fun i hi j v hv => by
    rw [len_sub L k s hs] at hi
    rw [nd_sub hi] at hv
    have := h.c (k + i) (by omega) j v hv
    rw [show o + k * 9 + i * 9 + j = o + (k + i) * 9 + j by omega]
    exact this⟩
theorem fine_sub {L : List Nd} (h : Fine L) (k s : Nat) (hs : k + s ≤ L.length) : Fine (subL L k s) :=
  ⟨by rw [len_sub L k s hs]; have := h.len; omega, fun i hi => by
    rw [len_sub L k s hs] at hi
    rw [nd_sub hi]
    exact h.txt (k + i) (by omega)⟩

/-- A field of a node is written with what it holds. -/
theorem lay_again {w : World} {B : Nat} {L : List Nd} (h : Lay w B 0 L) (ht : w.there B 0 (L.length * 9)) (k j : Nat) (v : Value) (hk : k < L.length) (hj : j < 9) (hv : (ndV (nd L k))[j]? = some v) :
    Lay (w.setCell ⟨B, k * 9 + j, none⟩ v) B 0 L ∧ (w.setCell ⟨B, k * 9 + j, none⟩ v).there B 0 (L.length * 9) := by
  have e : L.modify k id = L := by simp
  have := lay_put h ht k j v id hk hj fun i u hu => ⟨fun e => by subst e; have hu' : (ndV (nd L k))[i]? = some u := hu; rw [hv] at hu'; exact (Option.some.inj hu').symm, fun _ => hu⟩
  rwa [e] at this

/-- A list of its own, whose cells may be written. -/
structure Own (w W : World) (B : Nat) (S : List Nd) : Prop where
  lay : Lay W B 0 S
  there : W.there B 0 (S.length * 9)
  bel : Below w.heap.size w W
  le : w.heap.size ≤ B
theorem Own.call {w W W' : World} {B : Nat} {S : List Nd} (h : Own w W B S) (hb : Below W.heap.size W W') : Own w W' B S :=
  ⟨h.lay.next hb, fun j hj => ⟨by rw [hb.cell (p := ⟨B, 0 + j, none⟩) h.lay.lt]; exact (h.there j hj).1, by rw [hb.frozen (p := ⟨B, 0 + j, none⟩) h.lay.lt]; exact (h.there j hj).2⟩, h.bel.trans (hb.mono h.bel.size), h.le⟩
theorem Own.put {w W : World} {B : Nat} {S : List Nd} (h : Own w W B S) (i j : Nat) (v : Value) (hi : i < S.length) (hj : j < 9) (hv : (ndV (nd S i))[j]? = some v) : Own w (W.setCell ⟨B, i * 9 + j, none⟩ v) B S := by
  obtain ⟨h1, h2⟩ := lay_again h.lay h.there i j v hi hj hv
  exact ⟨h1, h2, h.bel.setCell (p := ⟨B, i * 9 + j, none⟩) h.le _, h.le⟩
theorem Own.cell {w W : World} {B : Nat} {S : List Nd} (h : Own w W B S) (i j : Nat) (v : Value) (hi : i < S.length) (hj : j < 9) (hv : (ndV (nd S i))[j]? = some v) : W.cell? ⟨B, i * 9 + j, none⟩ = some v ∧ W.frozen? ⟨B, i * 9 + j, none⟩ = false := by
  have h1 := h.lay.c i hi j v hv
  have h2 := (h.there (i * 9 + j) (by omega)).2
  rw [Nat.zero_add] at h1 h2
  exact ⟨h1, h2⟩

/-- The subtree that Sub answers. -/
def subA (L : List Nd) (N : Int) : List Nd := if hasS L N then subL L N.toNat (sz L N.toNat).toNat else []

set_option maxRecDepth 100000 in
set_option maxHeartbeats 1000000 in
theorem sub_any (w : World) (p : Option Addr) (n cap : Nat) (L : List Nd) (N : Int) (h : Reads w p n L) (hcap : n ≤ cap) (hk : KwAt w) :
    Calls Tryd.prog 16 #[.agg #[.slice p n cap], .int .i64 N] w fun e w' => (∃ p' cap', e = .returned (.agg #[.slice p' (subA L N).length cap']) ∧ Hid (Twn w w' (subA L N) p')) ∧ Below w.heap.size w w' := by
  obtain ⟨w1, hw1⟩ : ∃ w1, (w.alloc (.cells #[.slice p n cap] 24)).alloc (.cells #[.slice none 0 0] 24) = w1 := ⟨_, rfl⟩
  have z1 : w1.heap.size = w.heap.size + 2 := by rw [← hw1]; simp
  have B1 : Hid (Below w.heap.size w w1) := by rw [← hw1]; exact ((Below.refl _ w).alloc (Nat.le_refl _) _).alloc (by simp) _
  have c1 : w1.cell? ⟨w.heap.size, 0, none⟩ = some (.slice p n cap) := by rw [← hw1]; exact cell_old _ (cell_new _ _ _ _ _ rfl)
  have c2 : w1.cell? ⟨w.heap.size + 1, 0, none⟩ = some (.slice none 0 0) ∧ w1.frozen? ⟨w.heap.size + 1, 0, none⟩ = false := by rw [← hw1]; have := new_cell (w.alloc (.cells #[.slice p n cap] 24)) (.slice none 0 0) 24; rwa [World.size_alloc] at this
  have RD : Hid (Reads w1 p n L) := h.next B1.out
  have H : Hid (Calls Tryd.prog 33 #[.agg #[.slice p n cap], .int .i64 N] w1 fun e w' => e = .returned (.bool (hasS L N)) ∧ Below w1.heap.size w1 w') := hasNode_any w1 p n cap L N RD.out (hk.next B1.out)
  clear h hk
  cases hh : hasS L N with
  | false =>
    have HK : Hid (subA L N = []) := by show _ = _; unfold subA; rw [hh]; rfl
    rw [hh] at H
    clear hh
    go_enter Tryd.func16, Tryd.ntmps16
    go_wp2_with (first
      | (go_at_call 33; refine H.out.mono ?_; rintro e w2 ⟨rfl, hb2⟩; have d2 := (hb2.cell (p := ⟨w.heap.size + 1, 0, none⟩) (show w.heap.size + 1 < _ by omega)).trans c2.1; have f2 := (hb2.frozen (p := ⟨w.heap.size + 1, 0, none⟩) (show w.heap.size + 1 < _ by omega)).trans c2.2)
      | go_in)
    have hq : (w2.setCell ⟨w.heap.size + 1, 0, none⟩ (.slice none 0 0)).cell? ⟨w.heap.size + 1, 0, none⟩ = some (.slice none 0 0) := World.cell?_setCell_same' _ _ _ (by rw [d2]; rfl)
    rw [HK.out]
    exact bodyPost_ret (v := .agg #[.slice none 0 0]) (by simp [results, Tryd.results16, go_sem, hq]) rfl ⟨⟨none, 0, rfl, fun hne => absurd rfl hne⟩, (B1.out.trans (hb2.mono B1.out.size)).setCell (p := ⟨w.heap.size + 1, 0, none⟩) (by show w.heap.size ≤ w.heap.size + 1; omega) _⟩
  | true =>
    obtain ⟨k, rfl, hkl, ht⟩ := has_tree hh
    have HK : subA L (k : Int) = subL L k (sz L k).toNat := by unfold subA; rw [hh, Int.toNat_natCast]; rfl
    rw [hh] at H
    obtain ⟨g1, g2⟩ := (tr_of ht).good k hkl
    obtain ⟨hf, hlen, hrd⟩ := RD.out
    have hLb := hf.len
    obtain ⟨g, o, rfl, hl⟩ := hrd (fun e => by rw [e] at hkl; simp at hkl)
    have d := hl.size hkl
    rw [HK]
    unfold sz at *
    generalize (nd L k).size = s at *
    obtain ⟨m, rfl⟩ : ∃ m : Nat, s = (m : Int) := ⟨s.toNat, by omega⟩
    rw [Int.toNat_natCast]
    have hm : k + m ≤ L.length := by omega
    have hml := len_sub L k m hm
    have HS : Hid (Lay w1 g (o + k * 9) (subL L k m)) := hl.sub k m hm
    obtain ⟨S, hS⟩ : ∃ S, subL L k m = S := ⟨_, rfl⟩
    rw [hS] at HS hml ⊢
    have HF : Hid (Fine S) := by rw [← hS]; exact fine_sub hf k m hm
    have HL : Hid (Lay w1 g o L) := hl
    have i0 : (0 : Int) ≤ (k : Int) := by omega
    have i1 : (k : Int) < (n : Int) := by omega
    have i2 : (k : Int) ≤ (k : Int) + (m : Int) := by omega
    have i3 : (k : Int) + (m : Int) ≤ (cap : Int) := by omega
    have i4 : IntKind.i64.wrap ((k : Int) + (m : Int)) = (k : Int) + (m : Int) := by rw [IntKind.wrap_i64]; omega
    clear hl hh ht hrd HK hS hf
    subst hml
    go_enter Tryd.func16, Tryd.ntmps16
    go_upto_region 3 with (first
      | (go_at_call 33; refine H.out.mono ?_; rintro e w2 ⟨rfl, hb2⟩; have d2 := (hb2.cell (p := ⟨w.heap.size + 1, 0, none⟩) (show w.heap.size + 1 < _ by omega)).trans c2.1; have f2 := (hb2.frozen (p := ⟨w.heap.size + 1, 0, none⟩) (show w.heap.size + 1 < _ by omega)).trans c2.2; have a2 := (hb2.cell (p := ⟨w.heap.size, 0, none⟩) (show w.heap.size < _ by omega)).trans c1; have s2 := (hb2.cell (p := ⟨g, o + k * 9 + 8, none⟩) HL.out.lt).trans d)
      | go_in)
    have SV : Hid (∀ w' : World, Below w1.heap.size w1 w' → w'.cell? ⟨w.heap.size, 0, none⟩ = some (.slice (some ⟨g, o, none⟩) n cap) ∧ w'.cell? ⟨g, o + k * 9 + 8, none⟩ = some (.int .i64 (S.length : Int)) ∧ Below w1.heap.size w1 w') := fun w' hb => ⟨(hb.cell (p := ⟨w.heap.size, 0, none⟩) (show w.heap.size < _ by omega)).trans c1, (hb.cell (p := ⟨g, o + k * 9 + 8, none⟩) HL.out.lt).trans d, hb⟩
    have HC : Hid (∀ w' : World, Below w1.heap.size w1 w' → Calls Tryd.prog 36 #[.slice (if cap = k then some ⟨g, o, none⟩ else some ⟨g, o + k * 9, none⟩) (((k : Int) + (S.length : Int)).toNat - k) (cap - k)] w' fun e w'' => (∃ B cap', e = .returned (.slice (some ⟨B, 0, none⟩) S.length cap') ∧ Hid (w'.heap.size ≤ B ∧ Lay w'' B 0 S ∧ w''.there B 0 (S.length * 9))) ∧ Below w'.heap.size w' w'') := fun w' hb => by
      rw [if_neg (by omega), show ((k : Int) + (S.length : Int)).toNat - k = S.length by omega]
      exact cloneN_any w' ⟨g, o + k * 9, none⟩ _ S (by omega) (by omega) (flat_src (HS.out.next hb))
    clear c1 d hw1
    have hcd : Below w1.heap.size w1 w2.drew := hb2.drew
    go_region_held3 (fun w' => w'.cell? ⟨w.heap.size, 0, none⟩ = some (.slice (some ⟨g, o, none⟩) n cap) ∧ w'.cell? ⟨g, o + k * 9 + 8, none⟩ = some (.int .i64 (S.length : Int)) ∧ Below w1.heap.size w1 w') (exact SV.out _ (by assumption))
      (first | (go_at_call 36; refine (HC.out _ hcd).mono ?_; rintro e w3 ⟨⟨B, cap', rfl, h3⟩, hb3⟩; replace hcd := hcd.trans (hb3.mono hcd.size)))
    have HO : Hid (Own w1 w3 B S) := ⟨h3.out.2.1, h3.out.2.2, hcd, Nat.le_trans hb2.size h3.out.1⟩
    clear h3 hb3 hcd SV HC d2 f2 a2 s2 H RD i2 i3 i4
    go_wp2
    go_loopw [28] (fun v wr => ∃ i : Nat, i ≤ S.length ∧ v = .int .i64 (i : Int) ∧ Hid (Own w1 wr B S)) (fun v _ => S.length - (intOf v).toNat)
    case atStart => exact ⟨0, by omega, rfl, HO⟩
    case round =>
      obtain ⟨i, hi, rfl, ho⟩ := hrel
      clear HO
      by_cases hlt : i < S.length
      · have j0 : (0 : Int) ≤ (i : Int) := by omega
        have j1 : (i : Int) < (S.length : Int) := by omega
        obtain ⟨t1, t2, t3, t4⟩ := HF.out.txt i hlt
        obtain ⟨x, hx⟩ : ∃ x, nd S i = x := ⟨_, rfl⟩
        have HX : Hid (nd S i = x) := hx
        rw [hx] at t1 t2 t3 t4
        clear hx
        obtain ⟨kd, ps, nm, lb, ty, op, it, tx, zz⟩ := x
        have HV : Hid (∀ (j : Nat) (v : Value), (ndV ⟨kd, ps, nm, lb, ty, op, it, tx, zz⟩)[j]? = some v → (ndV (nd S i))[j]? = some v) := fun j v hv => by rw [HX.out]; exact hv
        clear HX
        replace t1 : nm.size ≤ 281474976710656 := Nat.le_trans t1 (by decide)
        replace t2 : lb.size ≤ 281474976710656 := Nat.le_trans t2 (by decide)
        replace t3 : ty.size ≤ 281474976710656 := Nat.le_trans t3 (by decide)
        replace t4 : tx.size ≤ 281474976710656 := Nat.le_trans t4 (by decide)
        have q0 := (ho.out.cell i 2 (.string nm) hlt (by omega) (HV.out 2 _ rfl)).1
        go_upto_region 9 with (first
          | (go_at_call 37; refine (clone_any nm _ t1).mono ?_; rintro e wa0 ⟨rfl, hba0⟩; obtain ⟨qa0, fa0⟩ := (ho.out.call hba0).cell i 2 (.string nm) hlt (by omega) (HV.out 2 _ rfl))
          | go_in)
        have ho0 : Hid (Own w1 (wa0.setCell ⟨B, i * 9 + 2, none⟩ (.string nm)) B S) := (ho.out.call hba0).put i 2 _ hlt (by omega) (HV.out 2 _ rfl)
        obtain ⟨wb0, hwb0⟩ : ∃ wb, wa0.setCell ⟨B, i * 9 + 2, none⟩ (.string nm) = wb := ⟨_, rfl⟩
        rw [hwb0] at ho0 ⊢
        clear q0 qa0 fa0 hwb0 hba0 ho
        have q1 := (ho0.out.cell i 3 (.string lb) hlt (by omega) (HV.out 3 _ rfl)).1
        go_upto_region 10 with (first
          | (go_at_call 37; refine (clone_any lb _ t2).mono ?_; rintro e wa1 ⟨rfl, hba1⟩; obtain ⟨qa1, fa1⟩ := (ho0.out.call hba1).cell i 3 (.string lb) hlt (by omega) (HV.out 3 _ rfl))
          | go_in)
        have ho1 : Hid (Own w1 (wa1.setCell ⟨B, i * 9 + 3, none⟩ (.string lb)) B S) := (ho0.out.call hba1).put i 3 _ hlt (by omega) (HV.out 3 _ rfl)
        obtain ⟨wb1, hwb1⟩ : ∃ wb, wa1.setCell ⟨B, i * 9 + 3, none⟩ (.string lb) = wb := ⟨_, rfl⟩
        rw [hwb1] at ho1 ⊢
        clear q1 qa1 fa1 hwb1 hba1 ho0
        have q2 := (ho1.out.cell i 4 (.string ty) hlt (by omega) (HV.out 4 _ rfl)).1
        go_upto_region 11 with (first
          | (go_at_call 37; refine (clone_any ty _ t3).mono ?_; rintro e wa2 ⟨rfl, hba2⟩; obtain ⟨qa2, fa2⟩ := (ho1.out.call hba2).cell i 4 (.string ty) hlt (by omega) (HV.out 4 _ rfl))
          | go_in)
        have ho2 : Hid (Own w1 (wa2.setCell ⟨B, i * 9 + 4, none⟩ (.string ty)) B S) := (ho1.out.call hba2).put i 4 _ hlt (by omega) (HV.out 4 _ rfl)
        obtain ⟨wb2, hwb2⟩ : ∃ wb, wa2.setCell ⟨B, i * 9 + 4, none⟩ (.string ty) = wb := ⟨_, rfl⟩
        rw [hwb2] at ho2 ⊢
        clear q2 qa2 fa2 hwb2 hba2 ho1
        have q3 := (ho2.out.cell i 7 (.string tx) hlt (by omega) (HV.out 7 _ rfl)).1
        go_upto_region 12 with (first
          | (go_at_call 37; refine (clone_any tx _ t4).mono ?_; rintro e wa3 ⟨rfl, hba3⟩; obtain ⟨qa3, fa3⟩ := (ho2.out.call hba3).cell i 7 (.string tx) hlt (by omega) (HV.out 7 _ rfl))
          | go_in)
        have ho3 : Hid (Own w1 (wa3.setCell ⟨B, i * 9 + 7, none⟩ (.string tx)) B S) := (ho2.out.call hba3).put i 7 _ hlt (by omega) (HV.out 7 _ rfl)
        obtain ⟨wb3, hwb3⟩ : ∃ wb, wa3.setCell ⟨B, i * 9 + 7, none⟩ (.string tx) = wb := ⟨_, rfl⟩
        rw [hwb3] at ho3 ⊢
        clear q3 qa3 fa3 hwb3 hba3 ho2
        go_wp2
        exact ⟨⟨i + 1, by omega, by go_num, ho3⟩, by simp [intOf]; omega⟩
      · obtain rfl : i = S.length := by omega
        have dr := (ho.out.bel.cell (p := ⟨w.heap.size + 1, 0, none⟩) (show w.heap.size + 1 < _ by omega)).trans c2.1
        have fr := (ho.out.bel.frozen (p := ⟨w.heap.size + 1, 0, none⟩) (show w.heap.size + 1 < _ by omega)).trans c2.2
        go_wp2
        have hq : (wr.setCell ⟨w.heap.size + 1, 0, none⟩ (.slice (some ⟨B, 0, none⟩) S.length cap')).cell? ⟨w.heap.size + 1, 0, none⟩ = some (.slice (some ⟨B, 0, none⟩) S.length cap') := World.cell?_setCell_same' _ _ _ (by rw [dr]; rfl)
        have hBle := ho.out.le
        exact bodyPost_ret (v := .agg #[.slice (some ⟨B, 0, none⟩) S.length cap']) (by simp [results, Tryd.results16, go_sem, hq]) rfl ⟨⟨_, _, rfl, fun _ => ⟨B, rfl, by omega, ho.out.lay.set _ (by omega), fun j hj => ⟨by rw [cell_set _ (by show B ≠ _; omega)]; exact (ho.out.there j hj).1, by rw [World.frozen?_setCell]; exact (ho.out.there j hj).2⟩⟩⟩, (B1.out.trans (ho.out.bel.mono (by omega))).setCell (p := ⟨w.heap.size + 1, 0, none⟩) (by show w.heap.size ≤ w.heap.size + 1; omega) _⟩

end Go.Proofs.YtekgnogjfggnmaaDoor

namespace Go.Proofs.YtekgnogjfggnmaaDoor
open Go.RowKit

theorem belowN (w : World) : ∀ n : Nat, Below w.heap.size w (w.drewN n)
  | 0 => Below.refl _ w
  | n + 1 => (belowN w n).drew

set_option maxRecDepth 100000 in
theorem neq9 (kd ps op it zz : Int) (nm lb ty tx : ByteArray) : ∀ w : World,
    (binOp BinOp.neq 36 (.agg #[.int .i64 kd, .int .i64 ps, .string nm, .string lb, .string ty, .int .i64 op, .int .i64 it, .string tx, .int .i64 zz]) (.agg #[.int .i64 kd, .int .i64 ps, .string nm, .string lb, .string ty, .int .i64 op, .int .i64 it, .string tx, .int .i64 zz])).run Tryd.prog w = .ok (.bool false) w := by
  intro w
  simp [go_sem]

set_option maxRecDepth 100000 in
set_option maxHeartbeats 1000000 in
/-- sameNodes of two slices that read as one list. -/
theorem sameN_any (w : World) (g o cap g' o' cap' : Nat) (S : List Nd) (hS : S.length ≤ 1353245080300) (ha : Hid (Lay w g o S)) (hb : Hid (Lay w g' o' S)) :
    Calls Tryd.prog 24 #[.slice (some ⟨g, o, none⟩) S.length cap, .slice (some ⟨g', o', none⟩) S.length cap'] w fun e w' => e = .returned (.bool true) ∧ Below w.heap.size w w' := by
  go_enter Tryd.func24, Tryd.ntmps24
  go_wp2
  go_loopw [5] (fun v wr => ∃ k : Nat, k ≤ S.length ∧ v = .int .i64 (k : Int) ∧ Hid (Below w.heap.size w wr)) (fun v _ => S.length - (intOf v).toNat)
  case atStart => exact ⟨0, by omega, rfl, Below.refl _ _⟩
  case round =>
    obtain ⟨k, hk, rfl, hB⟩ := hrel
    by_cases hlt : k < S.length
    · have j0 : (0 : Int) ≤ (k : Int) := by omega
      have j1 : (k : Int) < (S.length : Int) := by omega
      have dA := (ha.out.next hB.out).c k hlt
      have dB := (hb.out.next hB.out).c k hlt
      obtain ⟨x, hx⟩ : ∃ x, nd S k = x := ⟨_, rfl⟩
      rw [hx] at dA dB
      clear hx
      obtain ⟨kd, ps, nm, lb, ty, op, it, tx, zz⟩ := x
      have hne := neq9 kd ps op it zz nm lb ty tx
      have a0 : wr.cell? ⟨g, o + k * 9, none⟩ = some (.int .i64 kd) := dA 0 _ rfl
      have a1 : wr.cell? ⟨g, o + k * 9 + 1, none⟩ = some (.int .i64 ps) := dA 1 _ rfl
      have a2 : wr.cell? ⟨g, o + k * 9 + 2, none⟩ = some (.string nm) := dA 2 _ rfl
      have a3 : wr.cell? ⟨g, o + k * 9 + 3, none⟩ = some (.string lb) := dA 3 _ rfl
      have a4 : wr.cell? ⟨g, o + k * 9 + 4, none⟩ = some (.string ty) := dA 4 _ rfl
      have a5 : wr.cell? ⟨g, o + k * 9 + 5, none⟩ = some (.int .i64 op) := dA 5 _ rfl
      have a6 : wr.cell? ⟨g, o + k * 9 + 6, none⟩ = some (.int .i64 it) := dA 6 _ rfl
      have a7 : wr.cell? ⟨g, o + k * 9 + 7, none⟩ = some (.string tx) := dA 7 _ rfl
      have a8 : wr.cell? ⟨g, o + k * 9 + 8, none⟩ = some (.int .i64 zz) := dA 8 _ rfl
      have b0 : wr.cell? ⟨g', o' + k * 9, none⟩ = some (.int .i64 kd) := dB 0 _ rfl
      have b1 : wr.cell? ⟨g', o' + k * 9 + 1, none⟩ = some (.int .i64 ps) := dB 1 _ rfl
      have b2 : wr.cell? ⟨g', o' + k * 9 + 2, none⟩ = some (.string nm) := dB 2 _ rfl
      have b3 : wr.cell? ⟨g', o' + k * 9 + 3, none⟩ = some (.string lb) := dB 3 _ rfl
      have b4 : wr.cell? ⟨g', o' + k * 9 + 4, none⟩ = some (.string ty) := dB 4 _ rfl
      have b5 : wr.cell? ⟨g', o' + k * 9 + 5, none⟩ = some (.int .i64 op) := dB 5 _ rfl
      have b6 : wr.cell? ⟨g', o' + k * 9 + 6, none⟩ = some (.int .i64 it) := dB 6 _ rfl
      have b7 : wr.cell? ⟨g', o' + k * 9 + 7, none⟩ = some (.string tx) := dB 7 _ rfl
      have b8 : wr.cell? ⟨g', o' + k * 9 + 8, none⟩ = some (.int .i64 zz) := dB 8 _ rfl
      clear dA dB
      go_wp2
      go_quiet (fail)
      go_wp2
      exact ⟨⟨k + 1, by omega, by go_num, hB.out.trans ((belowN wr nq).mono hB.out.size)⟩, by simp [intOf]; omega⟩
    · obtain rfl : k = S.length := by omega
      go_wp2
      go_ret
      exact ⟨rfl, hB.out⟩

end Go.Proofs.YtekgnogjfggnmaaDoor

namespace Go.Proofs.YtekgnogjfggnmaaDoor
open Go.RowKit

/-- The node behind a twin's last: a mark. -/
def mNd (s : ByteArray) : Nd := ⟨0, 0, s, ⟨#[]⟩, ⟨#[]⟩, 0, 0, ⟨#[]⟩, 0⟩
/-- A twin with its marks. -/
def marked (L : List Nd) : List Nd := L ++ [mNd ⟨#[35]⟩, mNd ⟨#[35, 35]⟩]
theorem marked_len (L : List Nd) : (marked L).length = L.length + 2 := by simp [marked]
structure TwM (w w' : World) (L : List Nd) (B : Nat) : Prop where
  new : w.heap.size ≤ B
  lay : Lay w' B 0 (marked L)
  there : w'.there B 0 ((L.length + 2) * 9)

theorem range_mk {w : World} {B : Nat} {L : List Nd} (h0 : w.rangeAt B 0 (flat L)) (h1 : w.rangeAt B (L.length * 9) (mark ⟨#[35]⟩).toList) (h2 : w.rangeAt B ((L.length + 1) * 9) (mark ⟨#[35, 35]⟩).toList) : w.rangeAt B 0 (flat (marked L)) := fun j v hv => by
  have e : flat (marked L) = flat L ++ ((mark ⟨#[35]⟩).toList ++ (mark ⟨#[35, 35]⟩).toList) := by simp [flat, marked, mNd, ndV, mark]
  have hl := flat_len L
  rw [e] at hv
  by_cases a : j < (flat L).length
  · rw [List.getElem?_append_left a] at hv
    exact h0 j v hv
  · rw [List.getElem?_append_right (by omega)] at hv
    by_cases b : j - (flat L).length < 9
    · rw [List.getElem?_append_left b] at hv
      have := h1 _ v hv
      rwa [show L.length * 9 + (j - (flat L).length) = 0 + j by omega] at this
    · rw [List.getElem?_append_right (by show 9 ≤ _; omega)] at hv
      have := h2 _ v hv
      rwa [show (L.length + 1) * 9 + (j - (flat L).length - (mark ⟨#[35]⟩).toList.length) = 0 + j by show (L.length + 1) * 9 + (j - (flat L).length - 9) = _; omega] at this

set_option maxRecDepth 100000 in
set_option maxHeartbeats 1000000 in
theorem twinM_some (w : World) (a : Addr) (cap : Nat) (L : List Nd) (hL : L.length ≤ 1353245080300) (hs : ∀ j v, (flat L)[j]? = some v → w.cell? (a.add j) = some v ∧ (a.add j).block < w.heap.size) :
    Calls Tryd.prog 8 #[.agg #[.slice (some a) L.length cap]] w fun e w' => (∃ B, e = .returned (.agg #[.slice (some ⟨B, 0, none⟩) L.length (L.length + 2)]) ∧ Hid (TwM w w' L B)) ∧ Below w.heap.size w w' := by
  obtain ⟨Z, hZ, hmk⟩ := run_make9 L.length hL
  obtain ⟨w2, hw2⟩ : ∃ w2, (w.alloc (.cells #[.slice (some a) L.length cap] 24)).alloc (.cells #[.slice none 0 0] 24) = w2 := ⟨_, rfl⟩
  have z2 : w2.heap.size = w.heap.size + 2 := by rw [← hw2]; simp
  have B2 : Below w.heap.size w w2 := by rw [← hw2]; exact ((Below.refl _ w).alloc (Nat.le_refl _) _).alloc (by simp) _
  have c0 : w2.cell? ⟨w.heap.size, 0, none⟩ = some (.slice (some a) L.length cap) := by rw [← hw2]; exact cell_old _ (cell_new _ _ _ _ _ rfl)
  have c1 : w2.cell? ⟨w.heap.size + 1, 0, none⟩ = some (.slice none 0 0) ∧ w2.frozen? ⟨w.heap.size + 1, 0, none⟩ = false := by rw [← hw2]; have := new_cell (w.alloc (.cells #[.slice (some a) L.length cap] 24)) (.slice none 0 0) 24; rwa [World.size_alloc] at this
  obtain ⟨w3, hw3⟩ : ∃ w3, w2.alloc (.cells Z 36) = w3 := ⟨_, rfl⟩
  have z3 : w3.heap.size = w.heap.size + 3 := by rw [← hw3]; simp [z2]
  have B3 : Below w2.heap.size w2 w3 := by rw [← hw3]; exact (Below.refl _ w2).alloc (Nat.le_refl _) _
  have t3 : w3.there (w.heap.size + 2) 0 ((L.length + 2) * 9) := by rw [← hw3]; exact there_new w2 Z 36 _ _ z2.symm (by omega)
  have d0 := (B3.cell (p := ⟨w.heap.size, 0, none⟩) (by show w.heap.size < _; omega)).trans c0
  have d1 := (B3.cell (p := ⟨w.heap.size + 1, 0, none⟩) (by show w.heap.size + 1 < _; omega)).trans c1.1
  have f1 := (B3.frozen (p := ⟨w.heap.size + 1, 0, none⟩) (by show w.heap.size + 1 < _; omega)).trans c1.2
  have s3 : ∀ j v, (flat L)[j]? = some v → w3.cell? (a.add j) = some v := fun j v hv => by
    obtain ⟨h1, h2⟩ := hs j v hv
    exact (B3.cell (by omega)).trans ((B2.cell h2).trans h1)
  have hfl := flat_len L
  obtain ⟨w4, hw4⟩ : ∃ w4, w3.setCells (w.heap.size + 2) 0 (flat L) = w4 := ⟨_, rfl⟩
  obtain ⟨w5, hw5⟩ : ∃ w5, w4.setCells (w.heap.size + 2) (L.length * 9) (mark ⟨#[35]⟩).toList = w5 := ⟨_, rfl⟩
  obtain ⟨w6, hw6⟩ : ∃ w6, w5.setCells (w.heap.size + 2) ((L.length + 1) * 9) (mark ⟨#[35, 35]⟩).toList = w6 := ⟨_, rfl⟩
  have t4 : w4.there (w.heap.size + 2) 0 ((L.length + 2) * 9) := by rw [← hw4]; exact there_set t3 _ _ _
  have t5 : w5.there (w.heap.size + 2) 0 ((L.length + 2) * 9) := by rw [← hw5]; exact there_set t4 _ _ _
  have t6 : w6.there (w.heap.size + 2) 0 ((L.length + 2) * 9) := by rw [← hw6]; exact there_set t5 _ _ _
  have r4 : w4.rangeAt (w.heap.size + 2) 0 (flat L) := by rw [← hw4]; exact World.rangeAt_setCells_same w3 _ _ _ (there_sub t3 _ _ (by omega))
  have r5 : w5.rangeAt (w.heap.size + 2) 0 (flat L) := by rw [← hw5]; exact World.rangeAt_setCells_apart r4 _ _ _ (.inr (.inl (by omega)))
  have r6 : w6.rangeAt (w.heap.size + 2) 0 (flat L) := by rw [← hw6]; exact World.rangeAt_setCells_apart r5 _ _ _ (.inr (.inl (by omega)))
  have e4 : ∀ p : Addr, p.block ≠ w.heap.size + 2 → w4.cell? p = w3.cell? p := fun p hp => by rw [← hw4]; exact setCells_cell _ hp
  have e5 : ∀ p : Addr, p.block ≠ w.heap.size + 2 → w5.cell? p = w4.cell? p := fun p hp => by rw [← hw5]; exact setCells_cell _ hp
  have e6 : ∀ p : Addr, p.block ≠ w.heap.size + 2 → w6.cell? p = w5.cell? p := fun p hp => by rw [← hw6]; exact setCells_cell _ hp
  have z6 : w6.heap.size = w.heap.size + 3 := by rw [← hw6, setCells_size, ← hw5, setCells_size, ← hw4, setCells_size]; exact z3
  have B6 : Below w.heap.size w w6 := by
    rw [← hw6]; refine below_setCells (by omega) _ _ ?_
    rw [← hw5]; refine below_setCells (by omega) _ _ ?_
    rw [← hw4]; refine below_setCells (by omega) _ _ ?_
    exact B2.trans (B3.mono (by omega))
  have a0 := (e4 ⟨w.heap.size, 0, none⟩ (by show w.heap.size ≠ _; omega)).trans d0
  have b0 := (e5 ⟨w.heap.size, 0, none⟩ (by show w.heap.size ≠ _; omega)).trans a0
  have g0 := (e6 ⟨w.heap.size, 0, none⟩ (by show w.heap.size ≠ _; omega)).trans b0
  have g1 := (e6 ⟨w.heap.size + 1, 0, none⟩ (by show w.heap.size + 1 ≠ _; omega)).trans ((e5 ⟨w.heap.size + 1, 0, none⟩ (by show w.heap.size + 1 ≠ _; omega)).trans ((e4 ⟨w.heap.size + 1, 0, none⟩ (by show w.heap.size + 1 ≠ _; omega)).trans d1))
  have g2 : w6.frozen? ⟨w.heap.size + 1, 0, none⟩ = false := by rw [← hw6, World.frozen?_setCells, ← hw5, World.frozen?_setCells, ← hw4, World.frozen?_setCells]; exact f1
  have T4 : Hid (w4.there (w.heap.size + 2) (L.length * 9) 9) := there_sub t4 _ _ (by omega)
  have T5 : Hid (w5.there (w.heap.size + 2) ((L.length + 1) * 9) 9) := there_sub t5 _ _ (by omega)
  have T3 : Hid (w3.there (w.heap.size + 2) 0 (flat L).length) := there_sub t3 _ _ (by omega)
  have S3 : Hid (∀ j v, (flat L)[j]? = some v → w3.cell? (a.add j) = some v) := s3
  have HW4 : Hid (w3.setCells (w.heap.size + 2) 0 (flat L) = w4) := hw4
  have HW5 : Hid (w4.setCells (w.heap.size + 2) (L.length * 9) (mark ⟨#[35]⟩).toList = w5) := hw5
  have HW6 : Hid (w5.setCells (w.heap.size + 2) ((L.length + 1) * 9) (mark ⟨#[35, 35]⟩).toList = w6) := hw6
  have m5 : w5.rangeAt (w.heap.size + 2) (L.length * 9) (mark ⟨#[35]⟩).toList := by rw [← hw5]; exact World.rangeAt_setCells_same w4 _ _ _ (there_sub t4 _ _ (by show _ + 9 ≤ _; omega))
  have m6 : w6.rangeAt (w.heap.size + 2) (L.length * 9) (mark ⟨#[35]⟩).toList := by rw [← hw6]; exact World.rangeAt_setCells_apart m5 _ _ _ (.inr (.inl (by show _ + 9 ≤ _; omega)))
  have q6 : w6.rangeAt (w.heap.size + 2) ((L.length + 1) * 9) (mark ⟨#[35, 35]⟩).toList := by rw [← hw6]; exact World.rangeAt_setCells_same w5 _ _ _ (there_sub t5 _ _ (by show _ + 9 ≤ _; omega))
  have HFIN : Hid (TwM w (w6.setCell ⟨w.heap.size + 1, 0, none⟩ (.slice (some ⟨w.heap.size + 2, 0, none⟩) L.length (L.length + 2))) L (w.heap.size + 2)) :=
    ⟨by omega, (lay_of_range (by omega) (range_mk r6 m6 q6)).set _ (by omega), fun j hj => ⟨by rw [cell_set _ (by show w.heap.size + 2 ≠ _; omega)]; exact (t6 j (by omega)).1, by rw [World.frozen?_setCell]; exact (t6 j (by omega)).2⟩⟩
  have HB6 : Hid (Below w.heap.size w w6) := B6
  have n0 : (0 : Int) ≤ (L.length : Int) := by omega
  have n1 : (L.length : Int) < (L.length : Int) + 2 := by omega
  have he : ∀ w : World, (binOp BinOp.eql 22 (.slice (some a) L.length cap) (.slice none 0 0)).run Tryd.prog w = .ok (.bool false) w := nil_eq (some a) L.length cap
  clear hw4 hw5 hw6 t3 t4 t5 t6 r4 r5 r6 m5 m6 q6 e4 e5 e6 s3 hs B6 B2 B3 hZ
  have hcp : (Builtin.copy_ #[22, 22] 3 #[.slice (some ⟨w.heap.size + 2, 0, none⟩) (L.length + 2) (L.length + 2), .slice (some a) L.length cap]).run Tryd.prog w3 = .ok (.int .i64 (L.length : Int)) w4 := by
    rw [← HW4.out]
    exact run_copy9 w3 3 (w.heap.size + 2) _ _ a L.length cap (flat L) hfl (by omega) S3.out T3.out (flat_one L)
  have HM1 : Hid ((mark ⟨#[35]⟩).all (·.oneCell') = true) := mark_one _
  have HM2 : Hid ((mark ⟨#[35, 35]⟩).all (·.oneCell') = true) := mark_one _
  clear HW4 T3 S3 hfl
  go_enter Tryd.func8, Tryd.ntmps8
  go_wp2_with (first
    | (refine wpList_store_mid (by rfl) 36 (.tmp 22) (.tmp 21) (by rfl) (w.heap.size + 2) (L.length * 9) (mark ⟨#[35]⟩) (by rfl) (by rfl) T4.out size36 HM1.out ?_; rw [HW5.out])
    | (refine wpList_store_mid (by rfl) 36 (.tmp 29) (.tmp 28) (by rfl) (w.heap.size + 2) ((L.length + 1) * 9) (mark ⟨#[35, 35]⟩) (by rfl) (by rfl) T5.out size36 HM2.out ?_; rw [HW6.out])
    | go_in)
  have hq : (w6.setCell ⟨w.heap.size + 1, 0, none⟩ (.slice (some ⟨w.heap.size + 2, 0, none⟩) L.length (L.length + 2))).cell? ⟨w.heap.size + 1, 0, none⟩ = some (.slice (some ⟨w.heap.size + 2, 0, none⟩) L.length (L.length + 2)) := World.cell?_setCell_same' _ _ _ (by rw [g1]; rfl)
  exact bodyPost_ret (v := .agg #[.slice (some ⟨w.heap.size + 2, 0, none⟩) L.length (L.length + 2)]) (by simp [results, Tryd.results8, go_sem, hq]) rfl ⟨⟨_, rfl, HFIN⟩, HB6.out.setCell (p := ⟨w.heap.size + 1, 0, none⟩) (by show w.heap.size ≤ w.heap.size + 1; omega) _⟩


/-- A twin with its marks, or nothing of nothing. -/
theorem twinM_any (w : World) (p : Option Addr) (n cap : Nat) (L : List Nd) (h : Arg w p n cap L) :
    Calls Tryd.prog 8 #[.agg #[.slice p n cap]] w fun e w' => ((p = none ∧ L = [] ∧ e = .returned (.agg #[.slice none 0 0])) ∨ ∃ B, p ≠ none ∧ e = .returned (.agg #[.slice (some ⟨B, 0, none⟩) n (n + 2)]) ∧ Hid (TwM w w' L B)) ∧ Below w.heap.size w w' := by
  obtain ⟨⟨hf, rfl, hr⟩, hn⟩ := h
  cases p with
  | none =>
    obtain ⟨h0, rfl⟩ := hn rfl
    have hL : L = [] := List.length_eq_zero_iff.1 h0
    subst hL
    exact (twin_nil w).mono fun e w' h => ⟨.inl ⟨rfl, rfl, h.1⟩, h.2⟩
  | some a =>
    refine (twinM_some w a cap L hf.len ?_).mono fun e w' h => ?_
    · by_cases hne : L = []
      · subst hne
        intro j v hv
        simp [flat] at hv
      · obtain ⟨g, o, e, hl⟩ := hr hne
        cases e
        exact flat_src hl
    · obtain ⟨⟨B, e1, e2⟩, hb⟩ := h
      exact ⟨.inr ⟨B, by simp, e1, e2⟩, hb⟩
end Go.Proofs.YtekgnogjfggnmaaDoor

namespace Go.Proofs.YtekgnogjfggnmaaDoor
open Go.RowKit

set_option maxRecDepth 100000 in
theorem neqA (kd ps nmI : Int) (nm lb ty : ByteArray) (op it : Int) (tx : ByteArray) (zz kd' : Int) (nm' lb' ty' : ByteArray) (op' it' : Int) (tx' : ByteArray) (zz' : Int) : ∀ w : World,
    (binOp BinOp.neq 36 (.agg #[.int .i64 kd, .int .i64 ps, .string nm, .string lb, .string ty, .int .i64 op, .int .i64 it, .string tx, .int .i64 zz]) (.agg #[.int .i64 kd', .int .i64 ps, .string nm', .string lb', .string ty', .int .i64 op', .int .i64 it', .string tx', .int .i64 zz'])).run Tryd.prog w = .ok (.bool (!alikeB ⟨kd, nmI, nm, lb, ty, op, it, tx, zz⟩ ⟨kd', ps, nm', lb', ty', op', it', tx', zz'⟩)) w := by
  intro w
  unfold alikeB
  cases h1 : (kd == kd') with
  | false => simp [go_sem, h1]
  | true =>
    cases h2 : (nm.toList == nm'.toList) with
    | false => simp [go_sem, h1, h2]
    | true =>
      cases h3 : (lb.toList == lb'.toList) with
      | false => simp [go_sem, h1, h2, h3]
      | true =>
        cases h4 : (ty.toList == ty'.toList) with
        | false => simp [go_sem, h1, h2, h3, h4]
        | true =>
          cases h5 : (op == op') with
          | false => simp [go_sem, h1, h2, h3, h4, h5]
          | true =>
            cases h6 : (it == it') with
            | false => simp [go_sem, h1, h2, h3, h4, h5, h6]
            | true =>
              cases h7 : (tx.toList == tx'.toList) with
              | false => simp [go_sem, h1, h2, h3, h4, h5, h6, h7]
              | true =>
                cases h8 : (zz == zz') with
                | false => simp [go_sem, h1, h2, h3, h4, h5, h6, h7, h8]
                | true => simp [go_sem, h1, h2, h3, h4, h5, h6, h7, h8]

set_option maxRecDepth 100000 in
set_option maxHeartbeats 1000000 in
theorem rsame_any (w : World) (p : Option Addr) (n cap : Nat) (p' : Option Addr) (n' cap' : Nat) (A B : List Nd) (ha : Reads w p n A) (hb : Reads w p' n' B) (hk : RKw w) (hra : Rng A) (hrb : Rng B) :
    Calls Tryd.prog 18 #[.agg #[.slice p n cap], .agg #[.slice p' n' cap']] w fun e w' => e = .returned (.bool (sameS A B)) ∧ Below w.heap.size w w' := by
  obtain ⟨w1, hw1⟩ : ∃ w1, (w.alloc (.cells #[.slice p n cap] 24)).alloc (.cells #[.slice p' n' cap'] 24) = w1 := ⟨_, rfl⟩
  have B1 : Hid (Below w.heap.size w w1) := by rw [← hw1]; exact ((Below.refl _ w).alloc (Nat.le_refl _) _).alloc (by simp) _
  have c1 : w1.cell? ⟨w.heap.size, 0, none⟩ = some (.slice p n cap) := by rw [← hw1]; exact cell_old _ (cell_new _ _ _ _ _ rfl)
  have c2 : w1.cell? ⟨w.heap.size + 1, 0, none⟩ = some (.slice p' n' cap') := by rw [← hw1]; have := cell_new (w.alloc (.cells #[.slice p n cap] 24)) #[.slice p' n' cap'] 24 0 _ rfl; rwa [World.size_alloc] at this
  have z1 : w.heap.size + 1 < w1.heap.size := by rw [← hw1]; simp
  have z0 : w.heap.size < w1.heap.size := by omega
  have RA : Hid (Reads w1 p n A) := ha.next B1.out
  have RB : Hid (Reads w1 p' n' B) := hb.next B1.out
  have K1 : Hid (RKw w1) := hk.next B1.out
  have HA : Hid (∀ w', Below w1.heap.size w1 w' → Calls Tryd.prog 17 #[.agg #[.slice p n cap]] w' fun e w'' => e = .returned (.int .i64 (if treeS nameS typeS A then 0 else 30)) ∧ Below w'.heap.size w' w'') := fun w' hb => rvalidT_any w' p n cap A (RA.out.next hb) (K1.out.next hb) hra
  have HB : Hid (∀ w', Below w1.heap.size w1 w' → Calls Tryd.prog 17 #[.agg #[.slice p' n' cap']] w' fun e w'' => e = .returned (.int .i64 (if treeS nameS typeS B then 0 else 30)) ∧ Below w'.heap.size w' w'') := fun w' hb => rvalidT_any w' p' n' cap' B (RB.out.next hb) (K1.out.next hb) hrb
  obtain ⟨r, hr⟩ : ∃ r, sameS A B = r := ⟨_, rfl⟩
  have HR : Hid ((treeS nameS typeS A && treeS nameS typeS B && sameL A B) = r) := hr
  rw [hr]
  clear hr ha hb hk K1 hra hrb
  have hcur : Below w1.heap.size w1 w1 := Below.refl _ _
  have HC : Hid (∀ w', Below w1.heap.size w1 w' → w'.cell? ⟨w.heap.size, 0, none⟩ = some (.slice p n cap) ∧ w'.cell? ⟨w.heap.size + 1, 0, none⟩ = some (.slice p' n' cap')) := fun w' hb => ⟨(hb.cell (p := ⟨w.heap.size, 0, none⟩) z0).trans c1, (hb.cell (p := ⟨w.heap.size + 1, 0, none⟩) z1).trans c2⟩
  cases hta : treeS nameS typeS A with
  | false =>
    rw [hta] at HA
    have HF : r = false := by rw [← HR.out, hta]; rfl
    subst HF
    clear HR hta HB
    go_enter Tryd.func18, Tryd.ntmps18
    go_wp2_with (first
      | (go_at_call 17; refine (HA.out _ hcur).mono ?_; rintro e w2 ⟨rfl, hb2⟩; replace hcur := hcur.trans (hb2.mono hcur.size))
      | go_in)
    go_ret
    exact ⟨rfl, B1.out.trans (hcur.mono B1.out.size)⟩
  | true =>
    rw [hta] at HA
    cases htb : treeS nameS typeS B with
    | false =>
      rw [htb] at HB
      have HF : r = false := by rw [← HR.out, hta, htb]; rfl
      subst HF
      clear HR hta htb
      go_enter Tryd.func18, Tryd.ntmps18
      go_wp2_with (first
        | (go_at_call 17; refine (HA.out _ hcur).mono ?_; rintro e w2 ⟨rfl, hb2⟩; replace hcur := hcur.trans (hb2.mono hcur.size); obtain ⟨e1, e2⟩ := HC.out _ hcur; clear HA)
        | (go_at_call 17; refine (HB.out _ hcur).mono ?_; rintro e w3 ⟨rfl, hb3⟩; replace hcur := hcur.trans (hb3.mono hcur.size))
        | go_in)
      go_ret
      exact ⟨rfl, B1.out.trans (hcur.mono B1.out.size)⟩
    | true =>
      rw [htb] at HB
      rw [hta, htb, Bool.true_and, Bool.true_and] at HR
      clear hta htb
      by_cases hnn : n = n'
      · subst hnn
        go_enter Tryd.func18, Tryd.ntmps18
        go_upto_region 3 with (first
          | (go_at_call 17; refine (HA.out _ hcur).mono ?_; rintro e w2 ⟨rfl, hb2⟩; replace hcur := hcur.trans (hb2.mono hcur.size); obtain ⟨e1, e2⟩ := HC.out _ hcur; clear HA)
          | (go_at_call 17; refine (HB.out _ hcur).mono ?_; rintro e w3 ⟨rfl, hb3⟩; replace hcur := hcur.trans (hb3.mono hcur.size); obtain ⟨e3, e4⟩ := HC.out _ hcur)
          | go_in)
        have W2 : Hid (Below w1.heap.size w1 w3) := hcur
        have HLN : Hid (A.length = n ∧ B.length = n ∧ n ≤ 1353245080300) := ⟨RA.out.2.1, RB.out.2.1, by have := RA.out.1.len; have := RA.out.2.1; omega⟩
        have hLb := HLN.out.2.2
        clear e1 e2 hb2 HB hb3 hcur e3 e4 c1 c2 hw1
        go_wp2
        go_loopw [5, 6] (fun v _ wr => ∃ k : Nat, k ≤ n ∧ v = .int .i64 (k : Int) ∧ Hid (∀ m, m < k → alikeB (nd A m) (nd B m) = true) ∧ Hid (Below w1.heap.size w1 wr)) (fun v _ _ => n - (intOf v).toNat)
        case atStart => exact ⟨0, by omega, rfl, fun m hm => by omega, W2⟩
        case round =>
          obtain ⟨k, hk, rfl, hall, hB⟩ := hrel
          clear W2
          obtain ⟨e1, e2⟩ := HC.out _ hB.out
          by_cases hlt : k < n
          · have j0 : (0 : Int) ≤ (k : Int) := by omega
            have j1 : (k : Int) < (n : Int) := by omega
            have j3 : IntKind.i64.wrap ((k : Int) + 1) = (k : Int) + 1 := by rw [IntKind.wrap_i64]; omega
            have hkA : k < A.length := by rw [HLN.out.1]; exact hlt
            have hkB : k < B.length := by rw [HLN.out.2.1]; exact hlt
            obtain ⟨g, o, rfl, hl⟩ := RA.out.2.2 (fun e => by rw [e] at hkA; simp at hkA)
            obtain ⟨g', o', rfl, hl'⟩ := RB.out.2.2 (fun e => by rw [e] at hkB; simp at hkB)
            have hgl := (hl.next hB.out).lt
            have hgl' := (hl'.next hB.out).lt
            have dA := (hl.next hB.out).c k hkA
            have dB := (hl'.next hB.out).c k hkB
            obtain ⟨x, hx⟩ : ∃ x, nd A k = x := ⟨_, rfl⟩
            obtain ⟨y, hy⟩ : ∃ y, nd B k = y := ⟨_, rfl⟩
            have HXY : Hid (alikeB (nd A k) (nd B k) = alikeB x y) := by rw [hx, hy]; rfl
            rw [hx] at dA
            rw [hy] at dB
            clear hx hy hl hl'
            obtain ⟨kd, ps, nm, lb, ty, op, it, tx, zz⟩ := x
            obtain ⟨kd', ps', nm', lb', ty', op', it', tx', zz'⟩ := y
            have hne := neqA kd ps' ps nm lb ty op it tx zz kd' nm' lb' ty' op' it' tx' zz'
            obtain ⟨q, hq⟩ : ∃ q, alikeB ⟨kd, ps, nm, lb, ty, op, it, tx, zz⟩ ⟨kd', ps', nm', lb', ty', op', it', tx', zz'⟩ = q := ⟨_, rfl⟩
            rw [hq] at hne HXY
            clear hq
            have a0 : wr.cell? ⟨g, o + k * 9, none⟩ = some (.int .i64 kd) := dA 0 _ rfl
            have a1 : wr.cell? ⟨g, o + k * 9 + 1, none⟩ = some (.int .i64 ps) := dA 1 _ rfl
            have a2 : wr.cell? ⟨g, o + k * 9 + 2, none⟩ = some (.string nm) := dA 2 _ rfl
            have a3 : wr.cell? ⟨g, o + k * 9 + 3, none⟩ = some (.string lb) := dA 3 _ rfl
            have a4 : wr.cell? ⟨g, o + k * 9 + 4, none⟩ = some (.string ty) := dA 4 _ rfl
            have a5 : wr.cell? ⟨g, o + k * 9 + 5, none⟩ = some (.int .i64 op) := dA 5 _ rfl
            have a6 : wr.cell? ⟨g, o + k * 9 + 6, none⟩ = some (.int .i64 it) := dA 6 _ rfl
            have a7 : wr.cell? ⟨g, o + k * 9 + 7, none⟩ = some (.string tx) := dA 7 _ rfl
            have a8 : wr.cell? ⟨g, o + k * 9 + 8, none⟩ = some (.int .i64 zz) := dA 8 _ rfl
            go_upto_region 7 with go_in
            obtain ⟨wa, hwa⟩ : ∃ wa, wr.alloc (.cells #[.int .i64 kd, .int .i64 ps, .string nm, .string lb, .string ty, .int .i64 op, .int .i64 it, .string tx, .int .i64 zz] 36) = wa := ⟨_, rfl⟩
            rw [hwa]
            have za : wr.heap.size < wa.heap.size := by rw [← hwa]; simp
            have BA : Below wr.heap.size wr wa := by rw [← hwa]; exact (Below.refl _ wr).alloc (Nat.le_refl _) _
            have NX : ∀ (j : Nat) (v : Value), (ndV ⟨kd, ps, nm, lb, ty, op, it, tx, zz⟩)[j]? = some v → wa.cell? ⟨wr.heap.size, j, none⟩ = some v := fun j v hv => by rw [← hwa]; exact cell_new _ _ _ _ _ hv
            have f1 : wa.frozen? ⟨wr.heap.size, 1, none⟩ = false := by rw [← hwa]; simp
            have s1 : wa.cell? ⟨wr.heap.size, 1, none⟩ = some (.int .i64 ps) := NX 1 _ rfl
            have hcA : Below w1.heap.size w1 wa := hB.out.trans (BA.mono hB.out.size)
            obtain ⟨e3, e4⟩ := HC.out _ hcA
            have dB' : ∀ (j : Nat) (v : Value), (ndV ⟨kd', ps', nm', lb', ty', op', it', tx', zz'⟩)[j]? = some v → wa.cell? ⟨g', o' + k * 9 + j, none⟩ = some v := fun j v hv => (BA.cell (p := ⟨g', o' + k * 9 + j, none⟩) hgl').trans (dB j v hv)
            have b1 : wa.cell? ⟨g', o' + k * 9 + 1, none⟩ = some (.int .i64 ps') := dB' 1 _ rfl
            clear hwa a0 a1 a2 a3 a4 a5 a6 a7 a8 e1 e2
            go_upto_region 8 with go_in
            obtain ⟨wb, hwb⟩ : ∃ wb, wa.setCell ⟨wr.heap.size, 1, none⟩ (.int .i64 ps') = wb := ⟨_, rfl⟩
            rw [hwb]
            have zb : wr.heap.size < wb.heap.size := by rw [← hwb, size_set]; exact za
            have BB : Below wr.heap.size wr wb := by rw [← hwb]; exact BA.setCell (p := ⟨wr.heap.size, 1, none⟩) (Nat.le_refl _) _
            have hcB : Hid (Below w1.heap.size w1 wb) := hB.out.trans (BB.mono hB.out.size)
            obtain ⟨e5, e6⟩ := HC.out _ hcB.out
            have NB : ∀ (j : Nat) (v : Value), j ≠ 1 → (ndV ⟨kd, ps, nm, lb, ty, op, it, tx, zz⟩)[j]? = some v → wb.cell? ⟨wr.heap.size, j, none⟩ = some v := fun j v hj hv => by
              rw [← hwb, World.cell?_setCell_other _ _ _ _ (fun e => hj (by have := congrArg Addr.off e; simp only at this; omega))]
              exact NX j v hv
            have dB2 : ∀ (j : Nat) (v : Value), (ndV ⟨kd', ps', nm', lb', ty', op', it', tx', zz'⟩)[j]? = some v → wb.cell? ⟨g', o' + k * 9 + j, none⟩ = some v := fun j v hv => (BB.cell (p := ⟨g', o' + k * 9 + j, none⟩) hgl').trans (dB j v hv)
            have c0 : wb.cell? ⟨wr.heap.size, 0, none⟩ = some (.int .i64 kd) := NB 0 _ (by decide) rfl
            have c1 : wb.cell? ⟨wr.heap.size, 1, none⟩ = some (.int .i64 ps') := by rw [← hwb]; exact World.cell?_setCell_same _ _ _ s1
            have c2 : wb.cell? ⟨wr.heap.size, 2, none⟩ = some (.string nm) := NB 2 _ (by decide) rfl
            have c3 : wb.cell? ⟨wr.heap.size, 3, none⟩ = some (.string lb) := NB 3 _ (by decide) rfl
            have c4 : wb.cell? ⟨wr.heap.size, 4, none⟩ = some (.string ty) := NB 4 _ (by decide) rfl
            have c5 : wb.cell? ⟨wr.heap.size, 5, none⟩ = some (.int .i64 op) := NB 5 _ (by decide) rfl
            have c6 : wb.cell? ⟨wr.heap.size, 6, none⟩ = some (.int .i64 it) := NB 6 _ (by decide) rfl
            have c7 : wb.cell? ⟨wr.heap.size, 7, none⟩ = some (.string tx) := NB 7 _ (by decide) rfl
            have c8 : wb.cell? ⟨wr.heap.size, 8, none⟩ = some (.int .i64 zz) := NB 8 _ (by decide) rfl
            have d0 : wb.cell? ⟨g', o' + k * 9, none⟩ = some (.int .i64 kd') := dB2 0 _ rfl
            have d1 : wb.cell? ⟨g', o' + k * 9 + 1, none⟩ = some (.int .i64 ps') := dB2 1 _ rfl
            have d2 : wb.cell? ⟨g', o' + k * 9 + 2, none⟩ = some (.string nm') := dB2 2 _ rfl
            have d3 : wb.cell? ⟨g', o' + k * 9 + 3, none⟩ = some (.string lb') := dB2 3 _ rfl
            have d4 : wb.cell? ⟨g', o' + k * 9 + 4, none⟩ = some (.string ty') := dB2 4 _ rfl
            have d5 : wb.cell? ⟨g', o' + k * 9 + 5, none⟩ = some (.int .i64 op') := dB2 5 _ rfl
            have d6 : wb.cell? ⟨g', o' + k * 9 + 6, none⟩ = some (.int .i64 it') := dB2 6 _ rfl
            have d7 : wb.cell? ⟨g', o' + k * 9 + 7, none⟩ = some (.string tx') := dB2 7 _ rfl
            have d8 : wb.cell? ⟨g', o' + k * 9 + 8, none⟩ = some (.int .i64 zz') := dB2 8 _ rfl
            clear NX NB dA dB dB' dB2 BA BB hwb e3 e4 s1 f1 b1
            cases q with
            | false =>
              have HRF : r = false := by
                rw [← HR.out]
                exact same_no hkA HXY.out
              subst HRF
              clear HR
              go_quiet (fail)
              go_wp2
              go_ret
              exact ⟨rfl, B1.out.trans ((hcB.out.trans ((belowN wb nq).mono hcB.out.size)).mono B1.out.size)⟩
            | true =>
              go_quiet (fail)
              go_wp2
              refine ⟨⟨k + 1, by omega, by go_num, fun m hm => ?_, hcB.out.trans ((belowN wb nq).mono hcB.out.size)⟩, by simp [intOf]; omega⟩
              by_cases hmk : m < k
              · exact hall.out m hmk
              · obtain rfl : m = k := by omega
                exact HXY.out
          · obtain rfl : k = n := by omega
            have HRF : r = true := by
              rw [← HR.out]
              exact same_yes (by rw [HLN.out.1, HLN.out.2.1]) (by rw [HLN.out.1]; exact hall.out)
            subst HRF
            clear HR
            go_wp2
            go_ret
            exact ⟨rfl, B1.out.trans (hB.out.mono B1.out.size)⟩
      · have HF : r = false := by
          rw [← HR.out]
          unfold sameL
          rw [decide_eq_false (fun h => hnn (by rw [← RA.out.2.1, ← RB.out.2.1]; exact h))]
          rfl
        subst HF
        have hne : ((n : Int) != (n' : Int)) = true := by simp; omega
        clear HR
        go_enter Tryd.func18, Tryd.ntmps18
        go_wp2_with (first
          | (go_at_call 17; refine (HA.out _ hcur).mono ?_; rintro e w2 ⟨rfl, hb2⟩; replace hcur := hcur.trans (hb2.mono hcur.size); obtain ⟨e1, e2⟩ := HC.out _ hcur; clear HA)
          | (go_at_call 17; refine (HB.out _ hcur).mono ?_; rintro e w3 ⟨rfl, hb3⟩; replace hcur := hcur.trans (hb3.mono hcur.size); obtain ⟨e3, e4⟩ := HC.out _ hcur)
          | go_in)
        go_ret
        exact ⟨rfl, B1.out.trans (hcur.mono B1.out.size)⟩
end Go.Proofs.YtekgnogjfggnmaaDoor

namespace Go.Proofs.YtekgnogjfggnmaaDoor
open Go.RowKit

theorem flat_snoc (l : List Nd) (y : Nd) : flat (l ++ [y]) = flat l ++ (ndV y).toList := by simp [flat]

/-- A node is appended to a list of the call's own, as one step of a region that draws. -/
theorem step_app9 {w : World} {ops : Array Oper} {o : Oper} {a : Act} {K : Act → World → Prop} {Q : Exit → Act → World → Prop} {E : Prop} (hgd : o.guard = none) (s x : Operand)
    (ho : o.op = .call { callee := .builtin .append, args := #[s, x], argTypes := #[22, 22] }) (base : Nat) (v : Value) (l : List Nd) (hs : a.eval s = v) (hown : w.ownsRow base 36 9 v l.length (flat l))
    (ad : Addr) (c : Nat) (y : Nd) (hx : a.eval x = .slice (some ad) 1 c) (hnews : ∀ (j : Nat) (u : Value), (ndV y).toList[j]? = some u → w.cell? (ad.add j) = some u) (N : Nat) (hN : l.length + 1 = N) (h40 : N ≤ 1353245080301) (hbase : base ≤ w.heap.size)
    (h : ∀ g' cap' w', Hid (w'.ownsRow base 36 9 (.slice (some ⟨g', 0, none⟩) N cap') (l ++ [y]).length (flat (l ++ [y]))) → Below base w w' → K (a.put o.dst (.slice (some ⟨g', 0, none⟩) N cap')) w') : if Region.wanted o (yielded ops a.tmps) = true then Oper.wp Tryd.prog o a w K Q else E := by
  have hw : Region.wanted o (yielded ops a.tmps) = true := by simp [Region.wanted, hgd]
  rw [if_pos hw]
  obtain ⟨i0, hi, hz0, hz1, hz2⟩ := info_parts info36
  obtain ⟨v', w', hr, h2, h3, _⟩ := run_append_own (P := Tryd.prog) w base 22 o.type 36 i0 _ 9 104 Tryd.underlying22 hi hz0 hz1 hz2 rfl (by decide) v l.length (flat l) hown ad 1 c (ndV y).toList rfl
    hnews (by have := flat_one [y]; simpa [flat] using this) (by unfold maxLen; omega) (by omega) hbase
  subst hN
  obtain ⟨g', cap', rfl⟩ : ∃ g cap, v' = .slice (some ⟨g, 0, none⟩) (l.length + 1) cap := by
    rcases h2.2 with ⟨_, h0⟩ | ⟨g, c, _, rfl, _⟩
    · omega
    · exact ⟨g, c, rfl⟩
  unfold Oper.wp execOp
  simp only [ho, resolve, invoke, builtin, Sem.run_bind, Sem.run_pure, Result.andThen_ok, List.map_toArray, List.map_cons, List.map_nil, hs, hx, hr]
  refine h g' cap' w' ?_ ((Below.refl base w).grown h3 hbase (own_ge hown))
  show World.ownsRow _ _ _ _ _ _ _
  rw [flat_snoc, List.length_append]
  exact h2

theorem news9 (w : World) (y : Nd) : ∀ (j : Nat) (u : Value), (ndV y).toList[j]? = some u → (w.alloc (.cells (ndV y) 36)).cell? ((⟨w.heap.size, 0, none⟩ : Addr).add j) = some u := fun j u hu => by
  rw [show (⟨w.heap.size, 0, none⟩ : Addr).add j = ⟨w.heap.size, j, none⟩ by by_cases hj : j = 0 <;> simp [Addr.add, hj]]
  exact cell_new _ _ _ _ _ (by simpa using hu)

theorem subL_snoc {L : List Nd} {k m : Nat} (h1 : k ≤ m) (h2 : m < L.length) : subL L k (m + 1 - k) = subL L k (m - k) ++ [nd L m] := by
  unfold subL
  rw [show m + 1 - k = (m - k) + 1 by omega, List.take_add_one]
  congr 1
  rw [List.getElem?_drop, show k + (m - k) = m by omega]
  unfold nd
  rw [List.getD_eq_getElem?_getD, List.getElem?_eq_getElem h2]
  rfl

set_option maxRecDepth 100000 in
set_option maxHeartbeats 1000000 in
theorem rsub_any (w : World) (p : Option Addr) (n cap : Nat) (L : List Nd) (N : Int) (h : Reads w p n L) (hk : RKw w) (hrg : Rng L) :
    Calls Tryd.prog 25 #[.agg #[.slice p n cap], .int .i64 N] w fun e w' => (∃ p' cap', e = .returned (.agg #[.slice p' (subA L N).length cap']) ∧ Hid (Twn w w' (subA L N) p')) ∧ Below w.heap.size w w' := by
  obtain ⟨w1, hw1⟩ : ∃ w1, ((w.alloc (.cells #[.slice p n cap] 24)).alloc (.cells #[.slice none 0 0] 24)).alloc (.cells #[.slice none 0 0] 24) = w1 := ⟨_, rfl⟩
  have B1 : Hid (Below w.heap.size w w1) := by rw [← hw1]; exact (((Below.refl _ w).alloc (Nat.le_refl _) _).alloc (by simp) _).alloc (by simp; omega) _
  have z1 : w1.heap.size = w.heap.size + 3 := by rw [← hw1]; simp
  have c1 : w1.cell? ⟨w.heap.size, 0, none⟩ = some (.slice p n cap) := by rw [← hw1]; exact cell_old _ (cell_old _ (cell_new _ _ _ _ _ rfl))
  have c2 : w1.cell? ⟨w.heap.size + 1, 0, none⟩ = some (.slice none 0 0) ∧ w1.frozen? ⟨w.heap.size + 1, 0, none⟩ = false := by
    have := new_cell (w.alloc (.cells #[.slice p n cap] 24)) (.slice none 0 0) 24
    rw [World.size_alloc] at this
    rw [← hw1]
    exact ⟨cell_old _ this.1, by rw [frozen?_alloc_cells]; exact this.2⟩
  have c3 : w1.cell? ⟨w.heap.size + 2, 0, none⟩ = some (.slice none 0 0) ∧ w1.frozen? ⟨w.heap.size + 2, 0, none⟩ = false := by
    have := new_cell ((w.alloc (.cells #[.slice p n cap] 24)).alloc (.cells #[.slice none 0 0] 24)) (.slice none 0 0) 24
    rw [World.size_alloc, World.size_alloc] at this
    rw [← hw1]
    exact this
  have RD : Hid (Reads w1 p n L) := h.next B1.out
  have H : Hid (Calls Tryd.prog 42 #[.agg #[.slice p n cap], .int .i64 N] w1 fun e w' => e = .returned (.bool (hasS L N)) ∧ Below w1.heap.size w1 w') := there_any w1 p n cap L N RD.out (hk.next B1.out) hrg
  have HC : Hid (∀ w', Below w1.heap.size w1 w' → w'.cell? ⟨w.heap.size, 0, none⟩ = some (.slice p n cap) ∧ (w'.cell? ⟨w.heap.size + 1, 0, none⟩ = some (.slice none 0 0) ∧ w'.frozen? ⟨w.heap.size + 1, 0, none⟩ = false) ∧ (w'.cell? ⟨w.heap.size + 2, 0, none⟩ = some (.slice none 0 0) ∧ w'.frozen? ⟨w.heap.size + 2, 0, none⟩ = false)) := fun w' hb =>
    ⟨(hb.cell (p := ⟨w.heap.size, 0, none⟩) (by show w.heap.size < _; omega)).trans c1,
     ⟨(hb.cell (p := ⟨w.heap.size + 1, 0, none⟩) (by show w.heap.size + 1 < _; omega)).trans c2.1, (hb.frozen (p := ⟨w.heap.size + 1, 0, none⟩) (by show w.heap.size + 1 < _; omega)).trans c2.2⟩,
     ⟨(hb.cell (p := ⟨w.heap.size + 2, 0, none⟩) (by show w.heap.size + 2 < _; omega)).trans c3.1, (hb.frozen (p := ⟨w.heap.size + 2, 0, none⟩) (by show w.heap.size + 2 < _; omega)).trans c3.2⟩⟩
  clear hk hrg c2 c3
  cases hh : hasS L N with
  | false =>
    have HK : subA L N = [] := by unfold subA; rw [hh]; rfl
    rw [HK]
    rw [hh] at H
    clear hh HK
    go_enter Tryd.func25, Tryd.ntmps25
    go_wp2_with (first
      | (go_at_call 42; refine H.out.mono ?_; rintro e w2 ⟨rfl, hb2⟩; obtain ⟨d1, ⟨d2, f2⟩, d3, f3⟩ := HC.out w2 hb2)
      | go_in)
    have hq : (w2.setCell ⟨w.heap.size + 1, 0, none⟩ (.slice none 0 0)).cell? ⟨w.heap.size + 1, 0, none⟩ = some (.slice none 0 0) := World.cell?_setCell_same _ _ _ d2
    exact bodyPost_ret (v := .agg #[.slice none 0 0]) (by simp [results, Tryd.results25, go_sem, hq]) rfl ⟨⟨none, 0, rfl, fun hne => absurd rfl hne⟩, (B1.out.trans (hb2.mono B1.out.size)).setCell (p := ⟨w.heap.size + 1, 0, none⟩) (by show w.heap.size ≤ w.heap.size + 1; omega) _⟩
  | true =>
    rw [hh] at H
    obtain ⟨k, rfl, hkl, ht⟩ := has_tree hh
    have HK : subA L (k : Int) = subL L k (sz L k).toNat := by unfold subA; rw [hh, Int.toNat_natCast]; rfl
    rw [HK]
    obtain ⟨g1, g2⟩ := (tr_of ht).good k hkl
    obtain ⟨hf, hlen, hrd⟩ := RD.out
    subst hlen
    have hLb := hf.len
    obtain ⟨g, o, rfl, hl⟩ := hrd (fun e => by rw [e] at hkl; simp at hkl)
    have HL : Hid (Lay w1 g o L) := hl
    obtain ⟨s, hs⟩ : ∃ s : Nat, sz L k = (s : Int) := ⟨(sz L k).toNat, by omega⟩
    rw [hs, Int.toNat_natCast]
    rw [hs] at g1 g2
    have HSK : Hid (∀ w', Below w1.heap.size w1 w' → w'.cell? ⟨g, o + k * 9 + 8, none⟩ = some (.int .i64 (s : Int))) := fun w' hb => by
      have := (HL.out.next hb).size hkl
      rwa [show (nd L k).size = (s : Int) from hs] at this
    have hgw : Hid (g < w.heap.size) := by
      obtain ⟨hf', _, hrd'⟩ := h
      obtain ⟨g', o', e, hl'⟩ := hrd' (fun e => by rw [e] at hkl; simp at hkl)
      cases e
      exact hl'.lt
    have HLW : Hid (Lay w g o L) := by
      obtain ⟨hf', _, hrd'⟩ := h
      obtain ⟨g', o', e, hl'⟩ := hrd' (fun e => by rw [e] at hkl; simp at hkl)
      cases e
      exact hl'
    clear hh HK hl hs RD hrd hf ht h
    have i0 : (0 : Int) ≤ (k : Int) := by omega
    have i1 : (k : Int) < (L.length : Int) := by omega
    have i2 : IntKind.i64.wrap ((k : Int) + (s : Int)) = (k : Int) + (s : Int) := by rw [IntKind.wrap_i64]; omega
    go_enter Tryd.func25, Tryd.ntmps25
    go_upto_region 3 with (first
      | (go_at_call 42; refine H.out.mono ?_; rintro e w2 ⟨rfl, hb2⟩)
      | go_in)
    have z2 : w.heap.size + 3 ≤ w2.heap.size := by have := hb2.size; omega
    have BB : Hid (Below w.heap.size w w2) := B1.out.trans (hb2.mono B1.out.size)
    obtain ⟨d1, ⟨d2, f2⟩, d3, f3⟩ := HC.out w2 hb2
    have HLS : Hid (∀ w', Below w.heap.size w w' → Lay w' g o L) := fun w' hb => HLW.out.next hb
    have HNS : Hid ((nd L k).size = (s : Int)) := by
      have := HSK.out w2 hb2
      have h2 := ((HL.out.next hb2).size hkl).symm.trans this
      injection h2 with h2
      injection h2
    have D0 : Hid (w2.cell? ⟨w.heap.size, 0, none⟩ = some (.slice (some ⟨g, o, none⟩) L.length cap) ∧ (w2.cell? ⟨w.heap.size + 1, 0, none⟩ = some (.slice none 0 0) ∧ w2.frozen? ⟨w.heap.size + 1, 0, none⟩ = false) ∧ w2.cell? ⟨w.heap.size + 2, 0, none⟩ = some (.slice none 0 0) ∧ w2.frozen? ⟨w.heap.size + 2, 0, none⟩ = false) := ⟨d1, ⟨d2, f2⟩, d3, f3⟩
    clear HL H HC c1 hw1 B1 d1 d2 d3 f2 f3 HSK hb2 z1
    go_wp2
    go_loopw [6] (fun u wr => ∃ (m : Nat) (v : Value), k ≤ m ∧ m ≤ k + s ∧ u = .int .i64 (m : Int) ∧ Hid (wr.ownsRow w2.heap.size 36 9 v (subL L k (m - k)).length (flat (subL L k (m - k)))) ∧ Hid (wr.cell? ⟨w.heap.size, 0, none⟩ = some (.slice (some ⟨g, o, none⟩) L.length cap) ∧ (wr.cell? ⟨w.heap.size + 1, 0, none⟩ = some (.slice none 0 0) ∧ wr.frozen? ⟨w.heap.size + 1, 0, none⟩ = false) ∧ wr.cell? ⟨w.heap.size + 2, 0, none⟩ = some v ∧ wr.frozen? ⟨w.heap.size + 2, 0, none⟩ = false) ∧ Hid (Below w.heap.size w wr) ∧ w2.heap.size ≤ wr.heap.size) (fun v _ => k + s - (intOf v).toNat)
    case atStart => exact ⟨k, .slice none 0 0, Nat.le_refl _, by omega, rfl, by rw [Nat.sub_self]; exact World.ownsRow_nil _ _ _ _, D0, BB, Nat.le_refl _⟩
    case round =>
      obtain ⟨m, v, hm1, hm2, rfl, hO, hD, hB, hz⟩ := hrel
      obtain ⟨d1, ⟨d2, f2⟩, d3, f3⟩ := hD.out
      have ds := (HLS.out _ hB.out).size hkl
      rw [HNS.out] at ds
      clear D0 BB
      by_cases hlt : m < k + s
      · have j0 : (0 : Int) ≤ (m : Int) := by omega
        have j1 : (m : Int) < (L.length : Int) := by omega
        have j2 : (m : Int) < (k : Int) + (s : Int) := by omega
        have j3 : IntKind.i64.wrap ((m : Int) + 1) = (m : Int) + 1 := by rw [IntKind.wrap_i64]; omega
        have HSN : Hid (subL L k (m + 1 - k) = subL L k (m - k) ++ [nd L m]) := subL_snoc hm1 (by omega)
        have hsl : (subL L k (m - k)).length + 1 = m - k + 1 := by rw [subL_len (by omega)]
        have dA := (HLS.out _ hB.out).c m (by omega)
        obtain ⟨y, hy⟩ : ∃ y, nd L m = y := ⟨_, rfl⟩
        rw [hy] at dA HSN
        clear hy
        obtain ⟨kd, ps, nm, lb, ty, op, it, tx, zz⟩ := y
        have a0 : wr.cell? ⟨g, o + m * 9, none⟩ = some (.int .i64 kd) := dA 0 _ rfl
        have a1 : wr.cell? ⟨g, o + m * 9 + 1, none⟩ = some (.int .i64 ps) := dA 1 _ rfl
        have a2 : wr.cell? ⟨g, o + m * 9 + 2, none⟩ = some (.string nm) := dA 2 _ rfl
        have a3 : wr.cell? ⟨g, o + m * 9 + 3, none⟩ = some (.string lb) := dA 3 _ rfl
        have a4 : wr.cell? ⟨g, o + m * 9 + 4, none⟩ = some (.string ty) := dA 4 _ rfl
        have a5 : wr.cell? ⟨g, o + m * 9 + 5, none⟩ = some (.int .i64 op) := dA 5 _ rfl
        have a6 : wr.cell? ⟨g, o + m * 9 + 6, none⟩ = some (.int .i64 it) := dA 6 _ rfl
        have a7 : wr.cell? ⟨g, o + m * 9 + 7, none⟩ = some (.string tx) := dA 7 _ rfl
        have a8 : wr.cell? ⟨g, o + m * 9 + 8, none⟩ = some (.int .i64 zz) := dA 8 _ rfl
        clear dA
        have HO : Hid (∀ ob, (wr.drew.alloc ob).ownsRow w2.heap.size 36 9 v (subL L k (m - k)).length (flat (subL L k (m - k)))) := fun ob => by
          have h1 : wr.drew.ownsRow w2.heap.size 36 9 v (subL L k (m - k)).length (flat (subL L k (m - k))) := own_stays hO.out ((Below.refl _ wr).drew)
          exact h1.alloc _
        have HSL : Hid ((subL L k (m - k)).length + 1 = m - k + 1) := hsl
        clear hsl
        have d3' : (wr.alloc (.cells #[.int .i64 kd, .int .i64 ps, .string nm, .string lb, .string ty, .int .i64 op, .int .i64 it, .string tx, .int .i64 zz] 36)).cell? ⟨w.heap.size + 1 + 1, 0, none⟩ = some v := cell_old _ d3
        go_upto_region 6 with fail
        go_region_law (first
          | (refine step_app9 (by rfl) _ _ (by rfl) w2.heap.size v (subL L k (m - k)) (by rfl) (HO.out _) _ 1 ⟨kd, ps, nm, lb, ty, op, it, tx, zz⟩ (by rfl) (news9 wr.drew ⟨kd, ps, nm, lb, ty, op, it, tx, zz⟩) _ HSL.out (by omega) (by simp; omega) ?_; intro g7 c7 w7 ho7 hb7; have d7 : w7.cell? ⟨w.heap.size + 1 + 1, 0, none⟩ = some v := (hb7.cell (p := ⟨w.heap.size + 2, 0, none⟩) (by show w.heap.size + 2 < _; omega)).trans (cell_old _ d3); have f7 : w7.frozen? ⟨w.heap.size + 1 + 1, 0, none⟩ = false := (hb7.frozen (p := ⟨w.heap.size + 2, 0, none⟩) (by show w.heap.size + 2 < _; omega)).trans ((frozen?_alloc_cells _ _ _ _).trans f3)))
        all_goals
          have e1 : w7.cell? ⟨w.heap.size, 0, none⟩ = some (.slice (some ⟨g, o, none⟩) L.length cap) := (hb7.cell (p := ⟨w.heap.size, 0, none⟩) (by show w.heap.size < _; omega)).trans (cell_old _ d1)
          have e2 : w7.cell? ⟨w.heap.size + 1, 0, none⟩ = some (.slice none 0 0) := (hb7.cell (p := ⟨w.heap.size + 1, 0, none⟩) (by show w.heap.size + 1 < _; omega)).trans (cell_old _ d2)
          have e3 : w7.frozen? ⟨w.heap.size + 1, 0, none⟩ = false := (hb7.frozen (p := ⟨w.heap.size + 1, 0, none⟩) (by show w.heap.size + 1 < _; omega)).trans ((frozen?_alloc_cells _ _ _ _).trans f2)
          have hz7 : (wr.alloc (.cells #[.int .i64 kd, .int .i64 ps, .string nm, .string lb, .string ty, .int .i64 op, .int .i64 it, .string tx, .int .i64 zz] 36)).heap.size ≤ w7.heap.size := hb7.size
          rw [World.size_alloc] at hz7
          have hz7' : w2.heap.size ≤ w7.heap.size := by omega
          have hb8 : Below w.heap.size w w7 := ((hB.out.drew).alloc hB.out.size _).trans (hb7.mono (by omega))
          have HB8 : Hid (Below w.heap.size w (w7.setCell ⟨w.heap.size + 1 + 1, 0, none⟩ (.slice (some ⟨g7, 0, none⟩) (m - k + 1) c7))) := hb8.setCell (p := ⟨w.heap.size + 1 + 1, 0, none⟩) (by show w.heap.size ≤ w.heap.size + 1 + 1; omega) _
          have HO8 : Hid ((w7.setCell ⟨w.heap.size + 1 + 1, 0, none⟩ (.slice (some ⟨g7, 0, none⟩) (m - k + 1) c7)).ownsRow w2.heap.size 36 9 (.slice (some ⟨g7, 0, none⟩) (m - k + 1) c7) (subL L k (m + 1 - k)).length (flat (subL L k (m + 1 - k)))) := by
            show World.ownsRow _ _ _ _ _ _ _
            rw [HSN.out]
            exact ownsRow_setCell_below ho7.out (a := ⟨w.heap.size + 1 + 1, 0, none⟩) (by show w.heap.size + 1 + 1 < _; omega) _
          have HD8 : Hid (∀ W, w7.setCell ⟨w.heap.size + 1 + 1, 0, none⟩ (.slice (some ⟨g7, 0, none⟩) (m - k + 1) c7) = W → (W.cell? ⟨w.heap.size, 0, none⟩ = some (.slice (some ⟨g, o, none⟩) L.length cap) ∧ (W.cell? ⟨w.heap.size + 1, 0, none⟩ = some (.slice none 0 0) ∧ W.frozen? ⟨w.heap.size + 1, 0, none⟩ = false) ∧ W.cell? ⟨w.heap.size + 2, 0, none⟩ = some (.slice (some ⟨g7, 0, none⟩) (m - k + 1) c7) ∧ W.frozen? ⟨w.heap.size + 2, 0, none⟩ = false) ∧ w2.heap.size ≤ W.heap.size) := fun W hW => by
            subst hW
            refine ⟨⟨?_, ⟨?_, ?_⟩, World.cell?_setCell_same _ _ _ d7, ?_⟩, ?_⟩
            · rw [World.cell?_setCell_other _ _ _ _ (fun e => by have := congrArg Addr.block e; simp only at this; omega)]; exact e1
            · rw [World.cell?_setCell_other _ _ _ _ (fun e => by have := congrArg Addr.block e; simp only at this; omega)]; exact e2
            · rw [World.frozen?_setCell]; exact e3
            · rw [World.frozen?_setCell]; exact f7
            · rw [size_set]; exact hz7'
          clear hO hD HO
          go_wp2
          exact ⟨⟨m + 1, _, by omega, by omega, by go_num, HO8, (HD8.out _ rfl).1, HB8, (HD8.out _ rfl).2⟩, by simp [intOf]; omega⟩
      · obtain rfl : m = k + s := by omega
        have j2 : ¬ ((k + s : Nat) : Int) < (k : Int) + (s : Int) := by omega
        rw [show k + s - k = s by omega] at hO
        have hSL : (subL L k s).length = s := subL_len (by omega)
        have hO' := hO.out
        rcases hO'.2 with ⟨_, h0⟩ | ⟨g', c', cur, rfl, _⟩
        · omega
        · have hF := lay_of_own hO'
          have HFIN : Hid (Twn w (wr.setCell ⟨w.heap.size + 1, 0, none⟩ (.slice (some ⟨g', 0, none⟩) (subL L k s).length c')) (subL L k s) (some ⟨g', 0, none⟩)) := fun _ =>
            ⟨g', rfl, by omega, hF.2.1.set _ (by omega), fun j hj => ⟨by rw [cell_set _ (by show g' ≠ _; omega)]; exact (hF.2.2 j hj).1, by rw [World.frozen?_setCell]; exact (hF.2.2 j hj).2⟩⟩
          have HBF : Hid (Below w.heap.size w (wr.setCell ⟨w.heap.size + 1, 0, none⟩ (.slice (some ⟨g', 0, none⟩) (subL L k s).length c'))) := hB.out.setCell (p := ⟨w.heap.size + 1, 0, none⟩) (by show w.heap.size ≤ w.heap.size + 1; omega) _
          have hq : (wr.setCell ⟨w.heap.size + 1, 0, none⟩ (.slice (some ⟨g', 0, none⟩) (subL L k s).length c')).cell? ⟨w.heap.size + 1, 0, none⟩ = some (.slice (some ⟨g', 0, none⟩) (subL L k s).length c') := World.cell?_setCell_same _ _ _ d2
          have HQ : Hid _ := hq
          have d3' : wr.cell? ⟨w.heap.size + 1 + 1, 0, none⟩ = some (.slice (some ⟨g', 0, none⟩) (subL L k s).length c') := d3
          clear hO hO' hF hq hSL hD
          go_wp2
          exact bodyPost_ret (v := .agg #[.slice (some ⟨g', 0, none⟩) (subL L k s).length c']) (by have := HQ.out; simp [results, Tryd.results25, go_sem, this]) rfl ⟨⟨some ⟨g', 0, none⟩, ⟨c', rfl⟩, HFIN⟩, HBF.out⟩
end Go.Proofs.YtekgnogjfggnmaaDoor

namespace Go.Proofs.YtekgnogjfggnmaaDoor
open Go.RowKit

/-- A list that is appended to nothing: a twin of its own. -/
theorem run_dup (w : World) (p : Option Addr) (n cap : Nat) (S : List Nd) (h : Reads w p n S) (hp : p = none → n = 0 ∧ cap = 0) :
    ∃ p' cap' w', (Builtin.append_ #[22, 22] 22 #[.slice none 0 0, .slice p n cap]).run Tryd.prog w = .ok (.slice p' n cap') w' ∧ Twn w w' S p' ∧ Below w.heap.size w w' := by
  obtain ⟨hf, rfl, hr⟩ := h
  have hL := hf.len
  cases p with
  | none =>
    obtain ⟨h0, rfl⟩ := hp rfl
    have hS : S = [] := List.length_eq_zero_iff.1 h0
    subst hS
    exact ⟨none, 0, w, by kernel_rfl, fun hne => absurd rfl hne, Below.refl _ _⟩
  | some a =>
    have hs : ∀ (j : Nat) (v : Value), (flat S)[j]? = some v → w.cell? (a.add j) = some v := by
      by_cases hne : S = []
      · subst hne
        intro j v hv
        simp [flat] at hv
      · obtain ⟨g, o, e, hl⟩ := hr hne
        cases e
        exact fun j v hv => (flat_src hl j v hv).1
    obtain ⟨i0, hi, hz0, hz1, hz2⟩ := info_parts info36
    obtain ⟨v', w2, hrun, h2, h3, _⟩ := run_append_own (P := Tryd.prog) w w.heap.size 22 22 36 i0 _ 9 104 Tryd.underlying22 hi hz0 hz1 hz2 rfl (by decide) (.slice none 0 0) 0 [] (World.ownsRow_nil _ _ _ _) a S.length cap (flat S) (flat_len S)
      hs (flat_one S) (by unfold maxLen; omega) (by omega) (Nat.le_refl _)
    rw [Nat.zero_add, List.nil_append] at h2
    have hb : Below w.heap.size w w2 := (Below.refl _ w).grown h3 (Nat.le_refl _) (own_ge (World.ownsRow_nil w w.heap.size 36 9))
    rcases h2.2 with ⟨rfl, h0⟩ | ⟨g, c, cur, rfl, _⟩
    · have hS : S = [] := List.length_eq_zero_iff.1 h0
      subst hS
      exact ⟨none, 0, w2, hrun, fun hne => absurd rfl hne, hb⟩
    · have hF := lay_of_own h2
      exact ⟨_, _, w2, hrun, fun _ => ⟨g, rfl, hF.1, hF.2.1, hF.2.2⟩, hb⟩
end Go.Proofs.YtekgnogjfggnmaaDoor

namespace Go.Proofs.YtekgnogjfggnmaaDoor
open Go.RowKit

set_option maxRecDepth 100000 in
set_option maxHeartbeats 1000000 in
theorem unlike_some (w : World) (b0 B B' n ca c' : Nat) (A : List Nd) (hne : A ≠ []) (hf : Fine A) (hn : A.length = n) (hl : Lay w B 0 A) (ht : w.there B 0 (A.length * 9)) (hBB : B' ≠ B) (hl' : Lay w B' 0 A) (hb0 : b0 ≤ B)
    (hK : Hid (∀ w', Below b0 w w' → KwAt w' ∧ RKw w')) (hrg : Hid (Rng A)) :
    Calls Tryd.prog 47 #[.agg #[.slice (some ⟨B, 0, none⟩) n ca], .agg #[.slice (some ⟨B', 0, none⟩) n c']] w fun e w' => e = .returned (.bool true) ∧ Below b0 w w' := by
  obtain ⟨w1, hw1⟩ : ∃ w1, (w.alloc (.cells #[.slice (some ⟨B, 0, none⟩) n ca] 24)).alloc (.cells #[.slice (some ⟨B', 0, none⟩) n c'] 24) = w1 := ⟨_, rfl⟩
  have B1 : Hid (Below w.heap.size w w1) := by rw [← hw1]; exact ((Below.refl _ w).alloc (Nat.le_refl _) _).alloc (by simp) _
  have c1 : w1.cell? ⟨w.heap.size, 0, none⟩ = some (.slice (some ⟨B, 0, none⟩) n ca) := by rw [← hw1]; exact cell_old _ (cell_new _ _ _ _ _ rfl)
  have c2 : w1.cell? ⟨w.heap.size + 1, 0, none⟩ = some (.slice (some ⟨B', 0, none⟩) n c') := by rw [← hw1]; have := cell_new (w.alloc (.cells #[.slice (some ⟨B, 0, none⟩) n ca] 24)) #[.slice (some ⟨B', 0, none⟩) n c'] 24 0 _ rfl; rwa [World.size_alloc] at this
  have z1 : w1.heap.size = w.heap.size + 2 := by rw [← hw1]; simp
  have hBw := hl.lt
  have hBw' := hl'.lt
  have bb1 : Below b0 w w1 := B1.out.mono (by omega)
  have SV : Hid (∀ w' : World, Below w1.heap.size w1 w' → w'.cell? ⟨w.heap.size, 0, none⟩ = some (.slice (some ⟨B, 0, none⟩) n ca) ∧ w'.cell? ⟨w.heap.size + 1, 0, none⟩ = some (.slice (some ⟨B', 0, none⟩) n c') ∧ Below w1.heap.size w1 w') := fun w' hb =>
    ⟨(hb.cell (p := ⟨w.heap.size, 0, none⟩) (by show w.heap.size < _; omega)).trans c1, (hb.cell (p := ⟨w.heap.size + 1, 0, none⟩) (by show w.heap.size + 1 < _; omega)).trans c2, hb⟩
  have RA : Hid (Reads w1 (some ⟨B, 0, none⟩) n A) := ⟨hf, hn, fun _ => ⟨B, 0, rfl, hl.next B1.out⟩⟩
  have RB : Hid (Reads w1 (some ⟨B', 0, none⟩) n A) := ⟨hf, hn, fun _ => ⟨B', 0, rfl, hl'.next B1.out⟩⟩
  have hKw := hK.out w1 bb1
  obtain ⟨r, hr⟩ : ∃ r, sameS A A = r := ⟨_, rfl⟩
  have H9 : Hid (∀ w', Below w1.heap.size w1 w' → Calls Tryd.prog 9 #[.agg #[.slice (some ⟨B, 0, none⟩) n ca], .agg #[.slice (some ⟨B', 0, none⟩) n c']] w' fun e w'' => e = .returned (.bool r) ∧ Below w'.heap.size w' w'') := fun w' hb => by
    rw [← hr]; exact same_any w' _ n ca _ n c' A A (RA.out.next hb) (RB.out.next hb) (hKw.1.next hb)
  have H18 : Hid (∀ w', Below w1.heap.size w1 w' → Calls Tryd.prog 18 #[.agg #[.slice (some ⟨B', 0, none⟩) n c'], .agg #[.slice (some ⟨B', 0, none⟩) n c']] w' fun e w'' => e = .returned (.bool r) ∧ Below w'.heap.size w' w'') := fun w' hb => by
    rw [← hr]; exact rsame_any w' _ n c' _ n c' A A (RB.out.next hb) (RB.out.next hb) (hKw.2.next hb) hrg.out hrg.out
  have BB1 : Hid (Below b0 w w1) := bb1
  have hln : 0 < A.length := List.length_pos_iff.2 hne
  have j0 : (0 : Int) < (n : Int) := by omega
  have HL1 : Hid (Lay w1 B 0 A ∧ w1.there B 0 (A.length * 9) ∧ Lay w1 B' 0 A) := ⟨hl.next B1.out, fun j hj => ⟨by rw [B1.out.cell (p := ⟨B, 0 + j, none⟩) hBw]; exact (ht j hj).1, by rw [B1.out.frozen (p := ⟨B, 0 + j, none⟩) hBw]; exact (ht j hj).2⟩, hl'.next B1.out⟩
  clear hr RA RB hKw hl hl' ht bb1
  have hcd : Below w1.heap.size w1 w1.drew := (Below.refl _ w1).drew
  go_enter Tryd.func47, Tryd.ntmps47
  go_upto_region 1 with fail
  clear hw1
  go_region_held3 (fun w' => w'.cell? ⟨w.heap.size, 0, none⟩ = some (.slice (some ⟨B, 0, none⟩) n ca) ∧ w'.cell? ⟨w.heap.size + 1, 0, none⟩ = some (.slice (some ⟨B', 0, none⟩) n c') ∧ Below w1.heap.size w1 w') (exact SV.out _ (by assumption))
    (first
    | (go_at_call 9; refine (H9.out _ hcd).mono ?_; rintro e w2 ⟨rfl, hb2⟩; replace hcd := hcd.trans (hb2.mono hcd.size))
    | (go_at_call 18; refine (H18.out _ hcd).mono ?_; rintro e w2 ⟨rfl, hb2⟩; replace hcd := hcd.trans (hb2.mono hcd.size)))
  all_goals
    obtain ⟨d1, d2, _⟩ := SV.out _ hcd
    have l2 := HL1.out.1.next hcd
    have l2' := HL1.out.2.2.next hcd
    have t2 : w2.there B 0 (A.length * 9) := fun j hj => ⟨by rw [hcd.cell (p := ⟨B, 0 + j, none⟩) (by show B < _; omega)]; exact (HL1.out.2.1 j hj).1, by rw [hcd.frozen (p := ⟨B, 0 + j, none⟩) (by show B < _; omega)]; exact (HL1.out.2.1 j hj).2⟩
    obtain ⟨it, hit⟩ : ∃ it, (nd A 0).int = it := ⟨_, rfl⟩
    have a6 : w2.cell? ⟨B, 6, none⟩ = some (.int .i64 it) := by rw [← hit]; exact l2.c 0 hln 6 _ rfl
    have f6 : w2.frozen? ⟨B, 6, none⟩ = false := by have := (t2 6 (by omega)).2; rwa [Nat.zero_add] at this
    obtain ⟨x, hx⟩ : ∃ x, IntKind.i64.wrap (it + 1) = x := ⟨_, rfl⟩
    have hxb : x ≤ 9223372036854775807 := by rw [← hx, IntKind.wrap_i64]; omega
    obtain ⟨w3, hw3⟩ : ∃ w3, w2.setCell ⟨B, 6, none⟩ (.int .i64 x) = w3 := ⟨_, rfl⟩
    have z3 : w3.heap.size = w2.heap.size := by rw [← hw3, size_set]
    have zz2 := hcd.size
    obtain ⟨A2, hA2⟩ : ∃ A2, A.modify 0 (fInt x) = A2 := ⟨_, rfl⟩
    have hn2 : A2.length = n := by rw [← hA2, List.length_modify]; exact hn
    have hne2 : A2 ≠ [] := fun e => by rw [e] at hn2; simp at hn2; omega
    have hf2 : Fine A2 := by rw [← hA2]; exact fine_put hf 0 _ hln (fun x hx => hx)
    have hr2 : Rng A2 := fun i hi => by
      rw [← hA2, nd_modify A 0 i _ hln]
      split
      · exact hxb
      · exact hrg.out i (by omega)
    have l3 : Lay w3 B 0 A2 := by
      have := (lay_put l2 t2 0 6 (.int .i64 x) (fInt x) hln (by omega) (put_int _ _)).1
      rw [hA2] at this
      rw [← hw3]
      exact this
    have l3' : Lay w3 B' 0 A := ⟨by have := l2'.lt; omega, fun i hi j v hv => by rw [← hw3, World.cell?_setCell_far _ _ _ _ (by show B ≠ B'; omega)]; exact l2'.c i hi j v hv⟩
    have e1 : w3.cell? ⟨w.heap.size, 0, none⟩ = some (.slice (some ⟨B, 0, none⟩) n ca) := by rw [← hw3, World.cell?_setCell_far _ _ _ _ (by show B ≠ w.heap.size; omega)]; exact d1
    have e2 : w3.cell? ⟨w.heap.size + 1, 0, none⟩ = some (.slice (some ⟨B', 0, none⟩) n c') := by rw [← hw3, World.cell?_setCell_far _ _ _ _ (by show B ≠ w.heap.size + 1; omega)]; exact d2
    have b3 : Below b0 w w3 := by rw [← hw3]; exact (BB1.out.trans (hcd.mono (by omega))).setCell (p := ⟨B, 6, none⟩) hb0 _
    obtain ⟨q, cq, w4, hrun, htw, hb4⟩ := run_dup w3 (some ⟨B, 0, none⟩) n ca A2 ⟨hf2, hn2, fun _ => ⟨B, 0, rfl, l3⟩⟩ (fun e => by cases e)
    obtain ⟨Q, rfl, hQ, hlQ, _⟩ := htw hne2
    have HRUN : Hid _ := hrun
    obtain ⟨w5, hw5⟩ : ∃ w5, w4.alloc (.cells #[.slice (some ⟨Q, 0, none⟩) n cq] 24) = w5 := ⟨_, rfl⟩
    have b45 : Below w4.heap.size w4 w5 := by rw [← hw5]; exact (Below.refl _ w4).alloc (Nat.le_refl _) _
    have b35 : Below w3.heap.size w3 w5 := hb4.trans (b45.mono hb4.size)
    have z4 := hb4.size
    have z5 : w5.heap.size = w4.heap.size + 1 := by rw [← hw5]; simp
    have g1 := (b35.cell (p := ⟨w.heap.size, 0, none⟩) (by show w.heap.size < _; omega)).trans e1
    have g2 := (b35.cell (p := ⟨w.heap.size + 1, 0, none⟩) (by show w.heap.size + 1 < _; omega)).trans e2
    have g3 : w5.cell? ⟨w4.heap.size, 0, none⟩ = some (.slice (some ⟨Q, 0, none⟩) n cq) := by rw [← hw5]; exact cell_new _ _ _ _ _ rfl
    have SV5 : Hid (∀ w' : World, Below w5.heap.size w5 w' → w'.cell? ⟨w.heap.size, 0, none⟩ = some (.slice (some ⟨B, 0, none⟩) n ca) ∧ w'.cell? ⟨w.heap.size + 1, 0, none⟩ = some (.slice (some ⟨B', 0, none⟩) n c') ∧ w'.cell? ⟨w4.heap.size, 0, none⟩ = some (.slice (some ⟨Q, 0, none⟩) n cq) ∧ Below w5.heap.size w5 w') := fun w' hb =>
      ⟨(hb.cell (p := ⟨w.heap.size, 0, none⟩) (by show w.heap.size < _; omega)).trans g1, (hb.cell (p := ⟨w.heap.size + 1, 0, none⟩) (by show w.heap.size + 1 < _; omega)).trans g2, (hb.cell (p := ⟨w4.heap.size, 0, none⟩) (by show w4.heap.size < _; omega)).trans g3, hb⟩
    have B5 : Hid (Below b0 w w5) := b3.trans (b35.mono (by omega))
    have hKw := hK.out w5 B5.out
    have RA : Hid (Reads w5 (some ⟨B, 0, none⟩) n A2) := ⟨hf2, hn2, fun _ => ⟨B, 0, rfl, l3.next b35⟩⟩
    have RB : Hid (Reads w5 (some ⟨B', 0, none⟩) n A) := ⟨hf, hn, fun _ => ⟨B', 0, rfl, l3'.next b35⟩⟩
    have RQ : Hid (Reads w5 (some ⟨Q, 0, none⟩) n A2) := ⟨hf2, hn2, fun _ => ⟨Q, 0, rfl, hlQ.next b45⟩⟩
    obtain ⟨r2, hr2'⟩ : ∃ r, sameS A2 A = r := ⟨_, rfl⟩
    have H9' : Hid (∀ w', Below w5.heap.size w5 w' → Calls Tryd.prog 9 #[.agg #[.slice (some ⟨B, 0, none⟩) n ca], .agg #[.slice (some ⟨B', 0, none⟩) n c']] w' fun e w'' => e = .returned (.bool r2) ∧ Below w'.heap.size w' w'') := fun w' hb => by
      rw [← hr2']; exact same_any w' _ n ca _ n c' A2 A (RA.out.next hb) (RB.out.next hb) (hKw.1.next hb)
    have H18' : Hid (∀ w', Below w5.heap.size w5 w' → Calls Tryd.prog 18 #[.agg #[.slice (some ⟨Q, 0, none⟩) n cq], .agg #[.slice (some ⟨B', 0, none⟩) n c']] w' fun e w'' => e = .returned (.bool r2) ∧ Below w'.heap.size w' w'') := fun w' hb => by
      rw [← hr2']; exact rsame_any w' _ n cq _ n c' A2 A (RQ.out.next hb) (RB.out.next hb) (hKw.2.next hb) hr2 hrg.out
    clear hr2' hKw RA RB RQ hrun htw hlQ l3 l3' l2 l2' t2 b3 b45 b35 hb4 hA2 hf2 hr2 hit H9 H18 SV HL1 g1 g2 g3 c1 c2
    have hcd5 : Below w5.heap.size w5 w5.drew := (Below.refl _ w5).drew
    go_upto_region 5 with go_in
    go_upto_region 6 with (first
      | (at_builtin; refine wpList_app9 rfl (.const (.slice none 0 0)) (.tmp 26) rfl HRUN.out ?_)
      | go_in)
    obtain ⟨k1, k2, k3, _⟩ := SV5.out _ (Below.refl _ w5)
    go_region_held3 (fun w' => w'.cell? ⟨w.heap.size, 0, none⟩ = some (.slice (some ⟨B, 0, none⟩) n ca) ∧ w'.cell? ⟨w.heap.size + 1, 0, none⟩ = some (.slice (some ⟨B', 0, none⟩) n c') ∧ w'.cell? ⟨w4.heap.size, 0, none⟩ = some (.slice (some ⟨Q, 0, none⟩) n cq) ∧ Below w5.heap.size w5 w') (exact SV5.out _ (by assumption))
      (first
      | (go_at_call 9; refine (H9'.out _ hcd5).mono ?_; rintro e w6 ⟨rfl, hb6⟩; replace hcd5 := hcd5.trans (hb6.mono hcd5.size))
      | (go_at_call 18; refine (H18'.out _ hcd5).mono ?_; rintro e w6 ⟨rfl, hb6⟩; replace hcd5 := hcd5.trans (hb6.mono hcd5.size)))
    all_goals
      go_wp2
      go_ret
      exact ⟨by simp, B5.out.trans (hcd5.mono (by omega))⟩
end Go.Proofs.YtekgnogjfggnmaaDoor

namespace Go.Proofs.YtekgnogjfggnmaaDoor
open Go.RowKit

theorem fine_nil : Fine [] := ⟨by simp, fun i hi => by simp at hi⟩
theorem reads_nil (w : World) (p : Option Addr) : Reads w p 0 [] := ⟨fine_nil, rfl, fun h => absurd rfl h⟩
theorem rng_nil : Rng [] := fun n hn => by simp at hn

set_option maxRecDepth 100000 in
set_option maxHeartbeats 1000000 in
theorem unlike_none (w : World) (p p' : Option Addr) (ca c' : Nat) (hp : p = none → ca = 0) (hk : KwAt w) (hrk : RKw w) :
    Calls Tryd.prog 47 #[.agg #[.slice p 0 ca], .agg #[.slice p' 0 c']] w fun e w' => e = .returned (.bool true) ∧ Below w.heap.size w w' := by
  obtain ⟨w1, hw1⟩ : ∃ w1, (w.alloc (.cells #[.slice p 0 ca] 24)).alloc (.cells #[.slice p' 0 c'] 24) = w1 := ⟨_, rfl⟩
  have B1 : Hid (Below w.heap.size w w1) := by rw [← hw1]; exact ((Below.refl _ w).alloc (Nat.le_refl _) _).alloc (by simp) _
  have c1 : w1.cell? ⟨w.heap.size, 0, none⟩ = some (.slice p 0 ca) := by rw [← hw1]; exact cell_old _ (cell_new _ _ _ _ _ rfl)
  have c2 : w1.cell? ⟨w.heap.size + 1, 0, none⟩ = some (.slice p' 0 c') := by rw [← hw1]; have := cell_new (w.alloc (.cells #[.slice p 0 ca] 24)) #[.slice p' 0 c'] 24 0 _ rfl; rwa [World.size_alloc] at this
  have z1 : w1.heap.size = w.heap.size + 2 := by rw [← hw1]; simp
  have SV : Hid (∀ w' : World, Below w1.heap.size w1 w' → w'.cell? ⟨w.heap.size, 0, none⟩ = some (.slice p 0 ca) ∧ w'.cell? ⟨w.heap.size + 1, 0, none⟩ = some (.slice p' 0 c') ∧ Below w1.heap.size w1 w') := fun w' hb =>
    ⟨(hb.cell (p := ⟨w.heap.size, 0, none⟩) (by show w.heap.size < _; omega)).trans c1, (hb.cell (p := ⟨w.heap.size + 1, 0, none⟩) (by show w.heap.size + 1 < _; omega)).trans c2, hb⟩
  obtain ⟨r, hr⟩ : ∃ r, sameS [] [] = r := ⟨_, rfl⟩
  have H9 : Hid (∀ w', Below w1.heap.size w1 w' → Calls Tryd.prog 9 #[.agg #[.slice p 0 ca], .agg #[.slice p' 0 c']] w' fun e w'' => e = .returned (.bool r) ∧ Below w'.heap.size w' w'') := fun w' hb => by
    rw [← hr]; exact same_any w' _ 0 ca _ 0 c' [] [] (reads_nil _ _) (reads_nil _ _) ((hk.next B1.out).next hb)
  have H18 : Hid (∀ (q : Option Addr) (cq : Nat) w', Below w1.heap.size w1 w' → Calls Tryd.prog 18 #[.agg #[.slice q 0 cq], .agg #[.slice p' 0 c']] w' fun e w'' => e = .returned (.bool r) ∧ Below w'.heap.size w' w'') := fun q cq w' hb => by
    rw [← hr]; exact rsame_any w' _ 0 cq _ 0 c' [] [] (reads_nil _ _) (reads_nil _ _) ((hrk.next B1.out).next hb) rng_nil rng_nil
  clear hr hk hrk
  have hcd : Below w1.heap.size w1 w1.drew := (Below.refl _ w1).drew
  go_enter Tryd.func47, Tryd.ntmps47
  go_upto_region 1 with fail
  clear hw1
  go_region_held3 (fun w' => w'.cell? ⟨w.heap.size, 0, none⟩ = some (.slice p 0 ca) ∧ w'.cell? ⟨w.heap.size + 1, 0, none⟩ = some (.slice p' 0 c') ∧ Below w1.heap.size w1 w') (exact SV.out _ (by assumption))
    (first
    | (go_at_call 9; refine (H9.out _ hcd).mono ?_; rintro e w2 ⟨rfl, hb2⟩; replace hcd := hcd.trans (hb2.mono hcd.size))
    | (go_at_call 18; refine (H18.out _ _ _ hcd).mono ?_; rintro e w2 ⟨rfl, hb2⟩; replace hcd := hcd.trans (hb2.mono hcd.size)))
  all_goals
    obtain ⟨d1, d2, _⟩ := SV.out _ hcd
    obtain ⟨q, cq, w4, hrun, _, hb4⟩ := run_dup w2 p 0 ca [] (reads_nil _ _) (fun e => ⟨rfl, hp e⟩)
    have HRUN : Hid _ := hrun
    obtain ⟨w5, hw5⟩ : ∃ w5, w4.alloc (.cells #[.slice q 0 cq] 24) = w5 := ⟨_, rfl⟩
    have b45 : Below w4.heap.size w4 w5 := by rw [← hw5]; exact (Below.refl _ w4).alloc (Nat.le_refl _) _
    have z4 := hb4.size
    have zc := hcd.size
    have z5 : w5.heap.size = w4.heap.size + 1 := by rw [← hw5]; simp
    have b15 : Below w1.heap.size w1 w5 := (hcd.trans (hb4.mono hcd.size)).trans (b45.mono (by omega))
    have B15 : Hid (Below w1.heap.size w1 w5) := b15
    have g3 : w5.cell? ⟨w4.heap.size, 0, none⟩ = some (.slice q 0 cq) := by rw [← hw5]; exact cell_new _ _ _ _ _ rfl
    have SV5 : Hid (∀ w' : World, Below w5.heap.size w5 w' → w'.cell? ⟨w.heap.size, 0, none⟩ = some (.slice p 0 ca) ∧ w'.cell? ⟨w.heap.size + 1, 0, none⟩ = some (.slice p' 0 c') ∧ w'.cell? ⟨w4.heap.size, 0, none⟩ = some (.slice q 0 cq) ∧ Below w5.heap.size w5 w') := fun w' hb => by
      obtain ⟨x1, x2, _⟩ := SV.out w' (B15.out.trans (hb.mono (by omega)))
      exact ⟨x1, x2, (hb.cell (p := ⟨w4.heap.size, 0, none⟩) (by show w4.heap.size < _; omega)).trans g3, hb⟩
    have H9' : Hid (∀ w', Below w5.heap.size w5 w' → Calls Tryd.prog 9 #[.agg #[.slice p 0 ca], .agg #[.slice p' 0 c']] w' fun e w'' => e = .returned (.bool r) ∧ Below w'.heap.size w' w'') := fun w' hb => H9.out w' (B15.out.trans (hb.mono (by omega)))
    have H18' : Hid (∀ w', Below w5.heap.size w5 w' → Calls Tryd.prog 18 #[.agg #[.slice q 0 cq], .agg #[.slice p' 0 c']] w' fun e w'' => e = .returned (.bool r) ∧ Below w'.heap.size w' w'') := fun w' hb => H18.out q cq w' (B15.out.trans (hb.mono (by omega)))
    clear hrun b45 hb4 g3 c1 c2 H9 H18 b15
    have hcd5 : Below w5.heap.size w5 w5.drew := (Below.refl _ w5).drew
    go_upto_region 5 with go_in
    go_upto_region 6 with (first
      | (at_builtin; refine wpList_app9 rfl (.const (.slice none 0 0)) (.tmp 26) rfl HRUN.out ?_)
      | go_in)
    obtain ⟨k1, k2, k3, _⟩ := SV5.out _ (Below.refl _ w5)
    go_region_held3 (fun w' => w'.cell? ⟨w.heap.size, 0, none⟩ = some (.slice p 0 ca) ∧ w'.cell? ⟨w.heap.size + 1, 0, none⟩ = some (.slice p' 0 c') ∧ w'.cell? ⟨w4.heap.size, 0, none⟩ = some (.slice q 0 cq) ∧ Below w5.heap.size w5 w') (exact SV5.out _ (by assumption))
      (first
      | (go_at_call 9; refine (H9'.out _ hcd5).mono ?_; rintro e w6 ⟨rfl, hb6⟩; replace hcd5 := hcd5.trans (hb6.mono hcd5.size))
      | (go_at_call 18; refine (H18'.out _ hcd5).mono ?_; rintro e w6 ⟨rfl, hb6⟩; replace hcd5 := hcd5.trans (hb6.mono hcd5.size)))
    all_goals
      go_wp2
      go_ret
      exact ⟨by simp, B1.out.trans ((B15.out.trans (hcd5.mono (by omega))).mono (by omega))⟩
end Go.Proofs.YtekgnogjfggnmaaDoor

namespace Go.Proofs.YtekgnogjfggnmaaDoor
open Go.RowKit

set_option maxRecDepth 100000 in
set_option maxHeartbeats 1000000 in
theorem unlike_keep (w : World) (b0 B B' n ca c' : Nat) (A : List Nd) (hne : A ≠ []) (hf : Fine A) (hn : A.length = n) (hl : Lay w B 0 A) (ht : w.there B 0 (A.length * 9)) (hBB : B' ≠ B) (hl' : Lay w B' 0 A) (hb0 : b0 ≤ B)
    (hK : Hid (∀ w', Below b0 w w' → KwAt w' ∧ RKw w')) (hrg : Hid (Rng A)) :
    Calls Tryd.prog 47 #[.agg #[.slice (some ⟨B, 0, none⟩) n ca], .agg #[.slice (some ⟨B', 0, none⟩) n c']] w fun e w' => e = .returned (.bool true) ∧ Below b0 w w' ∧ ∀ k, k < w.heap.size → k ≠ B → w'.heap[k]? = w.heap[k]? := by
  obtain ⟨w1, hw1⟩ : ∃ w1, (w.alloc (.cells #[.slice (some ⟨B, 0, none⟩) n ca] 24)).alloc (.cells #[.slice (some ⟨B', 0, none⟩) n c'] 24) = w1 := ⟨_, rfl⟩
  have B1 : Hid (Below w.heap.size w w1) := by rw [← hw1]; exact ((Below.refl _ w).alloc (Nat.le_refl _) _).alloc (by simp) _
  have c1 : w1.cell? ⟨w.heap.size, 0, none⟩ = some (.slice (some ⟨B, 0, none⟩) n ca) := by rw [← hw1]; exact cell_old _ (cell_new _ _ _ _ _ rfl)
  have c2 : w1.cell? ⟨w.heap.size + 1, 0, none⟩ = some (.slice (some ⟨B', 0, none⟩) n c') := by rw [← hw1]; have := cell_new (w.alloc (.cells #[.slice (some ⟨B, 0, none⟩) n ca] 24)) #[.slice (some ⟨B', 0, none⟩) n c'] 24 0 _ rfl; rwa [World.size_alloc] at this
  have z1 : w1.heap.size = w.heap.size + 2 := by rw [← hw1]; simp
  have hBw := hl.lt
  have hBw' := hl'.lt
  have bb1 : Below b0 w w1 := B1.out.mono (by omega)
  have SV : Hid (∀ w' : World, Below w1.heap.size w1 w' → w'.cell? ⟨w.heap.size, 0, none⟩ = some (.slice (some ⟨B, 0, none⟩) n ca) ∧ w'.cell? ⟨w.heap.size + 1, 0, none⟩ = some (.slice (some ⟨B', 0, none⟩) n c') ∧ Below w1.heap.size w1 w') := fun w' hb =>
    ⟨(hb.cell (p := ⟨w.heap.size, 0, none⟩) (by show w.heap.size < _; omega)).trans c1, (hb.cell (p := ⟨w.heap.size + 1, 0, none⟩) (by show w.heap.size + 1 < _; omega)).trans c2, hb⟩
  have RA : Hid (Reads w1 (some ⟨B, 0, none⟩) n A) := ⟨hf, hn, fun _ => ⟨B, 0, rfl, hl.next B1.out⟩⟩
  have RB : Hid (Reads w1 (some ⟨B', 0, none⟩) n A) := ⟨hf, hn, fun _ => ⟨B', 0, rfl, hl'.next B1.out⟩⟩
  have hKw := hK.out w1 bb1
  obtain ⟨r, hr⟩ : ∃ r, sameS A A = r := ⟨_, rfl⟩
  have H9 : Hid (∀ w', Below w1.heap.size w1 w' → Calls Tryd.prog 9 #[.agg #[.slice (some ⟨B, 0, none⟩) n ca], .agg #[.slice (some ⟨B', 0, none⟩) n c']] w' fun e w'' => e = .returned (.bool r) ∧ Below w'.heap.size w' w'') := fun w' hb => by
    rw [← hr]; exact same_any w' _ n ca _ n c' A A (RA.out.next hb) (RB.out.next hb) (hKw.1.next hb)
  have H18 : Hid (∀ w', Below w1.heap.size w1 w' → Calls Tryd.prog 18 #[.agg #[.slice (some ⟨B', 0, none⟩) n c'], .agg #[.slice (some ⟨B', 0, none⟩) n c']] w' fun e w'' => e = .returned (.bool r) ∧ Below w'.heap.size w' w'') := fun w' hb => by
    rw [← hr]; exact rsame_any w' _ n c' _ n c' A A (RB.out.next hb) (RB.out.next hb) (hKw.2.next hb) hrg.out hrg.out
  have BB1 : Hid (Below b0 w w1) := bb1
  have hln : 0 < A.length := List.length_pos_iff.2 hne
  have j0 : (0 : Int) < (n : Int) := by omega
  have HL1 : Hid (Lay w1 B 0 A ∧ w1.there B 0 (A.length * 9) ∧ Lay w1 B' 0 A) := ⟨hl.next B1.out, fun j hj => ⟨by rw [B1.out.cell (p := ⟨B, 0 + j, none⟩) hBw]; exact (ht j hj).1, by rw [B1.out.frozen (p := ⟨B, 0 + j, none⟩) hBw]; exact (ht j hj).2⟩, hl'.next B1.out⟩
  clear hr RA RB hKw hl hl' ht bb1
  have hcd : Below w1.heap.size w1 w1.drew := (Below.refl _ w1).drew
  go_enter Tryd.func47, Tryd.ntmps47
  go_upto_region 1 with fail
  clear hw1
  go_region_held3 (fun w' => w'.cell? ⟨w.heap.size, 0, none⟩ = some (.slice (some ⟨B, 0, none⟩) n ca) ∧ w'.cell? ⟨w.heap.size + 1, 0, none⟩ = some (.slice (some ⟨B', 0, none⟩) n c') ∧ Below w1.heap.size w1 w') (exact SV.out _ (by assumption))
    (first
    | (go_at_call 9; refine (H9.out _ hcd).mono ?_; rintro e w2 ⟨rfl, hb2⟩; replace hcd := hcd.trans (hb2.mono hcd.size))
    | (go_at_call 18; refine (H18.out _ hcd).mono ?_; rintro e w2 ⟨rfl, hb2⟩; replace hcd := hcd.trans (hb2.mono hcd.size)))
  all_goals
    obtain ⟨d1, d2, _⟩ := SV.out _ hcd
    have l2 := HL1.out.1.next hcd
    have l2' := HL1.out.2.2.next hcd
    have t2 : w2.there B 0 (A.length * 9) := fun j hj => ⟨by rw [hcd.cell (p := ⟨B, 0 + j, none⟩) (by show B < _; omega)]; exact (HL1.out.2.1 j hj).1, by rw [hcd.frozen (p := ⟨B, 0 + j, none⟩) (by show B < _; omega)]; exact (HL1.out.2.1 j hj).2⟩
    obtain ⟨it, hit⟩ : ∃ it, (nd A 0).int = it := ⟨_, rfl⟩
    have a6 : w2.cell? ⟨B, 6, none⟩ = some (.int .i64 it) := by rw [← hit]; exact l2.c 0 hln 6 _ rfl
    have f6 : w2.frozen? ⟨B, 6, none⟩ = false := by have := (t2 6 (by omega)).2; rwa [Nat.zero_add] at this
    obtain ⟨x, hx⟩ : ∃ x, IntKind.i64.wrap (it + 1) = x := ⟨_, rfl⟩
    have hxb : x ≤ 9223372036854775807 := by rw [← hx, IntKind.wrap_i64]; omega
    obtain ⟨w3, hw3⟩ : ∃ w3, w2.setCell ⟨B, 6, none⟩ (.int .i64 x) = w3 := ⟨_, rfl⟩
    have z3 : w3.heap.size = w2.heap.size := by rw [← hw3, size_set]
    have zz2 := hcd.size
    obtain ⟨A2, hA2⟩ : ∃ A2, A.modify 0 (fInt x) = A2 := ⟨_, rfl⟩
    have hn2 : A2.length = n := by rw [← hA2, List.length_modify]; exact hn
    have hne2 : A2 ≠ [] := fun e => by rw [e] at hn2; simp at hn2; omega
    have hf2 : Fine A2 := by rw [← hA2]; exact fine_put hf 0 _ hln (fun x hx => hx)
    have hr2 : Rng A2 := fun i hi => by
      rw [← hA2, nd_modify A 0 i _ hln]
      split
      · exact hxb
      · exact hrg.out i (by omega)
    have l3 : Lay w3 B 0 A2 := by
      have := (lay_put l2 t2 0 6 (.int .i64 x) (fInt x) hln (by omega) (put_int _ _)).1
      rw [hA2] at this
      rw [← hw3]
      exact this
    have l3' : Lay w3 B' 0 A := ⟨by have := l2'.lt; omega, fun i hi j v hv => by rw [← hw3, World.cell?_setCell_far _ _ _ _ (by show B ≠ B'; omega)]; exact l2'.c i hi j v hv⟩
    have e1 : w3.cell? ⟨w.heap.size, 0, none⟩ = some (.slice (some ⟨B, 0, none⟩) n ca) := by rw [← hw3, World.cell?_setCell_far _ _ _ _ (by show B ≠ w.heap.size; omega)]; exact d1
    have e2 : w3.cell? ⟨w.heap.size + 1, 0, none⟩ = some (.slice (some ⟨B', 0, none⟩) n c') := by rw [← hw3, World.cell?_setCell_far _ _ _ _ (by show B ≠ w.heap.size + 1; omega)]; exact d2
    have b3 : Below b0 w w3 := by rw [← hw3]; exact (BB1.out.trans (hcd.mono (by omega))).setCell (p := ⟨B, 6, none⟩) hb0 _
    obtain ⟨q, cq, w4, hrun, htw, hb4⟩ := run_dup w3 (some ⟨B, 0, none⟩) n ca A2 ⟨hf2, hn2, fun _ => ⟨B, 0, rfl, l3⟩⟩ (fun e => by cases e)
    obtain ⟨Q, rfl, hQ, hlQ, _⟩ := htw hne2
    have HRUN : Hid _ := hrun
    obtain ⟨w5, hw5⟩ : ∃ w5, w4.alloc (.cells #[.slice (some ⟨Q, 0, none⟩) n cq] 24) = w5 := ⟨_, rfl⟩
    have b45 : Below w4.heap.size w4 w5 := by rw [← hw5]; exact (Below.refl _ w4).alloc (Nat.le_refl _) _
    have b35 : Below w3.heap.size w3 w5 := hb4.trans (b45.mono hb4.size)
    have z4 := hb4.size
    have z5 : w5.heap.size = w4.heap.size + 1 := by rw [← hw5]; simp
    have g1 := (b35.cell (p := ⟨w.heap.size, 0, none⟩) (by show w.heap.size < _; omega)).trans e1
    have g2 := (b35.cell (p := ⟨w.heap.size + 1, 0, none⟩) (by show w.heap.size + 1 < _; omega)).trans e2
    have g3 : w5.cell? ⟨w4.heap.size, 0, none⟩ = some (.slice (some ⟨Q, 0, none⟩) n cq) := by rw [← hw5]; exact cell_new _ _ _ _ _ rfl
    have SV5 : Hid (∀ w' : World, Below w5.heap.size w5 w' → w'.cell? ⟨w.heap.size, 0, none⟩ = some (.slice (some ⟨B, 0, none⟩) n ca) ∧ w'.cell? ⟨w.heap.size + 1, 0, none⟩ = some (.slice (some ⟨B', 0, none⟩) n c') ∧ w'.cell? ⟨w4.heap.size, 0, none⟩ = some (.slice (some ⟨Q, 0, none⟩) n cq) ∧ Below w5.heap.size w5 w') := fun w' hb =>
      ⟨(hb.cell (p := ⟨w.heap.size, 0, none⟩) (by show w.heap.size < _; omega)).trans g1, (hb.cell (p := ⟨w.heap.size + 1, 0, none⟩) (by show w.heap.size + 1 < _; omega)).trans g2, (hb.cell (p := ⟨w4.heap.size, 0, none⟩) (by show w4.heap.size < _; omega)).trans g3, hb⟩
    have B5 : Hid (Below b0 w w5) := b3.trans (b35.mono (by omega))
    have KB5 : Hid (∀ k, k < w.heap.size → k ≠ B → w5.heap[k]? = w.heap[k]?) := fun k hk hne => by
      rw [b35.block k (by omega), ← hw3, Below.heap_setCell w2 ⟨B, 6, none⟩ _ k (fun e => hne e), hcd.block k (by omega), B1.out.block k hk]
    have hKw := hK.out w5 B5.out
    have RA : Hid (Reads w5 (some ⟨B, 0, none⟩) n A2) := ⟨hf2, hn2, fun _ => ⟨B, 0, rfl, l3.next b35⟩⟩
    have RB : Hid (Reads w5 (some ⟨B', 0, none⟩) n A) := ⟨hf, hn, fun _ => ⟨B', 0, rfl, l3'.next b35⟩⟩
    have RQ : Hid (Reads w5 (some ⟨Q, 0, none⟩) n A2) := ⟨hf2, hn2, fun _ => ⟨Q, 0, rfl, hlQ.next b45⟩⟩
    obtain ⟨r2, hr2'⟩ : ∃ r, sameS A2 A = r := ⟨_, rfl⟩
    have H9' : Hid (∀ w', Below w5.heap.size w5 w' → Calls Tryd.prog 9 #[.agg #[.slice (some ⟨B, 0, none⟩) n ca], .agg #[.slice (some ⟨B', 0, none⟩) n c']] w' fun e w'' => e = .returned (.bool r2) ∧ Below w'.heap.size w' w'') := fun w' hb => by
      rw [← hr2']; exact same_any w' _ n ca _ n c' A2 A (RA.out.next hb) (RB.out.next hb) (hKw.1.next hb)
    have H18' : Hid (∀ w', Below w5.heap.size w5 w' → Calls Tryd.prog 18 #[.agg #[.slice (some ⟨Q, 0, none⟩) n cq], .agg #[.slice (some ⟨B', 0, none⟩) n c']] w' fun e w'' => e = .returned (.bool r2) ∧ Below w'.heap.size w' w'') := fun w' hb => by
      rw [← hr2']; exact rsame_any w' _ n cq _ n c' A2 A (RQ.out.next hb) (RB.out.next hb) (hKw.2.next hb) hr2 hrg.out
    clear hr2' hKw RA RB RQ hrun htw hlQ l3 l3' l2 l2' t2 b3 b45 b35 hb4 hA2 hf2 hr2 hit H9 H18 SV HL1 g1 g2 g3 c1 c2
    have hcd5 : Below w5.heap.size w5 w5.drew := (Below.refl _ w5).drew
    go_upto_region 5 with go_in
    go_upto_region 6 with (first
      | (at_builtin; refine wpList_app9 rfl (.const (.slice none 0 0)) (.tmp 26) rfl HRUN.out ?_)
      | go_in)
    obtain ⟨k1, k2, k3, _⟩ := SV5.out _ (Below.refl _ w5)
    go_region_held3 (fun w' => w'.cell? ⟨w.heap.size, 0, none⟩ = some (.slice (some ⟨B, 0, none⟩) n ca) ∧ w'.cell? ⟨w.heap.size + 1, 0, none⟩ = some (.slice (some ⟨B', 0, none⟩) n c') ∧ w'.cell? ⟨w4.heap.size, 0, none⟩ = some (.slice (some ⟨Q, 0, none⟩) n cq) ∧ Below w5.heap.size w5 w') (exact SV5.out _ (by assumption))
      (first
      | (go_at_call 9; refine (H9'.out _ hcd5).mono ?_; rintro e w6 ⟨rfl, hb6⟩; replace hcd5 := hcd5.trans (hb6.mono hcd5.size))
      | (go_at_call 18; refine (H18'.out _ hcd5).mono ?_; rintro e w6 ⟨rfl, hb6⟩; replace hcd5 := hcd5.trans (hb6.mono hcd5.size)))
    all_goals
      go_wp2
      go_ret
      exact ⟨by simp, B5.out.trans (hcd5.mono (by omega)), fun k hk hne => (hcd5.block k (by omega)).trans (KB5.out k hk hne)⟩
end Go.Proofs.YtekgnogjfggnmaaDoor

namespace Go.Proofs.YtekgnogjfggnmaaDoor
open Go.RowKit

set_option maxRecDepth 100000 in
set_option maxHeartbeats 1000000 in
/-- sameNodes of two empty slices. -/
theorem sameN_zero (w : World) (p p' : Option Addr) (cap cap' : Nat) :
    Calls Tryd.prog 24 #[.slice p 0 cap, .slice p' 0 cap'] w fun e w' => e = .returned (.bool true) ∧ Below w.heap.size w w' := by
  go_enter Tryd.func24, Tryd.ntmps24
  go_wp2
  go_loop [5] (fun v => v = .int .i64 0) (fun _ => 0)
  case atStart => rfl
  case round =>
    subst hrel
    go_wp2
    go_ret
    exact ⟨rfl, Below.refl _ _⟩

/-- sameNodes of two slices that read as one list. -/
theorem sameN_reads (w : World) (p p' : Option Addr) (n cap cap' : Nat) (S : List Nd) (ha : Reads w p n S) (hb : Reads w p' n S) :
    Calls Tryd.prog 24 #[.slice p n cap, .slice p' n cap'] w fun e w' => e = .returned (.bool true) ∧ Below w.heap.size w w' := by
  obtain ⟨hf, rfl, hr⟩ := ha
  obtain ⟨_, _, hr'⟩ := hb
  by_cases hne : S = []
  · subst hne
    exact sameN_zero w p p' cap cap'
  · obtain ⟨g, o, rfl, hl⟩ := hr hne
    obtain ⟨g', o', rfl, hl'⟩ := hr' hne
    exact sameN_any w g o cap g' o' cap' S hf.len hl hl'

set_option maxRecDepth 100000 in
theorem eqlM (s : ByteArray) : ∀ w : World,
    (binOp BinOp.eql 36 (.agg #[.int .i64 0, .int .i64 0, .string s, .string ⟨#[]⟩, .string ⟨#[]⟩, .int .i64 0, .int .i64 0, .string ⟨#[]⟩, .int .i64 0]) (.agg #[.int .i64 0, .int .i64 0, .string s, .string ⟨#[]⟩, .string ⟨#[]⟩, .int .i64 0, .int .i64 0, .string ⟨#[]⟩, .int .i64 0])).run Tryd.prog w = .ok (.bool true) w := by
  intro w
  simp [go_sem]

theorem nd_marked1 (L : List Nd) : nd (marked L) L.length = mNd ⟨#[35]⟩ := by simp [nd, marked]
theorem nd_marked2 (L : List Nd) : nd (marked L) (L.length + 1) = mNd ⟨#[35, 35]⟩ := by
  unfold nd marked
  rw [List.getD_eq_getElem?_getD, List.getElem?_append_right (by omega)]
  simp
theorem nd_marked (L : List Nd) {k : Nat} (h : k < L.length) : nd (marked L) k = nd L k := by
  unfold nd marked
  rw [List.getD_eq_getElem?_getD, List.getD_eq_getElem?_getD, List.getElem?_append_left h]
theorem lay_marked {w : World} {B : Nat} {L : List Nd} (h : Lay w B 0 (marked L)) : Lay w B 0 L :=
  ⟨h.lt, fun i hi j v hv => h.c i (by rw [marked_len]; omega) j v (by rw [nd_marked L hi]; exact hv)⟩

set_option maxRecDepth 100000 in
set_option maxHeartbeats 1000000 in
theorem untouched_some (w : World) (B : Nat) (a : Addr) (n cap : Nat) (L : List Nd) (hl : Lay w B 0 (marked L)) (hr : Reads w (some a) n L) :
    Calls Tryd.prog 28 #[.agg #[.slice (some ⟨B, 0, none⟩) n (n + 2)], .agg #[.slice (some a) n cap]] w fun e w' => e = .returned (.bool true) ∧ Below w.heap.size w w' := by
  obtain ⟨w1, hw1⟩ : ∃ w1, (w.alloc (.cells #[.slice (some ⟨B, 0, none⟩) n (n + 2)] 24)).alloc (.cells #[.slice (some a) n cap] 24) = w1 := ⟨_, rfl⟩
  have B1 : Hid (Below w.heap.size w w1) := by rw [← hw1]; exact ((Below.refl _ w).alloc (Nat.le_refl _) _).alloc (by simp) _
  have c1 : w1.cell? ⟨w.heap.size, 0, none⟩ = some (.slice (some ⟨B, 0, none⟩) n (n + 2)) := by rw [← hw1]; exact cell_old _ (cell_new _ _ _ _ _ rfl)
  have c2 : w1.cell? ⟨w.heap.size + 1, 0, none⟩ = some (.slice (some a) n cap) := by rw [← hw1]; have := cell_new (w.alloc (.cells #[.slice (some ⟨B, 0, none⟩) n (n + 2)] 24)) #[.slice (some a) n cap] 24 0 _ rfl; rwa [World.size_alloc] at this
  have hlen := hr.2.1
  have hLb := hr.1.len
  have L1 := hl.next B1.out
  have HS : Hid (Calls Tryd.prog 24 #[.slice (some ⟨B, 0, none⟩) n (n + 2), .slice (some a) n cap] w1 fun e w' => e = .returned (.bool true) ∧ Below w1.heap.size w1 w') := sameN_reads w1 _ _ n _ _ L ⟨hr.1, hlen, fun _ => ⟨B, 0, rfl, lay_marked L1⟩⟩ (hr.next B1.out)
  have M1 : ∀ w', Below w1.heap.size w1 w' → ∀ (j : Nat) (v : Value), (ndV (mNd ⟨#[35]⟩))[j]? = some v → w'.cell? ⟨B, n * 9 + j, none⟩ = some v := fun w' hb j v hv => by
    have := (L1.next hb).c n (by rw [marked_len]; omega) j v (by rw [← hlen, nd_marked1]; exact hv)
    rwa [Nat.zero_add] at this
  have M2 : ∀ w', Below w1.heap.size w1 w' → ∀ (j : Nat) (v : Value), (ndV (mNd ⟨#[35, 35]⟩))[j]? = some v → w'.cell? ⟨B, (n + 1) * 9 + j, none⟩ = some v := fun w' hb j v hv => by
    have := (L1.next hb).c (n + 1) (by rw [marked_len]; omega) j v (by rw [← hlen, nd_marked2]; exact hv)
    rwa [Nat.zero_add] at this
  have x0 : ∀ w', Below w1.heap.size w1 w' → w'.cell? ⟨B, n * 9, none⟩ = some (.int .i64 0) := fun w' hb => M1 w' hb 0 _ rfl
  have x1 : ∀ w', Below w1.heap.size w1 w' → w'.cell? ⟨B, n * 9 + 1, none⟩ = some (.int .i64 0) := fun w' hb => M1 w' hb 1 _ rfl
  have x2 : ∀ w', Below w1.heap.size w1 w' → w'.cell? ⟨B, n * 9 + 2, none⟩ = some (.string ⟨#[35]⟩) := fun w' hb => M1 w' hb 2 _ rfl
  have x3 : ∀ w', Below w1.heap.size w1 w' → w'.cell? ⟨B, n * 9 + 3, none⟩ = some (.string ⟨#[]⟩) := fun w' hb => M1 w' hb 3 _ rfl
  have x4 : ∀ w', Below w1.heap.size w1 w' → w'.cell? ⟨B, n * 9 + 4, none⟩ = some (.string ⟨#[]⟩) := fun w' hb => M1 w' hb 4 _ rfl
  have x5 : ∀ w', Below w1.heap.size w1 w' → w'.cell? ⟨B, n * 9 + 5, none⟩ = some (.int .i64 0) := fun w' hb => M1 w' hb 5 _ rfl
  have x6 : ∀ w', Below w1.heap.size w1 w' → w'.cell? ⟨B, n * 9 + 6, none⟩ = some (.int .i64 0) := fun w' hb => M1 w' hb 6 _ rfl
  have x7 : ∀ w', Below w1.heap.size w1 w' → w'.cell? ⟨B, n * 9 + 7, none⟩ = some (.string ⟨#[]⟩) := fun w' hb => M1 w' hb 7 _ rfl
  have x8 : ∀ w', Below w1.heap.size w1 w' → w'.cell? ⟨B, n * 9 + 8, none⟩ = some (.int .i64 0) := fun w' hb => M1 w' hb 8 _ rfl
  have y0 : ∀ w', Below w1.heap.size w1 w' → w'.cell? ⟨B, (n + 1) * 9, none⟩ = some (.int .i64 0) := fun w' hb => M2 w' hb 0 _ rfl
  have y1 : ∀ w', Below w1.heap.size w1 w' → w'.cell? ⟨B, (n + 1) * 9 + 1, none⟩ = some (.int .i64 0) := fun w' hb => M2 w' hb 1 _ rfl
  have y2 : ∀ w', Below w1.heap.size w1 w' → w'.cell? ⟨B, (n + 1) * 9 + 2, none⟩ = some (.string ⟨#[35, 35]⟩) := fun w' hb => M2 w' hb 2 _ rfl
  have y3 : ∀ w', Below w1.heap.size w1 w' → w'.cell? ⟨B, (n + 1) * 9 + 3, none⟩ = some (.string ⟨#[]⟩) := fun w' hb => M2 w' hb 3 _ rfl
  have y4 : ∀ w', Below w1.heap.size w1 w' → w'.cell? ⟨B, (n + 1) * 9 + 4, none⟩ = some (.string ⟨#[]⟩) := fun w' hb => M2 w' hb 4 _ rfl
  have y5 : ∀ w', Below w1.heap.size w1 w' → w'.cell? ⟨B, (n + 1) * 9 + 5, none⟩ = some (.int .i64 0) := fun w' hb => M2 w' hb 5 _ rfl
  have y6 : ∀ w', Below w1.heap.size w1 w' → w'.cell? ⟨B, (n + 1) * 9 + 6, none⟩ = some (.int .i64 0) := fun w' hb => M2 w' hb 6 _ rfl
  have y7 : ∀ w', Below w1.heap.size w1 w' → w'.cell? ⟨B, (n + 1) * 9 + 7, none⟩ = some (.string ⟨#[]⟩) := fun w' hb => M2 w' hb 7 _ rfl
  have y8 : ∀ w', Below w1.heap.size w1 w' → w'.cell? ⟨B, (n + 1) * 9 + 8, none⟩ = some (.int .i64 0) := fun w' hb => M2 w' hb 8 _ rfl
  have X : Hid (∀ w', Below w1.heap.size w1 w' → w'.cell? ⟨B, n * 9, none⟩ = some (.int .i64 0) ∧ w'.cell? ⟨B, n * 9 + 1, none⟩ = some (.int .i64 0) ∧ w'.cell? ⟨B, n * 9 + 2, none⟩ = some (.string ⟨#[35]⟩) ∧ w'.cell? ⟨B, n * 9 + 3, none⟩ = some (.string ⟨#[]⟩) ∧ w'.cell? ⟨B, n * 9 + 4, none⟩ = some (.string ⟨#[]⟩) ∧ w'.cell? ⟨B, n * 9 + 5, none⟩ = some (.int .i64 0) ∧ w'.cell? ⟨B, n * 9 + 6, none⟩ = some (.int .i64 0) ∧ w'.cell? ⟨B, n * 9 + 7, none⟩ = some (.string ⟨#[]⟩) ∧ w'.cell? ⟨B, n * 9 + 8, none⟩ = some (.int .i64 0) ∧ w'.cell? ⟨B, (n + 1) * 9, none⟩ = some (.int .i64 0) ∧ w'.cell? ⟨B, (n + 1) * 9 + 1, none⟩ = some (.int .i64 0) ∧ w'.cell? ⟨B, (n + 1) * 9 + 2, none⟩ = some (.string ⟨#[35, 35]⟩) ∧ w'.cell? ⟨B, (n + 1) * 9 + 3, none⟩ = some (.string ⟨#[]⟩) ∧ w'.cell? ⟨B, (n + 1) * 9 + 4, none⟩ = some (.string ⟨#[]⟩) ∧ w'.cell? ⟨B, (n + 1) * 9 + 5, none⟩ = some (.int .i64 0) ∧ w'.cell? ⟨B, (n + 1) * 9 + 6, none⟩ = some (.int .i64 0) ∧ w'.cell? ⟨B, (n + 1) * 9 + 7, none⟩ = some (.string ⟨#[]⟩) ∧ w'.cell? ⟨B, (n + 1) * 9 + 8, none⟩ = some (.int .i64 0)) := fun w' hb => ⟨x0 w' hb, x1 w' hb, x2 w' hb, x3 w' hb, x4 w' hb, x5 w' hb, x6 w' hb, x7 w' hb, x8 w' hb, y0 w' hb, y1 w' hb, y2 w' hb, y3 w' hb, y4 w' hb, y5 w' hb, y6 w' hb, y7 w' hb, y8 w' hb⟩
  clear x0 x1 x2 x3 x4 x5 x6 x7 x8 y0 y1 y2 y3 y4 y5 y6 y7 y8 M1 M2 L1 hl hr
  have j0 : (0 : Int) ≤ (n : Int) := by omega
  have j1 : (n : Int) < (n : Int) + 2 := by omega
  have j2 : IntKind.i64.wrap ((n : Int) + 2) = (n : Int) + 2 := by rw [IntKind.wrap_i64]; omega
  have j3 : IntKind.i64.wrap ((n : Int) + 1) = (n : Int) + 1 := by rw [IntKind.wrap_i64]; omega
  have j4 : (0 : Int) ≤ (n : Int) + 2 := by omega
  have j5 : (0 : Int) ≤ (n : Int) + 1 := by omega
  have j6 : (n : Int) + 1 < (n : Int) + 2 := by omega
  have he : ∀ w : World, (binOp BinOp.eql 22 (.slice (some a) n cap) (.slice none 0 0)).run Tryd.prog w = .ok (.bool false) w := nil_eq (some a) n cap
  have q1 := eqlM ⟨#[35]⟩
  have q2 := eqlM ⟨#[35, 35]⟩
  clear hlen
  go_enter Tryd.func28, Tryd.ntmps28
  go_upto_region 5 with go_in
  go_wp2_with (first
    | (go_at_call 24; refine HS.out.mono ?_; rintro e w2 ⟨rfl, hb2⟩; obtain ⟨x0, x1, x2, x3, x4, x5, x6, x7, x8, y0, y1, y2, y3, y4, y5, y6, y7, y8⟩ := X.out w2 hb2)
    | go_in)
  go_ret
  exact ⟨rfl, B1.out.trans (hb2.mono B1.out.size)⟩

set_option maxRecDepth 100000 in
theorem untouched_nil (w : World) :
    Calls Tryd.prog 28 #[.agg #[.slice none 0 0], .agg #[.slice none 0 0]] w fun e w' => e = .returned (.bool true) ∧ Below w.heap.size w w' := by
  have he : ∀ w : World, (binOp BinOp.eql 22 (.slice none 0 0) (.slice none 0 0)).run Tryd.prog w = .ok (.bool true) w := nil_eq none 0 0
  go_enter Tryd.func28, Tryd.ntmps28
  go_wp2
  go_ret
  exact ⟨rfl, ((Below.refl _ w).alloc (Nat.le_refl _) _).alloc (by simp) _⟩
end Go.Proofs.YtekgnogjfggnmaaDoor

namespace Go.Proofs.YtekgnogjfggnmaaDoor
open Go.RowKit

set_option maxRecDepth 100000 in
set_option maxHeartbeats 1000000 in
/-- sameInts of two rows of the same numbers. -/
theorem sameInts_any (w : World) (p p' : Option Addr) (cp cp' : Nat) (K : List Nat) (hKl : K.length ≤ 1353245080300) (hR : Hid (IRow w p cp K)) (hR' : Hid (IRow w p' cp' K)) :
    Calls Tryd.prog 21 #[.slice p K.length cp, .slice p' K.length cp'] w fun e w' => e = .returned (.bool true) ∧ Below w.heap.size w w' := by
  go_enter Tryd.func21, Tryd.ntmps21
  go_wp2
  go_loopw [5] (fun v wr => ∃ k : Nat, k ≤ K.length ∧ v = .int .i64 (k : Int) ∧ Below w.heap.size w wr) (fun v _ => K.length - (intOf v).toNat)
  case atStart => exact ⟨0, by omega, rfl, Below.refl _ _⟩
  case round =>
    obtain ⟨k, hk, rfl, hB⟩ := hrel
    by_cases hlt : k < K.length
    · obtain ⟨x, hx⟩ : ∃ x, K[k]? = some x := ⟨_, List.getElem?_eq_getElem hlt⟩
      obtain ⟨G, a, rfl, hc⟩ := (hR.out.next hB).2 k x hx
      obtain ⟨G', a', rfl, hc'⟩ := (hR'.out.next hB).2 k x hx
      have j0 : (0 : Int) ≤ (k : Int) := by omega
      have j1 : (k : Int) < (K.length : Int) := by omega
      have j3 : IntKind.i64.wrap ((k : Int) + 1) = (k : Int) + 1 := by rw [IntKind.wrap_i64]; omega
      have HB : Hid (Below w.heap.size w wr) := hB
      clear hx hB
      go_wp2
      go_quiet (fail)
      go_wp2
      exact ⟨⟨k + 1, by omega, by go_num, HB.out.trans ((belowN wr nq).mono HB.out.size)⟩, by simp [intOf]; omega⟩
    · obtain rfl : k = K.length := by omega
      go_wp2
      go_ret
      exact ⟨rfl, hB⟩
end Go.Proofs.YtekgnogjfggnmaaDoor
