import Derived.Test.YtekgnogjfggnmaaDoorClone
import Derived.Test.YtekgnogjfggnmaaDoorHas
import Derived.Deep.RegionHeld3
namespace Go.Proofs.YtekgnogjfggnmaaDoor
open Go.RowKit

theorem len_sub (L : List Nd) (k s : Nat) (h : k + s ≤ L.length) : (subL L k s).length = s := by
  unfold subL
  simp
  omega
theorem Lay.sub {w : World} {g o : Nat} {L : List Nd} (h : Lay w g o L) (k s : Nat) (hs : k + s ≤ L.length) : Lay w g (o + k * 9) (subL L k s) :=
  ⟨h.lt, fun i hi j v hv => by
    rw [len_sub L k s hs] at hi
    rw [nd_sub hi] at hv
    have := h.c (k + i) (by omega) j v hv
    rw [show o + k * 9 + i * 9 + j = o + (k + i) * 9 + j by omega]
    exact this⟩
theorem fine_sub {L : List Nd} (h : Fine L) (k s : Nat) (hs : k + s ≤ L.length) : Fine (subL L k s) :=
  ⟨by rw [len_sub L k s hs]; have := h.len; omega, fun i hi => by
    rw [len_sub L k s hs] at hi
    rw [nd_sub hi]
    exact h.txt (k + i) (by omega)⟩

/-- A field of a node is written with what it holds. -/
theorem lay_again {w : World} {B : Nat} {L : List Nd} (h : Lay w B 0 L) (ht : w.there B 0 (L.length * 9)) (k j : Nat) (v : Value) (hk : k < L.length) (hj : j < 9) (hv : (ndV (nd L k))[j]? = some v) :
    Lay (w.setCell ⟨B, k * 9 + j, none⟩ v) B 0 L ∧ (w.setCell ⟨B, k * 9 + j, none⟩ v).there B 0 (L.length * 9) := by
  have e : L.modify k id = L := by simp
  have := lay_put h ht k j v id hk hj fun i u hu => ⟨fun e => by subst e; have hu' : (ndV (nd L k))[i]? = some u := hu; rw [hv] at hu'; exact (Option.some.inj hu').symm, fun _ => hu⟩
  rwa [e] at this

/-- A list of its own, whose cells may be written. -/
structure Own (w W : World) (B : Nat) (S : List Nd) : Prop where
  lay : Lay W B 0 S
  there : W.there B 0 (S.length * 9)
  bel : Below w.heap.size w W
  le : w.heap.size ≤ B
theorem Own.call {w W W' : World} {B : Nat} {S : List Nd} (h : Own w W B S) (hb : Below W.heap.size W W') : Own w W' B S :=
  ⟨h.lay.next hb, fun j hj => ⟨by rw [hb.cell (p := ⟨B, 0 + j, none⟩) h.lay.lt]; exact (h.there j hj).1, by rw [hb.frozen (p := ⟨B, 0 + j, none⟩) h.lay.lt]; exact (h.there j hj).2⟩, h.bel.trans (hb.mono h.bel.size), h.le⟩
theorem Own.put {w W : World} {B : Nat} {S : List Nd} (h : Own w W B S) (i j : Nat) (v : Value) (hi : i < S.length) (hj : j < 9) (hv : (ndV (nd S i))[j]? = some v) : Own w (W.setCell ⟨B, i * 9 + j, none⟩ v) B S := by
  obtain ⟨h1, h2⟩ := lay_again h.lay h.there i j v hi hj hv
  exact ⟨h1, h2, h.bel.setCell (p := ⟨B, i * 9 + j, none⟩) h.le _, h.le⟩
theorem Own.cell {w W : World} {B : Nat} {S : List Nd} (h : Own w W B S) (i j : Nat) (v : Value) (hi : i < S.length) (hj : j < 9) (hv : (ndV (nd S i))[j]? = some v) : W.cell? ⟨B, i * 9 + j, none⟩ = some v ∧ W.frozen? ⟨B, i * 9 + j, none⟩ = false := by
  have h1 := h.lay.c i hi j v hv
  have h2 := (h.there (i * 9 + j) (by omega)).2
  rw [Nat.zero_add] at h1 h2
  exact ⟨h1, h2⟩

/-- The subtree that Sub answers. -/
def subA (L : List Nd) (N : Int) : List Nd := if hasS L N then subL L N.toNat (sz L N.toNat).toNat else []

set_option maxRecDepth 100000 in
set_option maxHeartbeats 1000000 in
theorem sub_any (w : World) (p : Option Addr) (n cap : Nat) (L : List Nd) (N : Int) (h : Reads w p n L) (hcap : n ≤ cap) (hk : KwAt w) :
    Calls Tryd.prog 16 #[.agg #[.slice p n cap], .int .i64 N] w fun e w' => (∃ p' cap', e = .returned (.agg #[.slice p' (subA L N).length cap']) ∧ Hid (Twn w w' (subA L N) p')) ∧ Below w.heap.size w w' := by
  obtain ⟨w1, hw1⟩ : ∃ w1, (w.alloc (.cells #[.slice p n cap] 24)).alloc (.cells #[.slice none 0 0] 24) = w1 := ⟨_, rfl⟩
  have z1 : w1.heap.size = w.heap.size + 2 := by rw [← hw1]; simp
  have B1 : Hid (Below w.heap.size w w1) := by rw [← hw1]; exact ((Below.refl _ w).alloc (Nat.le_refl _) _).alloc (by simp) _
  have c1 : w1.cell? ⟨w.heap.size, 0, none⟩ = some (.slice p n cap) := by rw [← hw1]; exact cell_old _ (cell_new _ _ _ _ _ rfl)
  have c2 : w1.cell? ⟨w.heap.size + 1, 0, none⟩ = some (.slice none 0 0) ∧ w1.frozen? ⟨w.heap.size + 1, 0, none⟩ = false := by rw [← hw1]; have := new_cell (w.alloc (.cells #[.slice p n cap] 24)) (.slice none 0 0) 24; rwa [World.size_alloc] at this
  have RD : Hid (Reads w1 p n L) := h.next B1.out
  have H : Hid (Calls Tryd.prog 33 #[.agg #[.slice p n cap], .int .i64 N] w1 fun e w' => e = .returned (.bool (hasS L N)) ∧ Below w1.heap.size w1 w') := hasNode_any w1 p n cap L N RD.out (hk.next B1.out)
  clear h hk
  cases hh : hasS L N with
  | false =>
    have HK : Hid (subA L N = []) := by show _ = _; unfold subA; rw [hh]; rfl
    rw [hh] at H
    clear hh
    go_enter Tryd.func16, Tryd.ntmps16
    go_wp2_with (first
      | (go_at_call 33; refine H.out.mono ?_; rintro e w2 ⟨rfl, hb2⟩; have d2 := (hb2.cell (p := ⟨w.heap.size + 1, 0, none⟩) (show w.heap.size + 1 < _ by omega)).trans c2.1; have f2 := (hb2.frozen (p := ⟨w.heap.size + 1, 0, none⟩) (show w.heap.size + 1 < _ by omega)).trans c2.2)
      | go_in)
    have hq : (w2.setCell ⟨w.heap.size + 1, 0, none⟩ (.slice none 0 0)).cell? ⟨w.heap.size + 1, 0, none⟩ = some (.slice none 0 0) := World.cell?_setCell_same' _ _ _ (by rw [d2]; rfl)
    rw [HK.out]
    exact bodyPost_ret (v := .agg #[.slice none 0 0]) (by simp [results, Tryd.results16, go_sem, hq]) rfl ⟨⟨none, 0, rfl, fun hne => absurd rfl hne⟩, (B1.out.trans (hb2.mono B1.out.size)).setCell (p := ⟨w.heap.size + 1, 0, none⟩) (by show w.heap.size ≤ w.heap.size + 1; omega) _⟩
  | true =>
    obtain ⟨k, rfl, hkl, ht⟩ := has_tree hh
    have HK : subA L (k : Int) = subL L k (sz L k).toNat := by unfold subA; rw [hh, Int.toNat_natCast]; rfl
    rw [hh] at H
    obtain ⟨g1, g2⟩ := (tr_of ht).good k hkl
    obtain ⟨hf, hlen, hrd⟩ := RD.out
    have hLb := hf.len
    obtain ⟨g, o, rfl, hl⟩ := hrd (fun e => by rw [e] at hkl; simp at hkl)
    have d := hl.size hkl
    rw [HK]
    unfold sz at *
    generalize (nd L k).size = s at *
    obtain ⟨m, rfl⟩ : ∃ m : Nat, s = (m : Int) := ⟨s.toNat, by omega⟩
    rw [Int.toNat_natCast]
    have hm : k + m ≤ L.length := by omega
    have hml := len_sub L k m hm
    have HS : Hid (Lay w1 g (o + k * 9) (subL L k m)) := hl.sub k m hm
    obtain ⟨S, hS⟩ : ∃ S, subL L k m = S := ⟨_, rfl⟩
    rw [hS] at HS hml ⊢
    have HF : Hid (Fine S) := by rw [← hS]; exact fine_sub hf k m hm
    have HL : Hid (Lay w1 g o L) := hl
    have i0 : (0 : Int) ≤ (k : Int) := by omega
    have i1 : (k : Int) < (n : Int) := by omega
    have i2 : (k : Int) ≤ (k : Int) + (m : Int) := by omega
    have i3 : (k : Int) + (m : Int) ≤ (cap : Int) := by omega
    have i4 : IntKind.i64.wrap ((k : Int) + (m : Int)) = (k : Int) + (m : Int) := by rw [IntKind.wrap_i64]; omega
    clear hl hh ht hrd HK hS hf
    subst hml
    go_enter Tryd.func16, Tryd.ntmps16
    go_upto_region 3 with (first
      | (go_at_call 33; refine H.out.mono ?_; rintro e w2 ⟨rfl, hb2⟩; have d2 := (hb2.cell (p := ⟨w.heap.size + 1, 0, none⟩) (show w.heap.size + 1 < _ by omega)).trans c2.1; have f2 := (hb2.frozen (p := ⟨w.heap.size + 1, 0, none⟩) (show w.heap.size + 1 < _ by omega)).trans c2.2; have a2 := (hb2.cell (p := ⟨w.heap.size, 0, none⟩) (show w.heap.size < _ by omega)).trans c1; have s2 := (hb2.cell (p := ⟨g, o + k * 9 + 8, none⟩) HL.out.lt).trans d)
      | go_in)
    have SV : Hid (∀ w' : World, Below w1.heap.size w1 w' → w'.cell? ⟨w.heap.size, 0, none⟩ = some (.slice (some ⟨g, o, none⟩) n cap) ∧ w'.cell? ⟨g, o + k * 9 + 8, none⟩ = some (.int .i64 (S.length : Int)) ∧ Below w1.heap.size w1 w') := fun w' hb => ⟨(hb.cell (p := ⟨w.heap.size, 0, none⟩) (show w.heap.size < _ by omega)).trans c1, (hb.cell (p := ⟨g, o + k * 9 + 8, none⟩) HL.out.lt).trans d, hb⟩
    have HC : Hid (∀ w' : World, Below w1.heap.size w1 w' → Calls Tryd.prog 36 #[.slice (if cap = k then some ⟨g, o, none⟩ else some ⟨g, o + k * 9, none⟩) (((k : Int) + (S.length : Int)).toNat - k) (cap - k)] w' fun e w'' => (∃ B cap', e = .returned (.slice (some ⟨B, 0, none⟩) S.length cap') ∧ Hid (w'.heap.size ≤ B ∧ Lay w'' B 0 S ∧ w''.there B 0 (S.length * 9))) ∧ Below w'.heap.size w' w'') := fun w' hb => by
      rw [if_neg (by omega), show ((k : Int) + (S.length : Int)).toNat - k = S.length by omega]
      exact cloneN_any w' ⟨g, o + k * 9, none⟩ _ S (by omega) (by omega) (flat_src (HS.out.next hb))
    clear c1 d hw1
    have hcd : Below w1.heap.size w1 w2.drew := hb2.drew
    go_region_held3 (fun w' => w'.cell? ⟨w.heap.size, 0, none⟩ = some (.slice (some ⟨g, o, none⟩) n cap) ∧ w'.cell? ⟨g, o + k * 9 + 8, none⟩ = some (.int .i64 (S.length : Int)) ∧ Below w1.heap.size w1 w') (exact SV.out _ (by assumption))
      (first | (go_at_call 36; refine (HC.out _ hcd).mono ?_; rintro e w3 ⟨⟨B, cap', rfl, h3⟩, hb3⟩; replace hcd := hcd.trans (hb3.mono hcd.size)))
    have HO : Hid (Own w1 w3 B S) := ⟨h3.out.2.1, h3.out.2.2, hcd, Nat.le_trans hb2.size h3.out.1⟩
    clear h3 hb3 hcd SV HC d2 f2 a2 s2 H RD i2 i3 i4
    go_wp2
    go_loopw [28] (fun v wr => ∃ i : Nat, i ≤ S.length ∧ v = .int .i64 (i : Int) ∧ Hid (Own w1 wr B S)) (fun v _ => S.length - (intOf v).toNat)
    case atStart => exact ⟨0, by omega, rfl, HO⟩
    case round =>
      obtain ⟨i, hi, rfl, ho⟩ := hrel
      clear HO
      by_cases hlt : i < S.length
      · have j0 : (0 : Int) ≤ (i : Int) := by omega
        have j1 : (i : Int) < (S.length : Int) := by omega
        obtain ⟨t1, t2, t3, t4⟩ := HF.out.txt i hlt
        obtain ⟨x, hx⟩ : ∃ x, nd S i = x := ⟨_, rfl⟩
        have HX : Hid (nd S i = x) := hx
        rw [hx] at t1 t2 t3 t4
        clear hx
        obtain ⟨kd, ps, nm, lb, ty, op, it, tx, zz⟩ := x
        have HV : Hid (∀ (j : Nat) (v : Value), (ndV ⟨kd, ps, nm, lb, ty, op, it, tx, zz⟩)[j]? = some v → (ndV (nd S i))[j]? = some v) := fun j v hv => by rw [HX.out]; exact hv
        clear HX
        replace t1 : nm.size ≤ 281474976710656 := Nat.le_trans t1 (by decide)
        replace t2 : lb.size ≤ 281474976710656 := Nat.le_trans t2 (by decide)
        replace t3 : ty.size ≤ 281474976710656 := Nat.le_trans t3 (by decide)
        replace t4 : tx.size ≤ 281474976710656 := Nat.le_trans t4 (by decide)
        have q0 := (ho.out.cell i 2 (.string nm) hlt (by omega) (HV.out 2 _ rfl)).1
        go_upto_region 9 with (first
          | (go_at_call 37; refine (clone_any nm _ t1).mono ?_; rintro e wa0 ⟨rfl, hba0⟩; obtain ⟨qa0, fa0⟩ := (ho.out.call hba0).cell i 2 (.string nm) hlt (by omega) (HV.out 2 _ rfl))
          | go_in)
        have ho0 : Hid (Own w1 (wa0.setCell ⟨B, i * 9 + 2, none⟩ (.string nm)) B S) := (ho.out.call hba0).put i 2 _ hlt (by omega) (HV.out 2 _ rfl)
        obtain ⟨wb0, hwb0⟩ : ∃ wb, wa0.setCell ⟨B, i * 9 + 2, none⟩ (.string nm) = wb := ⟨_, rfl⟩
        rw [hwb0] at ho0 ⊢
        clear q0 qa0 fa0 hwb0 hba0 ho
        have q1 := (ho0.out.cell i 3 (.string lb) hlt (by omega) (HV.out 3 _ rfl)).1
        go_upto_region 10 with (first
          | (go_at_call 37; refine (clone_any lb _ t2).mono ?_; rintro e wa1 ⟨rfl, hba1⟩; obtain ⟨qa1, fa1⟩ := (ho0.out.call hba1).cell i 3 (.string lb) hlt (by omega) (HV.out 3 _ rfl))
          | go_in)
        have ho1 : Hid (Own w1 (wa1.setCell ⟨B, i * 9 + 3, none⟩ (.string lb)) B S) := (ho0.out.call hba1).put i 3 _ hlt (by omega) (HV.out 3 _ rfl)
        obtain ⟨wb1, hwb1⟩ : ∃ wb, wa1.setCell ⟨B, i * 9 + 3, none⟩ (.string lb) = wb := ⟨_, rfl⟩
        rw [hwb1] at ho1 ⊢
        clear q1 qa1 fa1 hwb1 hba1 ho0
        have q2 := (ho1.out.cell i 4 (.string ty) hlt (by omega) (HV.out 4 _ rfl)).1
        go_upto_region 11 with (first
          | (go_at_call 37; refine (clone_any ty _ t3).mono ?_; rintro e wa2 ⟨rfl, hba2⟩; obtain ⟨qa2, fa2⟩ := (ho1.out.call hba2).cell i 4 (.string ty) hlt (by omega) (HV.out 4 _ rfl))
          | go_in)
        have ho2 : Hid (Own w1 (wa2.setCell ⟨B, i * 9 + 4, none⟩ (.string ty)) B S) := (ho1.out.call hba2).put i 4 _ hlt (by omega) (HV.out 4 _ rfl)
        obtain ⟨wb2, hwb2⟩ : ∃ wb, wa2.setCell ⟨B, i * 9 + 4, none⟩ (.string ty) = wb := ⟨_, rfl⟩
        rw [hwb2] at ho2 ⊢
        clear q2 qa2 fa2 hwb2 hba2 ho1
        have q3 := (ho2.out.cell i 7 (.string tx) hlt (by omega) (HV.out 7 _ rfl)).1
        go_upto_region 12 with (first
          | (go_at_call 37; refine (clone_any tx _ t4).mono ?_; rintro e wa3 ⟨rfl, hba3⟩; obtain ⟨qa3, fa3⟩ := (ho2.out.call hba3).cell i 7 (.string tx) hlt (by omega) (HV.out 7 _ rfl))
          | go_in)
        have ho3 : Hid (Own w1 (wa3.setCell ⟨B, i * 9 + 7, none⟩ (.string tx)) B S) := (ho2.out.call hba3).put i 7 _ hlt (by omega) (HV.out 7 _ rfl)
        obtain ⟨wb3, hwb3⟩ : ∃ wb, wa3.setCell ⟨B, i * 9 + 7, none⟩ (.string tx) = wb := ⟨_, rfl⟩
        rw [hwb3] at ho3 ⊢
        clear q3 qa3 fa3 hwb3 hba3 ho2
        go_wp2
        exact ⟨⟨i + 1, by omega, by go_num, ho3⟩, by simp [intOf]; omega⟩
      · obtain rfl : i = S.length := by omega
        have dr := (ho.out.bel.cell (p := ⟨w.heap.size + 1, 0, none⟩) (show w.heap.size + 1 < _ by omega)).trans c2.1
        have fr := (ho.out.bel.frozen (p := ⟨w.heap.size + 1, 0, none⟩) (show w.heap.size + 1 < _ by omega)).trans c2.2
        go_wp2
        have hq : (wr.setCell ⟨w.heap.size + 1, 0, none⟩ (.slice (some ⟨B, 0, none⟩) S.length cap')).cell? ⟨w.heap.size + 1, 0, none⟩ = some (.slice (some ⟨B, 0, none⟩) S.length cap') := World.cell?_setCell_same' _ _ _ (by rw [dr]; rfl)
        have hBle := ho.out.le
        exact bodyPost_ret (v := .agg #[.slice (some ⟨B, 0, none⟩) S.length cap']) (by simp [results, Tryd.results16, go_sem, hq]) rfl ⟨⟨_, _, rfl, fun _ => ⟨B, rfl, by omega, ho.out.lay.set _ (by omega), fun j hj => ⟨by rw [cell_set _ (by show B ≠ _; omega)]; exact (ho.out.there j hj).1, by rw [World.frozen?_setCell]; exact (ho.out.there j hj).2⟩⟩⟩, (B1.out.trans (ho.out.bel.mono (by omega))).setCell (p := ⟨w.heap.size + 1, 0, none⟩) (by show w.heap.size ≤ w.heap.size + 1; omega) _⟩

end Go.Proofs.YtekgnogjfggnmaaDoor
