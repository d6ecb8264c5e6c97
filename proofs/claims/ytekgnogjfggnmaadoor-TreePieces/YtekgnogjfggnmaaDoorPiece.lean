import Derived.Test.YtekgnogjfggnmaaDoorPieceK
import Derived.Test.YtekgnogjfggnmaaDoorTwinC
import Derived.Test.YtekgnogjfggnmaaDoorSpineA
import Derived.Test.YtekgnogjfggnmaaDoorSameN
namespace Go.Proofs.YtekgnogjfggnmaaDoor
open Go.RowKit

theorem row_form {w : World} {base : Nat} {v : Value} {l : List Nat} (h : w.ownsRow base 3 1 v l.length (iv (nI l))) :
    ∃ pv cv, v = .slice pv l.length cv ∧ ∀ (j x : Nat), l[j]? = some x → ∃ G, pv = some ⟨G, 0, none⟩ ∧ G < w.heap.size ∧ w.cell? ⟨G, j, none⟩ = some (.int .i64 (x : Int)) := by
  rcases h.2 with ⟨h0, h1⟩ | ⟨g, cap, cur, rfl, hb, hg, hnc, hcm, hcs, htake⟩
  · refine ⟨none, 0, by rw [h0, h1], fun j x hx => ?_⟩
    have := (List.getElem?_eq_some_iff.1 hx).1
    omega
  · refine ⟨_, _, rfl, fun j x hx => ⟨g, rfl, (Array.getElem?_eq_some_iff.1 hg).1, ?_⟩⟩
    have hv : (iv (nI l))[j]? = some (.int .i64 (x : Int)) := by simp [iv, nI, hx]
    have := h.cells (g := g) rfl j _ hv
    rwa [show (⟨g, 0, none⟩ : Addr).add j = ⟨g, j, none⟩ by by_cases hj : j = 0 <;> simp [Addr.add, hj]] at this

theorem hasS_yes {L : List Nd} (h : treeS nameS typeS L = true) {x : Nat} (hx : x < L.length) : hasS L (x : Int) = true := by
  unfold hasS
  rw [h]
  simp
  exact hx
theorem lastS_at {L : List Nd} (h : treeS nameS typeS L = true) {x : Nat} (hx : x < L.length) : lastS L (x : Int) = (x : Int) + sz L x - 1 := by
  unfold lastS
  rw [hasS_yes h hx, Int.toNat_natCast]
  rfl
theorem par_at' {L : List Nd} (h : treeS nameS typeS L = true) {x : Nat} (hx : x < L.length) : parS L (x : Int) = par L x x := by
  unfold parS
  rw [hasS_yes h hx, Int.toNat_natCast]
  rfl

set_option maxRecDepth 100000 in
set_option maxHeartbeats 2000000 in
theorem piece_any (w : World) (g o cap : Nat) (L : List Nd) (k : Nat) (hf : Fine L) (hl : Lay w g o L) (hcap : L.length ≤ cap) (hk : KwAt w) (ht : treeS nameS typeS L = true) (hkl : k < L.length) :
    Calls Tryd.prog 15 #[.agg #[.slice (some ⟨g, o, none⟩) L.length cap], .int .i64 (k : Int)] w fun e w' => e = .returned (.bool true) ∧ Below w.heap.size w w' := by
  have hLb := hf.len
  have HTR : Hid (Tr L) := tr_of ht
  have HTT : Hid (treeS nameS typeS L = true) := ht
  obtain ⟨w1, hw1⟩ : ∃ w1, w.alloc (.cells #[.slice (some ⟨g, o, none⟩) L.length cap] 24) = w1 := ⟨_, rfl⟩
  have z1 : w1.heap.size = w.heap.size + 1 := by rw [← hw1]; simp
  have B1 : Hid (Below w.heap.size w w1) := by rw [← hw1]; exact (Below.refl _ w).alloc (Nat.le_refl _) _
  have c1 : w1.cell? ⟨w.heap.size, 0, none⟩ = some (.slice (some ⟨g, o, none⟩) L.length cap) := by rw [← hw1]; exact cell_new _ _ _ _ _ rfl
  have HL1 : Hid (Lay w1 g o L) := hl.next B1.out
  have HK1 : Hid (KwAt w1) := hk.next B1.out
  have HF : Hid (Fine L) := hf
  have H8 : Hid (∀ w', Below w1.heap.size w1 w' → Calls Tryd.prog 8 #[.agg #[.slice (some ⟨g, o, none⟩) L.length cap]] w' fun e w'' => (∃ p' cap', e = .returned (.agg #[.slice p' L.length cap']) ∧ L.length ≤ cap' ∧ Hid (Reads w'' p' L.length L)) ∧ Below w'.heap.size w' w'') :=
    fun w' hb => twinC_any w' _ _ cap L ⟨⟨hf, rfl, fun _ => ⟨g, o, rfl, HL1.out.next hb⟩⟩, fun e => by cases e⟩
  obtain ⟨K, hK⟩ : ∃ K, kidsN L k = K := ⟨_, rfl⟩
  have HKN : Hid (kidsN L k = K) := hK
  have H13 : Hid (∀ (w' : World) (p' : Option Addr) (cap' : Nat), Below w1.heap.size w1 w' → Reads w' p' L.length L → Calls Tryd.prog 13 #[.agg #[.slice p' L.length cap'], .int .i64 (k : Int)] w' fun e w'' => (∃ pv cv, e = .returned (.slice pv K.length cv) ∧ Hid (∀ (j x : Nat), K[j]? = some x → ∃ G, pv = some ⟨G, 0, none⟩ ∧ G < w''.heap.size ∧ w''.cell? ⟨G, j, none⟩ = some (.int .i64 (x : Int)))) ∧ Below w'.heap.size w' w'') := fun w' p' cap' hb hr =>
    (kids_any w' p' L.length cap' L k hr (HK1.out.next hb)).mono fun e w'' h => by
      obtain ⟨⟨v, e1, e2⟩, hb⟩ := h
      have : kidsA L (k : Int) = K := by unfold kidsA; rw [hasS_yes ht hkl, Int.toNat_natCast, ← hK]; rfl
      rw [this] at e2
      obtain ⟨pv, cv, rfl, hh⟩ := row_form e2.out
      exact ⟨⟨pv, cv, e1, hh⟩, hb⟩
  have H11 : Hid (∀ (w' : World) (p' : Option Addr) (cap' x : Nat), Below w1.heap.size w1 w' → Reads w' p' L.length L → x < L.length → Calls Tryd.prog 11 #[.agg #[.slice p' L.length cap'], .int .i64 (x : Int)] w' fun e w'' => e = .returned (.int .i64 ((x : Int) + sz L x - 1)) ∧ Below w'.heap.size w' w'') := fun w' p' cap' x hb hr hx => by
    have := last_any w' p' L.length cap' L x hr (HK1.out.next hb)
    rwa [lastS_at ht hx] at this
  have H12 : Hid (∀ (w' : World) (p' : Option Addr) (cap' x : Nat), Below w1.heap.size w1 w' → Reads w' p' L.length L → x < L.length → Calls Tryd.prog 12 #[.agg #[.slice p' L.length cap'], .int .i64 (x : Int)] w' fun e w'' => e = .returned (.int .i64 (par L x x)) ∧ Below w'.heap.size w' w'') := fun w' p' cap' x hb hr hx => by
    have := parent_any w' p' L.length cap' L x hr (HK1.out.next hb)
    rwa [par_at' ht hx] at this
  have H14 : Hid (∀ (w' : World) (p' : Option Addr) (cap' : Nat), Below w1.heap.size w1 w' → Reads w' p' L.length L → Calls Tryd.prog 14 #[.agg #[.slice p' L.length cap'], .int .i64 (k : Int)] w' fun e w'' => (∃ pv cv l, e = .returned (.slice pv l.length cv) ∧ Hid (∀ (j x : Nat), l[j]? = some x → ∃ G, pv = some ⟨G, 0, none⟩ ∧ G < w''.heap.size ∧ w''.cell? ⟨G, j, none⟩ = some (.int .i64 (x : Int))) ∧ Hid (Way L l k)) ∧ Below w'.heap.size w' w'') := fun w' p' cap' hb hr =>
    (spine_any w' p' L.length cap' L k hr (HK1.out.next hb)).mono fun e w'' h => by
      obtain ⟨⟨v, l, e1, e2, e3⟩, hb⟩ := h
      obtain ⟨pv, cv, rfl, hh⟩ := row_form e2.out
      have hs := e3.out
      unfold SpineOk at hs
      rw [hasS_yes ht hkl, Int.toNat_natCast] at hs
      exact ⟨⟨pv, cv, l, e1, hh, hs⟩, hb⟩
  have H16 : Hid (∀ (m : Nat), sz L k = (m : Int) → ∀ (w' : World) (p' : Option Addr) (cap' : Nat), Below w1.heap.size w1 w' → Reads w' p' L.length L → L.length ≤ cap' → Calls Tryd.prog 16 #[.agg #[.slice p' L.length cap'], .int .i64 (k : Int)] w' fun e w'' => (∃ B cap'', e = .returned (.agg #[.slice (some ⟨B, 0, none⟩) m cap'']) ∧ Hid (Lay w'' B 0 (subL L k m))) ∧ Below w'.heap.size w' w'') := fun m hm w' p' cap' hb hr hc =>
    (sub_any w' p' L.length cap' L k hr hc (HK1.out.next hb)).mono fun e w'' h => by
      obtain ⟨⟨p2, cap2, e1, e2⟩, hb⟩ := h
      obtain ⟨g1, g2⟩ := HTR.out.good k hkl
      have hA : subA L (k : Int) = subL L k m := by unfold subA; rw [hasS_yes ht hkl, Int.toNat_natCast, hm, Int.toNat_natCast]; rfl
      have hlen : (subL L k m).length = m := len_sub L k m (by omega)
      rw [hA] at e1 e2
      obtain ⟨B, rfl, _, hlB, _⟩ := e2.out (fun e => by rw [e] at hlen; simp at hlen; omega)
      rw [hlen] at e1
      exact ⟨⟨B, cap2, e1, hlB⟩, hb⟩
  have H24 : Hid (∀ (m : Nat), sz L k = (m : Int) → ∀ (w' : World) (B cap' : Nat), Below w1.heap.size w1 w' → Lay w' B 0 (subL L k m) → Calls Tryd.prog 24 #[.slice (some ⟨B, 0, none⟩) m cap', .slice (if cap = k then some ⟨g, o, none⟩ else some ⟨g, o + k * 9, none⟩) (((k : Int) + (m : Int)).toNat - k) (cap - k)] w' fun e w'' => e = .returned (.bool true) ∧ Below w'.heap.size w' w'') := fun m hm w' B cap' hb hlB => by
    obtain ⟨g1, g2⟩ := HTR.out.good k hkl
    have hlen : (subL L k m).length = m := len_sub L k m (by omega)
    have := sameN_any w' B 0 cap' g (o + k * 9) (cap - k) (subL L k m) (by omega) hlB ((HL1.out.next hb).sub k m (by omega))
    rw [hlen] at this
    rw [if_neg (by omega), show ((k : Int) + (m : Int)).toNat - k = m by omega]
    exact this
  have H7 : Hid (∀ (m : Nat), sz L k = (m : Int) → ∀ (w' : World) (B cap' : Nat), Below w1.heap.size w1 w' → Lay w' B 0 (subL L k m) → Calls Tryd.prog 7 #[.agg #[.slice (some ⟨B, 0, none⟩) m cap']] w' fun e w'' => e = .returned (.int .i64 (if treeS nameS typeS (subL L k m) then 0 else 30)) ∧ Below w'.heap.size w' w'') := fun m hm w' B cap' hb hlB => by
    obtain ⟨g1, g2⟩ := HTR.out.good k hkl
    have hlen : (subL L k m).length = m := len_sub L k m (by omega)
    exact valid_any w' _ m cap' (subL L k m) ⟨fine_sub hf k m (by omega), hlen, fun _ => ⟨B, 0, rfl, hlB⟩⟩ (HK1.out.next hb)
  have HV : Hid (∀ (m : Nat), sz L k = (m : Int) → treeS nameS typeS (subL L k m) = true ∨ (0 < k ∧ isExpr (nd L k).kind = false)) := fun m hm => by
    by_cases h0 : k = 0
    · left; have := tree_sub ht hkl (.inl h0); rwa [hm, Int.toNat_natCast] at this
    · cases hx : isExpr (nd L k).kind with
      | true => left; have := tree_sub ht hkl (.inr hx); rwa [hm, Int.toNat_natCast] at this
      | false => exact .inr ⟨by omega, rfl⟩
  clear hl hk ht hK hf
  go_enter Tryd.func15, Tryd.ntmps15
  go_wp2_with (first
    | (go_at_call 8; refine (H8.out w1 (Below.refl _ _)).mono ?_; rintro e w2 ⟨⟨p2, cap2, rfl, hc2, hr2⟩, hb2⟩)
    | (go_at_call 13; refine (H13.out w2 p2 cap2 hb2 hr2.out).mono ?_; rintro e w3 ⟨⟨pv, cv, rfl, hrow⟩, hb3⟩)
    | go_in)
  have b3 : Below w1.heap.size w1 w3 := hb2.trans (hb3.mono hb2.size)
  have HB3 : Hid (Below w1.heap.size w1 w3) := b3
  clear hb2 hb3 hr2 b3 H13 hw1
  go_loopw [6, 7] (fun a b wr => ∃ i : Nat, i ≤ K.length ∧ a = .int .i64 (posK L k (K.take i) : Int) ∧ b = .int .i64 (i : Int) ∧ Hid (Below w3.heap.size w3 wr)) (fun _ b _ => K.length - (intOf b).toNat)
  case atStart => exact ⟨0, by omega, by simp [posK], rfl, Below.refl _ _⟩
  case round =>
    obtain ⟨i, hi, rfl, rfl, hB⟩ := hrel
    by_cases hlt : i < K.length
    · obtain ⟨n1, n2, n3⟩ := kids_nth HTR.out hkl (i := i) (by rw [HKN.out]; exact hlt)
      rw [HKN.out] at n1 n2 n3
      obtain ⟨x, hx⟩ : ∃ x, posK L k (K.take i) = x := ⟨_, rfl⟩
      rw [hx] at n1 n2 n3 ⊢
      have hpar := n2.par HTR.out hkl
      have hgood := HTR.out.kid_good hkl n2
      obtain ⟨gk1, gk2⟩ := HTR.out.good k hkl
      have hxl : x < L.length := by have := n2.lt; omega
      obtain ⟨G, rfl, hG, hcell⟩ := hrow.out i x n1
      have hb1r : Below w1.heap.size w1 wr := HB3.out.trans (hB.out.mono HB3.out.size)
      have d1 := (hb1r.cell (p := ⟨w.heap.size, 0, none⟩) (show w.heap.size < _ by omega)).trans c1
      have d2 := (hB.out.cell (p := ⟨G, i, none⟩) hG).trans hcell
      have zr1 := hb1r.size
      have zr3 := hB.out.size
      have SV : Hid (∀ w' : World, Below wr.heap.size wr w' → w'.cell? ⟨w.heap.size, 0, none⟩ = some (.slice (some ⟨g, o, none⟩) L.length cap) ∧ w'.cell? ⟨G, i, none⟩ = some (.int .i64 (x : Int)) ∧ Below wr.heap.size wr w') := fun w' hb => ⟨(hb.cell (p := ⟨w.heap.size, 0, none⟩) (show w.heap.size < _ by omega)).trans d1, (hb.cell (p := ⟨G, i, none⟩) (show G < _ by omega)).trans d2, hb⟩
      have R8 : Hid (∀ w', Below wr.heap.size wr w' → Calls Tryd.prog 8 #[.agg #[.slice (some ⟨g, o, none⟩) L.length cap]] w' fun e w'' => (∃ p' cap', e = .returned (.agg #[.slice p' L.length cap']) ∧ L.length ≤ cap' ∧ Hid (Reads w'' p' L.length L)) ∧ Below w'.heap.size w' w'') := fun w' hb => H8.out w' (hb1r.trans (hb.mono zr1))
      have R12 : Hid (∀ (w' : World) (p' : Option Addr) (cap' : Nat), Below wr.heap.size wr w' → Reads w' p' L.length L → Calls Tryd.prog 12 #[.agg #[.slice p' L.length cap'], .int .i64 (x : Int)] w' fun e w'' => e = .returned (.int .i64 (k : Int)) ∧ Below w'.heap.size w' w'') := fun w' p' cap' hb hr => by
        have := H12.out w' p' cap' x (hb1r.trans (hb.mono zr1)) hr hxl
        rwa [hpar] at this
      have R11 : Hid (∀ (w' : World) (p' : Option Addr) (cap' : Nat), Below wr.heap.size wr w' → Reads w' p' L.length L → Calls Tryd.prog 11 #[.agg #[.slice p' L.length cap'], .int .i64 (x : Int)] w' fun e w'' => e = .returned (.int .i64 ((x : Int) + sz L x - 1)) ∧ Below w'.heap.size w' w'') := fun w' p' cap' hb hr => H11.out w' p' cap' x (hb1r.trans (hb.mono zr1)) hr hxl
      have i0 : (0 : Int) ≤ (i : Int) := by omega
      have i1 : (i : Int) < (K.length : Int) := by omega
      have s1 : 1 ≤ sz L x := hgood.1
      have s2 : (x : Int) + sz L x ≤ (L.length : Int) := by omega
      generalize sz L x = s at *
      have hw1' : IntKind.i64.wrap ((x : Int) + s) = (x : Int) + s := by rw [IntKind.wrap_i64]; omega
      have hw2' : IntKind.i64.wrap ((x : Int) + s - 1 + 1) = (x : Int) + s := by rw [IntKind.wrap_i64]; omega
      have hKL : K.length ≤ L.length := by rw [← HKN.out]; exact kids_len HTR.out hkl
      have HN3 : Hid (posK L k (K.take (i + 1)) = x + s.toNat) := n3
      have hcd : Below wr.heap.size wr wr.drew := (Below.refl _ wr).drew
      clear n1 n2 n3 hx hpar hgood gk1 gk2 hcell hb1r hrow H8 H11 H12 H14
      go_upto_region 6 with fail
      go_region_held3 (fun w' => w'.cell? ⟨w.heap.size, 0, none⟩ = some (.slice (some ⟨g, o, none⟩) L.length cap) ∧ w'.cell? ⟨G, i, none⟩ = some (.int .i64 (x : Int)) ∧ Below wr.heap.size wr w') (exact SV.out _ (by assumption))
        (first
        | (go_at_call 8; refine (R8.out _ hcd).mono ?_; rintro e w4 ⟨⟨p4, cap4, rfl, hc4, rt4⟩, hb4⟩; replace hcd := hcd.trans (hb4.mono hcd.size))
        | (go_at_call 12; refine (R12.out _ _ _ hcd ?_).mono ?_; (first | exact Hid.out (by assumption) | exact Reads.next (Hid.out (by assumption)) (by assumption)); rintro e w5 ⟨rfl, hb5⟩; replace hcd := hcd.trans (hb5.mono hcd.size)))
      go_upto_region 8 with fail
      replace hcd : Below wr.heap.size wr w5.drew := hcd.drew
      go_region_held3 (fun w' => w'.cell? ⟨w.heap.size, 0, none⟩ = some (.slice (some ⟨g, o, none⟩) L.length cap) ∧ w'.cell? ⟨G, i, none⟩ = some (.int .i64 (x : Int)) ∧ Below wr.heap.size wr w') (exact SV.out _ (by assumption))
        (first
        | (go_at_call 8; refine (R8.out _ hcd).mono ?_; rintro e w6 ⟨⟨p6, cap6, rfl, hc6, rt6⟩, hb6⟩; replace hcd := hcd.trans (hb6.mono hcd.size))
        | (go_at_call 11; refine (R11.out _ _ _ hcd ?_).mono ?_; (first | exact Hid.out (by assumption) | exact Reads.next (Hid.out (by assumption)) (by assumption)); rintro e w7 ⟨rfl, hb7⟩; replace hcd := hcd.trans (hb7.mono hcd.size)))
      go_wp2
      exact ⟨⟨i + 1, by omega, by rw [HN3.out]; congr 1; omega, by go_num, hB.out.trans (hcd.mono zr3)⟩, by simp [intOf]; omega⟩
    · obtain rfl : i = K.length := by omega
      have hend : posK L k (K.take K.length) = endOf L k := by rw [List.take_length, ← HKN.out]; exact kids_end HTR.out hkl
      obtain ⟨gk1, gk2⟩ := HTR.out.good k hkl
      have he : (endOf L k : Int) = k + sz L k := by unfold endOf; omega
      rw [hend, he]
      have hb1r : Below w1.heap.size w1 wr := HB3.out.trans (hB.out.mono HB3.out.size)
      have d1 := (hb1r.cell (p := ⟨w.heap.size, 0, none⟩) (show w.heap.size < _ by omega)).trans c1
      have C : Hid (∀ w', Below w1.heap.size w1 w' → w'.cell? ⟨w.heap.size, 0, none⟩ = some (.slice (some ⟨g, o, none⟩) L.length cap)) := fun w' hb => (hb.cell (p := ⟨w.heap.size, 0, none⟩) (show w.heap.size < _ by omega)).trans c1
      have R11 : Hid (∀ (w' : World) (p' : Option Addr) (cap' : Nat), Below w1.heap.size w1 w' → Reads w' p' L.length L → Calls Tryd.prog 11 #[.agg #[.slice p' L.length cap'], .int .i64 (k : Int)] w' fun e w'' => e = .returned (.int .i64 ((k : Int) + sz L k - 1)) ∧ Below w'.heap.size w' w'') := fun w' p' cap' hb hr => H11.out w' p' cap' k hb hr hkl
      obtain ⟨m, hm⟩ : ∃ m : Nat, sz L k = (m : Int) := ⟨(sz L k).toNat, by omega⟩
      have HM : Hid (sz L k = (m : Int)) := hm
      rw [hm] at R11 gk1 gk2 ⊢
      have v1' : IntKind.i64.wrap ((k : Int) + (m : Int)) = (k : Int) + (m : Int) := by rw [IntKind.wrap_i64]; omega
      have v2' : IntKind.i64.wrap ((k : Int) + (m : Int) - 1 + 1) = (k : Int) + (m : Int) := by rw [IntKind.wrap_i64]; omega
      have hcd : Below w1.heap.size w1 wr := hb1r
      clear hend he hm hrow hB H11 hi hlt hb1r
      go_upto_region 11 with (first
        | (go_at_call 8; refine (H8.out _ hcd).mono ?_; rintro e w4 ⟨⟨p4, cap4, rfl, hc4, rt4⟩, hb4⟩; replace hcd := hcd.trans (hb4.mono hcd.size))
        | (go_at_call 11; refine (R11.out _ _ _ hcd ?_).mono ?_; exact Hid.out (by assumption); rintro e w5 ⟨rfl, hb5⟩; replace hcd := hcd.trans (hb5.mono hcd.size); have d5 := C.out w5 hcd)
        | go_in)
      clear rt4 hb4 hb5 d1
      go_upto_region 12 with (first
        | (go_at_call 8; refine (H8.out _ hcd).mono ?_; rintro e w6 ⟨⟨p6, cap6, rfl, hc6, rt6⟩, hb6⟩; replace hcd := hcd.trans (hb6.mono hcd.size))
        | (go_at_call 14; refine (H14.out _ _ _ hcd ?_).mono ?_; exact Hid.out (by assumption); rintro e w7 ⟨⟨pv7, cv7, l, rfl, hrow7, hway⟩, hb7⟩; replace hcd := hcd.trans (hb7.mono hcd.size))
        | go_in)
      obtain ⟨q1, q2, q3, q4, q5, q6⟩ := hway.out.parts HTR.out
      have q7 := hway.out.len
      obtain ⟨G7, rfl, hG7, r0⟩ := hrow7.out 0 0 q2
      obtain ⟨r, hr⟩ : ∃ r, l.length = r + 1 := ⟨l.length - 1, by omega⟩
      rw [hr] at q4 ⊢
      obtain ⟨G8, e7, _, r1⟩ := hrow7.out r k (by simpa using q4)
      cases e7
      have u1 : IntKind.i64.wrap (((r + 1 : Nat) : Int) - 1) = (r : Int) := by rw [IntKind.wrap_i64]; omega
      have u2 : IntKind.i64.wrap ((r : Int) + 1 - 1) = (r : Int) := by rw [IntKind.wrap_i64]; omega
      have u3 : (r : Int) < (r : Int) + 1 := by omega
      have u4 : (0 : Int) ≤ (r : Int) := by omega
      have u5 : ¬ ((r : Int) + 1 < 1) := by omega
      have u6 : (0 : Int) < (r : Int) + 1 := by omega
      have HQ5 : Hid (∀ (i x y : Nat), l[i]? = some x → l[i + 1]? = some y → par L y y = (x : Int)) := q5
      have HQ6 : Hid (∀ (i x : Nat), l[i]? = some x → x < L.length) := q6
      have HC7 : Hid (Below w1.heap.size w1 w7) := hcd
      have hrL : r < L.length := by omega
      have HR : Hid (l.length = r + 1) := hr
      clear q1 q2 q3 q4 q5 q6 q7 hr rt6 hb6 hb7 hcd H14
      go_wp2
      go_loopw [9] (fun a wr' => ∃ i : Nat, i ≤ r ∧ a = .int .i64 (i : Int) ∧ Hid (Below w7.heap.size w7 wr')) (fun a _ => (intOf a).toNat)
      case atStart => exact ⟨r, Nat.le_refl _, rfl, Below.refl _ _⟩
      case round =>
        obtain ⟨i, hi, rfl, hB7⟩ := hrel
        have b7 : Below w1.heap.size w1 wr := HC7.out.trans (hB7.out.mono HC7.out.size)
        have dS := (b7.cell (p := ⟨w.heap.size, 0, none⟩) (show w.heap.size < _ by omega)).trans c1
        have zr1 := b7.size
        have zr7 := hB7.out.size
        by_cases hgo : 0 < i ∧ (r : Int) + 1 - 20 < (i : Int)
        · obtain ⟨hg1, hg2⟩ := hgo
          obtain ⟨t, rfl⟩ : ∃ t, i = t + 1 := ⟨i - 1, by omega⟩
          obtain ⟨y, hy⟩ : ∃ y, l[t + 1]? = some y := ⟨_, List.getElem?_eq_getElem (by rw [HR.out]; omega)⟩
          obtain ⟨x, hx⟩ : ∃ x, l[t]? = some x := ⟨_, List.getElem?_eq_getElem (by rw [HR.out]; omega)⟩
          obtain ⟨Ga, e1, _, y1⟩ := hrow7.out (t + 1) y hy
          cases e1
          obtain ⟨Gb, e2, _, x1⟩ := hrow7.out t x hx
          cases e2
          have hpar := HQ5.out t x y hx hy
          have hyl := HQ6.out _ _ hy
          have y2 := (hB7.out.cell (p := ⟨G7, t + 1, none⟩) hG7).trans y1
          have x2 := (hB7.out.cell (p := ⟨G7, t, none⟩) hG7).trans x1
          have SV : Hid (∀ w' : World, Below wr.heap.size wr w' → w'.cell? ⟨w.heap.size, 0, none⟩ = some (.slice (some ⟨g, o, none⟩) L.length cap) ∧ w'.cell? ⟨G7, t + 1, none⟩ = some (.int .i64 (y : Int)) ∧ w'.cell? ⟨G7, t, none⟩ = some (.int .i64 (x : Int)) ∧ Below wr.heap.size wr w') := fun w' hb => ⟨(hb.cell (p := ⟨w.heap.size, 0, none⟩) (show w.heap.size < _ by omega)).trans dS, (hb.cell (p := ⟨G7, t + 1, none⟩) (show G7 < _ by omega)).trans y2, (hb.cell (p := ⟨G7, t, none⟩) (show G7 < _ by omega)).trans x2, hb⟩
          have R8 : Hid (∀ w', Below wr.heap.size wr w' → Calls Tryd.prog 8 #[.agg #[.slice (some ⟨g, o, none⟩) L.length cap]] w' fun e w'' => (∃ p' cap', e = .returned (.agg #[.slice p' L.length cap']) ∧ L.length ≤ cap' ∧ Hid (Reads w'' p' L.length L)) ∧ Below w'.heap.size w' w'') := fun w' hb => H8.out w' (b7.trans (hb.mono zr1))
          have R12 : Hid (∀ (w' : World) (p' : Option Addr) (cap' : Nat), Below wr.heap.size wr w' → Reads w' p' L.length L → Calls Tryd.prog 12 #[.agg #[.slice p' L.length cap'], .int .i64 (y : Int)] w' fun e w'' => e = .returned (.int .i64 (x : Int)) ∧ Below w'.heap.size w' w'') := fun w' p' cap' hb hr => by
            have := H12.out w' p' cap' y (b7.trans (hb.mono zr1)) hr hyl
            rwa [hpar] at this
          have a1 : (0 : Int) < (t : Int) + 1 := by omega
          have a2 : (r : Int) + 1 - 20 < (t : Int) + 1 := by omega
          have a3 : IntKind.i64.wrap ((t : Int) + 1 - 1) = (t : Int) := by rw [IntKind.wrap_i64]; omega
          have a4 : IntKind.i64.wrap ((r : Int) + 1 - 20) = (r : Int) + 1 - 20 := by rw [IntKind.wrap_i64]; omega
          have a5 : (t : Int) + 1 < (r : Int) + 1 := by omega
          have a6 : (t : Int) < (r : Int) + 1 := by omega
          have a7 : (0 : Int) ≤ (t : Int) := by omega
          have a8 : (0 : Int) ≤ (t : Int) + 1 := by omega
          have a9 : (t : Int) ≤ (r : Int) := by omega
          have a10 : t ≤ r := by omega
          have a11 : (t : Int) < ((r + 1 : Nat) : Int) := by omega
          have a12 : IntKind.i64.wrap (((t + 1 : Nat) : Int) - 1) = (t : Int) := by rw [IntKind.wrap_i64]; omega
          have a13 : IntKind.i64.wrap (t : Int) = (t : Int) := by rw [IntKind.wrap_i64]; omega
          have hcd : Below wr.heap.size wr wr.drew := (Below.refl _ wr).drew
          clear hy hx y1 x1 hpar b7 hrow7 H8 H12 hg2 hway r0 r1
          go_upto_region 17 with fail
          go_region_held3 (fun w' => w'.cell? ⟨w.heap.size, 0, none⟩ = some (.slice (some ⟨g, o, none⟩) L.length cap) ∧ w'.cell? ⟨G7, t + 1, none⟩ = some (.int .i64 (y : Int)) ∧ w'.cell? ⟨G7, t, none⟩ = some (.int .i64 (x : Int)) ∧ Below wr.heap.size wr w') (exact SV.out _ (by assumption))
            (first
            | (go_at_call 8; refine (R8.out _ hcd).mono ?_; rintro e w8 ⟨⟨p8, cap8, rfl, hc8, rt8⟩, hb8⟩; replace hcd := hcd.trans (hb8.mono hcd.size))
            | (go_at_call 12; refine (R12.out _ _ _ hcd ?_).mono ?_; (first | exact Hid.out (by assumption) | exact Reads.next (Hid.out (by assumption)) (by assumption)); rintro e w9 ⟨rfl, hb9⟩; replace hcd := hcd.trans (hb9.mono hcd.size)))
          go_wp2
          exact ⟨⟨t, by omega, by go_num, hB7.out.trans (hcd.mono zr7)⟩, by simp [intOf]⟩
        · have hdone : (i = 0) ∨ (0 < (i : Int) ∧ ¬ ((r : Int) + 1 - 20 < (i : Int))) := by omega
          have a4 : IntKind.i64.wrap ((r : Int) + 1 - 20) = (r : Int) + 1 - 20 := by rw [IntKind.wrap_i64]; omega
          clear hgo
          have K16 := Hid.out H16 m HM.out
          have K24 := Hid.out H24 m HM.out
          have K7 := Hid.out H7 m HM.out
          have N16 : Hid _ := K16
          have N24 : Hid _ := K24
          have N7 : Hid _ := K7
          have dk := ((HL1.out.next b7).kind hkl)
          have hcd : Below w1.heap.size w1 wr := b7
          clear K16 K24 K7 H16 H24 H7 H12 hrow7 r0 r1 hway b7
          rcases hdone with rfl | ⟨h1, h2⟩
          all_goals go_upto_region 19 with fail
          all_goals go_upto_region 20 with (first
            | (go_at_call 8; refine (H8.out _ hcd).mono ?_; rintro e w8 ⟨⟨p8, cap8, rfl, hc8, rt8⟩, hb8⟩; replace hcd := hcd.trans (hb8.mono hcd.size))
            | (go_at_call 16; refine (N16.out _ _ _ hcd ?_ hc8).mono ?_; exact Hid.out (by assumption); rintro e w9 ⟨⟨B9, cap9, rfl, hl9⟩, hb9⟩; replace hcd := hcd.trans (hb9.mono hcd.size))
            | go_in)
          all_goals (
            obtain ⟨w10, hw10⟩ : ∃ w10, w9.alloc (.cells #[.slice (some ⟨B9, 0, none⟩) m cap9] 24) = w10 := ⟨_, rfl⟩
            have b10 : Below w9.heap.size w9 w10 := by rw [← hw10]; exact (Below.refl _ w9).alloc (Nat.le_refl _) _
            have z10 : w9.heap.size < w10.heap.size := by rw [← hw10]; simp
            have e10 : w10.cell? ⟨w9.heap.size, 0, none⟩ = some (.slice (some ⟨B9, 0, none⟩) m cap9) := by rw [← hw10]; exact cell_new _ _ _ _ _ rfl
            have hc10 : Below w1.heap.size w1 w10 := hcd.trans (b10.mono hcd.size)
            have z110 := hc10.size
            have HL10 : Hid (Lay w10 B9 0 (subL L k m)) := hl9.out.next b10
            have dS10 := (hc10.cell (p := ⟨w.heap.size, 0, none⟩) (show w.heap.size < _ by omega)).trans c1
            have SV : Hid (∀ w' : World, Below w10.heap.size w10 w' → w'.cell? ⟨w.heap.size, 0, none⟩ = some (.slice (some ⟨g, o, none⟩) L.length cap) ∧ w'.cell? ⟨w9.heap.size, 0, none⟩ = some (.slice (some ⟨B9, 0, none⟩) m cap9) ∧ Below w10.heap.size w10 w') := fun w' hb => ⟨(hb.cell (p := ⟨w.heap.size, 0, none⟩) (show w.heap.size < _ by omega)).trans dS10, (hb.cell (p := ⟨w9.heap.size, 0, none⟩) z10).trans e10, hb⟩
            have R24 : Hid (∀ w', Below w10.heap.size w10 w' → Calls Tryd.prog 24 #[.slice (some ⟨B9, 0, none⟩) m cap9, .slice (if cap = k then some ⟨g, o, none⟩ else some ⟨g, o + k * 9, none⟩) (((k : Int) + (m : Int)).toNat - k) (cap - k)] w' fun e w'' => e = .returned (.bool true) ∧ Below w'.heap.size w' w'') := fun w' hb => N24.out w' B9 cap9 (hc10.trans (hb.mono z110)) (HL10.out.next hb)
            have R7 : Hid (∀ w', Below w10.heap.size w10 w' → Calls Tryd.prog 7 #[.agg #[.slice (some ⟨B9, 0, none⟩) m cap9]] w' fun e w'' => e = .returned (.int .i64 (if treeS nameS typeS (subL L k m) then 0 else 30)) ∧ Below w'.heap.size w' w'') := fun w' hb => N7.out w' B9 cap9 (hc10.trans (hb.mono z110)) (HL10.out.next hb)
            have HC10 : Hid (Below w1.heap.size w1 w10) := hc10
            have dk10 := (HL1.out.next hc10).kind hkl
            have DK : Hid (∀ w', Below w10.heap.size w10 w' → w'.cell? ⟨g, o + k * 9, none⟩ = some (.int .i64 (nd L k).kind)) := fun w' hb => (hb.cell (p := ⟨g, o + k * 9, none⟩) (HL1.out.next hc10).lt).trans dk10
            have x1 : IntKind.i64.wrap ((k : Int) + (m : Int) - (k : Int)) = (m : Int) := by rw [IntKind.wrap_i64]; omega
            have x2 : (0 : Int) ≤ (k : Int) := by omega
            have x3 : (k : Int) ≤ (k : Int) + (m : Int) := by omega
            have x4 : (k : Int) + (m : Int) ≤ (cap : Int) := by omega
            have x5 : (k : Int) < (L.length : Int) := by omega
            rw [hw10]
            clear hw10 hl9 b10 hc10 rt8 hb8 hb9 hcd dS dS10 e10 dk dk10 N16 N24 N7
            have hcd : Below w10.heap.size w10 w10.drew := (Below.refl _ w10).drew
            go_region_held3 (fun w' => w'.cell? ⟨w.heap.size, 0, none⟩ = some (.slice (some ⟨g, o, none⟩) L.length cap) ∧ w'.cell? ⟨w9.heap.size, 0, none⟩ = some (.slice (some ⟨B9, 0, none⟩) m cap9) ∧ Below w10.heap.size w10 w') (exact SV.out _ (by assumption))
              (first
              | (go_at_call 24; refine (R24.out _ hcd).mono ?_; rintro e w11 ⟨rfl, hb11⟩; replace hcd := hcd.trans (hb11.mono hcd.size)))
            obtain ⟨y1, y2, _⟩ := SV.out w11 hcd
            have y3 := DK.out w11 hcd
            have hV := HV.out m HM.out
            have hx : treeS nameS typeS (subL L k m) = true ∨ (treeS nameS typeS (subL L k m) = false ∧ (0 : Int) < (k : Int) ∧ ((nd L k).kind < 20 ∨ (¬ (nd L k).kind < 20 ∧ 30 < (nd L k).kind))) := by
              cases hv : treeS nameS typeS (subL L k m) with
              | true => exact .inl rfl
              | false =>
                rw [hv] at hV
                obtain ⟨k0, k1⟩ := hV.resolve_left (by simp)
                unfold isExpr at k1
                simp only [Bool.and_eq_false_iff, decide_eq_false_iff_not] at k1
                exact .inr ⟨rfl, by omega, by omega⟩
            have HX : Hid _ := hx
            have HFIN : Hid (∀ w', Below w10.heap.size w10 w' → Below w.heap.size w w') := fun w' hb => (B1.out.trans (HC10.out.mono (by omega))).trans (hb.mono (by omega))
            clear DK hx hV HV
            generalize (nd L k).kind = kd at y3 HX
            go_upto_region 23 with fail
            have R7' := R7.out w11 hcd
            have hx := HX.out
            have z11 := hcd.size
            clear R24 SV y1 y3 R7 HX
            rcases hx with hv | ⟨hv, k0, k1 | ⟨k1, k2⟩⟩
            all_goals simp only [hv, eq_self, if_true, Bool.false_eq_true, if_false] at R7'
            all_goals go_wp2_with (first
              | (go_at_call 7; refine R7'.mono ?_; rintro e w12 ⟨rfl, hb12⟩)
              | go_in)
            all_goals go_ret
            all_goals refine ⟨?_, HFIN.out _ (hcd.trans (hb12.mono z11))⟩
            all_goals first
              | rfl
              | (simp; done)
              | (simp [*]; done)
              | (simp; omega))

end Go.Proofs.YtekgnogjfggnmaaDoor
