import Derived.Test.YtdcaonfnhdjibaaDoorVPh
import Derived.Deep.RegionHeld3
namespace Go.Proofs.YtdcaonfnhdjibaaDoor
open Go.RowKit

/-! The law's fits. -/
theorem does_nz {c : Cd} {e : En} {x : In} {s : List Int} {k : Int} (h : doesR c e x s = .error k) : k ≠ 0 := by
  unfold doesR at h
  split at h
  · unfold tkS at h
    split at h
    · cases h; decide
    · unfold wtS outR at h
      dsimp only at h
      split at h
      · split at h
        · cases h; decide
        · cases h
      · cases h; decide
  · cases h; decide
theorem does_le {c : Cd} {e : En} {x : In} {s s' : List Int} (h : doesR c e x s = .ok s') : s'.length ≤ 400 := by
  unfold doesR at h
  split at h
  · unfold tkS at h
    split at h
    · cases h
    · unfold wtS outR at h
      dsimp only at h
      split at h
      · split at h
        · cases h
        · cases h; omega
      · cases h
  · cases h
theorem fit_iff {c : Cd} {f : Nat} {K : Kn} {p : Nat} {s s' : List Int} (h : K.getD p none = some s) (hd : doesR c (enAt c.ens f) (insAt c p) s = .ok s') : FitP c f K p ↔ ∀ g ∈ flS (insAt c p) p, ((enAt c.ens f).start ≤ g.1 ∧ g.1 < endS c f) ∧ K.getD g.1.toNat none = some s' := by
  constructor
  · intro hf
    obtain ⟨s2, h1, h2⟩ := hf s h
    rw [hd] at h1
    cases h1
    exact h2
  · intro hf t ht
    rw [h] at ht
    cases ht
    exact ⟨s', hd, hf⟩
theorem all_getD (L : List (Int × Int)) (Q : Int × Int → Prop) : (∀ g ∈ L, Q g) ↔ ∀ j, j < L.length → Q (L.getD j (0, 0)) := by
  constructor
  · intro h j hj
    rw [List.getD_eq_getElem?_getD, List.getElem?_eq_getElem hj]
    exact h _ (List.getElem_mem hj)
  · intro h g hg
    obtain ⟨j, hj, rfl⟩ := List.getElem_of_mem hg
    have := h j hj
    rw [List.getD_eq_getElem?_getD, List.getElem?_eq_getElem hj] at this
    exact this
theorem fl_row {w : World} {v : Value} {L : List (Int × Int)} (h : FlM w v L) : ∃ q, v = .slice q L.length L.length ∧ Row w w.heap.size q L.length (L.flatMap fc) := by
  rcases h with ⟨rfl, rfl⟩ | ⟨hne, g, rfl, hf⟩
  · exact ⟨none, rfl, fun h => absurd h (Nat.lt_irrefl _)⟩
  · exact ⟨_, rfl, fun _ => ⟨g, 0, rfl, hf.lt, Full.range (d := []) (by rw [List.append_nil]; exact hf)⟩⟩
section
variable {w : World} {B : Nat} {iq eq tq : Option Addr} {Es : List Em} {c : Cd} {K : Kn} {v : Value}
/-- What fits answers. -/
def FtP (w w' : World) (z : Ending) (P : Prop) : Prop := ∃ b : Bool, z = .returned (.bool b) ∧ (b = true ↔ P) ∧ Below w.heap.size w w'
set_option maxRecDepth 100000 in
set_option maxHeartbeats 16000000 in
theorem lfits_any (m : CodeM w B iq eq tq Es c) (hc : CodeOk c) (ia ea ta : Nat) (hB : B ≤ w.heap.size) (f : Nat) (hf : f < c.ens.length) (p : Nat) (hp1 : (enAt c.ens f).start ≤ (p : Int)) (hp2 : (p : Int) < endS c f) (hv : LlM w v K) (hK : K.length = c.ins.length) :
    Calls Tryd.prog 38 #[codeV iq eq tq ia ea ta c, .int .i64 (f : Int), .int .i64 (p : Int), v] w fun z w' => Hid (FtP w w' z (FitP c f K p)) := by
  obtain ⟨en, Hen⟩ : ∃ en, Hid (c.ens.length = en) := ⟨_, (rfl : c.ens.length = _)⟩
  obtain ⟨il, Hil⟩ : ∃ il, Hid (c.ins.length = il) := ⟨_, (rfl : c.ins.length = _)⟩
  have hpl : p < c.ins.length := by have := (piece_ok hc hf).2.2; omega
  obtain ⟨lq, lc, rfl, hlv⟩ := hv
  have HLl : Hid (LlM w (.slice lq K.length lc) K) := ⟨lq, lc, rfl, hlv⟩
  have HM : Hid (CodeM w B iq eq tq Es c ∧ CodeOk c ∧ B ≤ w.heap.size ∧ f < c.ens.length ∧ p < c.ins.length ∧ K.length = c.ins.length ∧ (enAt c.ens f).start ≤ (p : Int) ∧ (p : Int) < endS c f) := ⟨m, hc, hB, hf, hpl, hK, hp1, hp2⟩
  obtain ⟨X, hX⟩ : ∃ X, w.alloc (.cells #[.slice iq il ia, .slice eq en ea, .slice tq c.txs.length ta, .int .i64 c.main] 26) = X := ⟨_, rfl⟩
  have B1 : Below w.heap.size w X := by rw [← hX]; exact (Below.refl _ w).alloc (Nat.le_refl _) _
  have F1 : Full X w.heap.size 26 [.slice iq il ia, .slice eq en ea, .slice tq c.txs.length ta, .int .i64 c.main] := by rw [← hX]; exact Full.new w _ _
  have HX : Hid (Full X w.heap.size 26 [.slice iq il ia, .slice eq en ea, .slice tq c.txs.length ta, .int .i64 c.main] ∧ Below w.heap.size w X) := ⟨F1, B1⟩
  obtain ⟨q', cap', e', hl'⟩ := HLl.out.next B1
  cases e'
  obtain ⟨g, o, x, rfl, hg, y1, hx⟩ := hl' p (by rw [hK]; exact hpl)
  have a0 : (0 : Int) ≤ (p : Int) := by omega
  have a1 : (p : Int) < (il : Int) := by have := Hil.out; omega
  have hilI : (il : Int) ≤ 60000 := by have := hc.il; have := Hil.out; omega
  have HG : Hid (g < X.heap.size) := hg
  unfold codeV
  rw [hK, Hen.out, Hil.out]
  clear m hc hB hf hp1 hp2 hlv hl' B1 F1 hpl hK hg
  cases hKp : K.getD p none with
  | none =>
    rw [hKp] at hx
    have hx : x = .slice none 0 0 := hx
    subst hx
    have HP : Hid (FitP c f K p) := fun s hs => by rw [hKp] at hs; cases hs
    have nE := nilEqL
    clear hKp
    go_enter Tryd.func38, Tryd.ntmps38
    go_wp2
    go_ret
    exact ⟨true, rfl, ⟨fun _ => HP.out, fun _ => rfl⟩, HX.out.2⟩
  | some s =>
    rw [hKp] at hx
    obtain ⟨a, cap, rfl, hst, h64, hsl⟩ := hx
    have HS : Hid (K.getD p none = some s ∧ StQ X (some a) cap s ∧ (∀ y ∈ s, -9223372036854775808 ≤ y ∧ y ≤ 9223372036854775807) ∧ s.length * 8 ≤ 140737488351232) := ⟨hKp, hst, h64, hsl⟩
    obtain ⟨sl, Hsl⟩ : ∃ sl, Hid (s.length = sl) := ⟨_, (rfl : s.length = _)⟩
    rw [Hsl.out] at y1
    have nN := nilNeL a sl cap
    obtain ⟨gi, oi, hqi, hgi, hri⟩ := code_ins (HM.out.1.below HX.out.2 HM.out.2.2.1) p HM.out.2.2.2.2.1
    subst hqi
    obtain ⟨ge, oe, dq, dc, hqe, hge, hre, -⟩ := code_ent (HM.out.1.below HX.out.2 HM.out.2.2.1) f HM.out.2.2.2.1
    subst hqe
    obtain ⟨xi, Hxi⟩ : ∃ xi, Hid (insAt c p = xi) := ⟨_, (rfl : insAt c p = _)⟩
    rw [Hxi.out] at hri
    obtain ⟨k, A, Bb⟩ := xi
    obtain ⟨st, Hst⟩ : ∃ st, Hid ((enAt c.ens f).start = st) := ⟨_, (rfl : (enAt c.ens f).start = _)⟩
    obtain ⟨hi, Hhi⟩ : ∃ hi, Hid (endS c f = hi) := ⟨_, (rfl : endS c f = _)⟩
    have r1 := hre 1 _ rfl
    rw [Hst.out] at r1
    have HGI : Hid (gi < B ∧ X.rangeAt gi (oi + p * 3) (ic (k, A, Bb)) ∧ ge < B ∧ X.cell? ⟨ge, oe + f * 5 + 1, none⟩ = some (.int .i64 st) ∧ X.cell? ⟨g, o + p, none⟩ = some (.slice (some a) sl cap)) := ⟨hgi, hri, hge, r1, y1⟩
    clear hgi hri hge hre r1 hst h64 hsl hKp
    have SV : Hid (∀ w' : World, Below X.heap.size X w' → w'.cell? ⟨w.heap.size, 0, none⟩ = some (.slice (some ⟨gi, oi, none⟩) il ia) ∧ w'.cell? ⟨w.heap.size, 1, none⟩ = some (.slice (some ⟨ge, oe, none⟩) en ea) ∧ w'.cell? ⟨w.heap.size, 2, none⟩ = some (.slice tq c.txs.length ta) ∧ w'.cell? ⟨w.heap.size, 3, none⟩ = some (.int .i64 c.main) ∧ w'.cell? ⟨gi, oi + p * 3, none⟩ = some (.int .i64 k) ∧ w'.cell? ⟨gi, oi + p * 3 + 1, none⟩ = some (.int .i64 A) ∧ w'.cell? ⟨gi, oi + p * 3 + 2, none⟩ = some (.int .i64 Bb) ∧ w'.cell? ⟨g, o + p, none⟩ = some (.slice (some a) sl cap) ∧ Below X.heap.size X w') := fun w' hb => by
      have f1 := HX.out.1.next hb
      have hB2 := Nat.le_trans HM.out.2.2.1 HX.out.2.size
      have hr := range_same HGI.out.2.1 (hb.block gi (Nat.lt_of_lt_of_le HGI.out.1 hB2))
      exact ⟨(f1.cell 0 _ rfl).1, (f1.cell 1 _ rfl).1, (f1.cell 2 _ rfl).1, (f1.cell 3 _ rfl).1, hr 0 _ rfl, hr 1 _ rfl, hr 2 _ rfl, (hb.cell (p := ⟨g, o + p, none⟩) HG.out).trans HGI.out.2.2.2.2, hb⟩
    obtain ⟨x0, x1, x2, x3, q0, q1, q2, -, -⟩ := SV.out X (Below.refl _ _)
    obtain ⟨D, HD⟩ : ∃ D, Hid (doesR c (enAt c.ens f) (insAt c p) s = D) := ⟨_, (rfl : doesR c (enAt c.ens f) (insAt c p) s = _)⟩
    have cDd : Calls Tryd.prog 13 #[.agg #[.slice (some ⟨gi, oi, none⟩) il ia, .slice (some ⟨ge, oe, none⟩) en ea, .slice tq c.txs.length ta, .int .i64 c.main], .int .i64 (f : Int), .agg #[.int .i64 k, .int .i64 A, .int .i64 Bb], .slice (some a) sl cap] X.drew fun z w' => Hid (DoP X w' z D) := by
      have hd : Below X.heap.size X X.drew := (Below.refl _ _).drew
      have hB5 := below2 HX.out.2 hd
      have h1 := does_any (HM.out.1.below hB5 HM.out.2.2.1) HM.out.2.1 ia ea ta (Nat.le_trans HM.out.2.2.1 hB5.size) f HM.out.2.2.2.1 (insAt c p) (HM.out.2.1.is _ (ins_mem HM.out.2.2.2.2.1)) (HS.out.2.1.next hd) HS.out.2.2.1 HS.out.2.2.2
      rw [HD.out, Hsl.out] at h1
      unfold codeV at h1
      rw [Hen.out, Hil.out, Hxi.out] at h1
      refine h1.mono fun z w' h => ?_
      have h' := h.out
      cases D with
      | error k => exact ⟨h'.1, hd.trans (h'.2.mono hd.size)⟩
      | ok s' =>
        obtain ⟨g, cap, e, ow, b⟩ := h'
        exact ⟨g, cap, e, ow, hd.trans (b.mono hd.size)⟩
    cases D with
    | error er =>
      have HPn : Hid (¬ FitP c f K p) := fun h => by
        obtain ⟨s', h1, -⟩ := h s HS.out.1
        rw [HD.out] at h1
        cases h1
      have her : er ≠ 0 := does_nz HD.out
      have hk : (er == 0) = false := by rw [beq_eq_false_iff_ne]; exact her
      have hk2 : (er != 0) = true := by rw [bne, hk]; rfl
      clear her
      go_enter Tryd.func38, Tryd.ntmps38
      go_upto_region 3 with fail
      go_region_held3 (fun w' => w'.cell? ⟨w.heap.size, 0, none⟩ = some (.slice (some ⟨gi, oi, none⟩) il ia) ∧ w'.cell? ⟨w.heap.size, 1, none⟩ = some (.slice (some ⟨ge, oe, none⟩) en ea) ∧ w'.cell? ⟨w.heap.size, 2, none⟩ = some (.slice tq c.txs.length ta) ∧ w'.cell? ⟨w.heap.size, 3, none⟩ = some (.int .i64 c.main) ∧ w'.cell? ⟨gi, oi + p * 3, none⟩ = some (.int .i64 k) ∧ w'.cell? ⟨gi, oi + p * 3 + 1, none⟩ = some (.int .i64 A) ∧ w'.cell? ⟨gi, oi + p * 3 + 2, none⟩ = some (.int .i64 Bb) ∧ w'.cell? ⟨g, o + p, none⟩ = some (.slice (some a) sl cap) ∧ Below X.heap.size X w') (exact SV.out _ (by first | with_reducible assumption | exact (Below.refl _ X).drew))
        (first
        | (go_at_call 13; (with_reducible refine cDd.mono ?_); rintro e W5 hb5; obtain ⟨e5, hcd5⟩ := hb5.out; subst e5)
        | fail)
      have H5 : Hid (Below w.heap.size w W5) := below2 HX.out.2 hcd5
      clear SV
      go_wp2
      go_ret
      exact ⟨false, rfl, ⟨fun h => (by cases h), fun h => absurd h HPn.out⟩, H5.out⟩
    | ok s' =>
      go_enter Tryd.func38, Tryd.ntmps38
      go_upto_region 3 with fail
      go_region_held3 (fun w' => w'.cell? ⟨w.heap.size, 0, none⟩ = some (.slice (some ⟨gi, oi, none⟩) il ia) ∧ w'.cell? ⟨w.heap.size, 1, none⟩ = some (.slice (some ⟨ge, oe, none⟩) en ea) ∧ w'.cell? ⟨w.heap.size, 2, none⟩ = some (.slice tq c.txs.length ta) ∧ w'.cell? ⟨w.heap.size, 3, none⟩ = some (.int .i64 c.main) ∧ w'.cell? ⟨gi, oi + p * 3, none⟩ = some (.int .i64 k) ∧ w'.cell? ⟨gi, oi + p * 3 + 1, none⟩ = some (.int .i64 A) ∧ w'.cell? ⟨gi, oi + p * 3 + 2, none⟩ = some (.int .i64 Bb) ∧ w'.cell? ⟨g, o + p, none⟩ = some (.slice (some a) sl cap) ∧ Below X.heap.size X w') (exact SV.out _ (by first | with_reducible assumption | exact (Below.refl _ X).drew))
        (first
        | (go_at_call 13; (with_reducible refine cDd.mono ?_); rintro e W5 hb5; obtain ⟨ga, ca, e5, ow5, hcd5⟩ := hb5.out; subst e5; have H5 : Hid (W5.ownsRow X.heap.size 45 1 (.slice (some ⟨ga, 0, none⟩) s'.length ca) s'.length (sv s')) := ow5; clear ow5)
        | fail)
      obtain ⟨z0, z1, z2, z3, p0', p1', p2', -, -⟩ := SV.out W5 hcd5
      have cL := rfollowers_any W5 (k, A, Bb) p (by omega)
      simp only at cL
      have HB5 : Hid (Below X.heap.size X W5) := hcd5
      clear hb5 hcd5 cDd x0 x1 x2 x3 q0 q1 q2 SV
      go_wp2_with fail
      refine cL.mono ?_
      rintro z W6 h6
      obtain ⟨fv, rfl, hfm, b6⟩ := h6.out
      obtain ⟨L, HL⟩ : ∃ L, Hid (flS (k, A, Bb) p = L) := ⟨_, (rfl : flS (k, A, Bb) p = _)⟩
      rw [HL.out] at hfm
      have hll : L.length ≤ 60000 := by rw [← HL.out]; exact fl_len _ _
      obtain ⟨fq, rfl, hfr⟩ := fl_row hfm
      have H6 : Hid (W6.ownsRow X.heap.size 45 1 (.slice (some ⟨ga, 0, none⟩) s'.length ca) s'.length (sv s') ∧ Below X.heap.size X W6 ∧ Row W6 W6.heap.size fq L.length (L.flatMap fc) ∧ s'.length ≤ 400) := ⟨own_next H5.out b6, below2 HB5.out b6, hfr, does_le HD.out⟩
      clear cL h6 b6 hfm hfr z0 z1 z2 z3 p0' p1' p2' H5 HB5
      obtain ⟨ll, Hll⟩ : ∃ ll, Hid (L.length = ll) := ⟨_, (rfl : L.length = _)⟩
      obtain ⟨s2, Hs2⟩ : ∃ s2, Hid (s'.length = s2) := ⟨_, (rfl : s'.length = _)⟩
      have hllI : (ll : Int) ≤ 60000 := by have := Hll.out; omega
      rw [Hll.out, Hs2.out]
      have HIff : Hid (FitP c f K p ↔ ∀ j, j < ll → ((st ≤ (L.getD j (0, 0)).1 ∧ (L.getD j (0, 0)).1 < hi) ∧ K.getD (L.getD j (0, 0)).1.toNat none = some s')) := by
        show FitP c f K p ↔ _
        rw [fit_iff HS.out.1 HD.out, Hxi.out, HL.out, Hst.out, Hhi.out, ← Hll.out]
        exact all_getD L _
      clear hll
      go_wp2_with fail
      go_loopw [45] (fun jv wr => ∃ j : Nat, j ≤ ll ∧ jv = .int .i64 (j : Int) ∧ Hid (Below W6.heap.size W6 wr ∧ ∀ j', j' < j → ((st ≤ (L.getD j' (0, 0)).1 ∧ (L.getD j' (0, 0)).1 < hi) ∧ K.getD (L.getD j' (0, 0)).1.toNat none = some s'))) (fun jv _ => ll - (intOf jv).toNat)
      case atStart => exact ⟨0, Nat.zero_le _, rfl, Below.refl _ _, fun j' h => absurd h (Nat.not_lt_zero _)⟩
      case round =>
        obtain ⟨j, hj, rfl, HI⟩ := hrel
        by_cases hlt : j < ll
        · have c1 : (j : Int) < (ll : Int) := by omega
          have j0 : (0 : Int) ≤ (j : Int) := by omega
          have HBr : Hid (Below X.heap.size X wr ∧ Below w.heap.size w wr) := ⟨below2 H6.out.2.1 HI.out.1, below2 HX.out.2 (below2 H6.out.2.1 HI.out.1)⟩
          obtain ⟨gf, of, rfl, hgf, hrf⟩ := (H6.out.2.2.1.below HI.out.1 (Nat.le_refl _)) (by rw [Hll.out]; omega)
          obtain ⟨dst, Hto⟩ : ∃ dst, Hid ((L.getD j (0, 0)).1 = dst) := ⟨_, (rfl : (L.getD j (0, 0)).1 = _)⟩
          have hjL : j < L.length := by rw [Hll.out]; exact hlt
          have t0 : wr.cell? ⟨gf, of + j * 2, none⟩ = some (.int .i64 dst) := by
            have e1 := flat_at fc 2 (fun _ => rfl) L j 0 hjL (by decide)
            rw [Nat.add_zero] at e1
            refine (hrf (j * 2) (.int .i64 dst) ?_)
            rw [e1, ← Hto.out, List.getD_eq_getElem?_getD, List.getElem?_eq_getElem hjL]
            rfl
          have FX := HX.out.1.next HBr.out.1
          have z0 := (FX.cell 0 _ rfl).1
          have z1 := (FX.cell 1 _ rfl).1
          have z2 := (FX.cell 2 _ rfl).1
          have z3 := (FX.cell 3 _ rfl).1
          have r1 := (HBr.out.1.cell (p := ⟨ge, oe + f * 5 + 1, none⟩) (Nat.lt_of_lt_of_le HGI.out.2.2.1 (Nat.le_trans HM.out.2.2.1 HX.out.2.size))).trans HGI.out.2.2.2.1
          have f0 : (0 : Int) ≤ (f : Int) := by omega
          have f1 : (f : Int) < (en : Int) := by have := HM.out.2.2.2.1; have := Hen.out; omega
          have HBad : Hid (¬ ((st ≤ dst ∧ dst < hi) ∧ K.getD dst.toNat none = some s') → ¬ FitP c f K p) := fun hn hp => hn (by have := HIff.out.1 hp j hlt; rw [Hto.out] at this; exact this)
          clear hgf hrf FX hjL
          by_cases hlo : dst < st
          · have HPn : Hid (¬ FitP c f K p) := HBad.out (fun h => by omega)
            go_wp2
            go_ret
            exact ⟨false, rfl, ⟨fun h => (by cases h), fun h => absurd h HPn.out⟩, HBr.out.2⟩
          · have cE := last_any (HM.out.1.below HBr.out.2 HM.out.2.2.1) HM.out.2.1 ia ea ta (Nat.le_trans HM.out.2.2.1 HBr.out.2.size) f HM.out.2.2.2.1
            rw [Hhi.out] at cE
            unfold codeV at cE
            rw [Hen.out, Hil.out] at cE
            go_wp2_with fail
            refine cE.mono ?_
            rintro z W7 ⟨rfl, b7⟩
            have HB7 : Hid (Below W6.heap.size W6 W7 ∧ Below X.heap.size X W7 ∧ Below w.heap.size w W7) := ⟨below2 HI.out.1 b7, below2 HBr.out.1 b7, below2 HBr.out.2 b7⟩
            clear cE b7 z0 z1 z2 z3 r1 t0
            by_cases hhi : hi ≤ dst
            · have HPn : Hid (¬ FitP c f K p) := HBad.out (fun h => by omega)
              go_wp2
              go_ret
              exact ⟨false, rfl, ⟨fun h => (by cases h), fun h => absurd h HPn.out⟩, HB7.out.2.2⟩
            · obtain ⟨pk1, pk2, pk3⟩ := piece_ok HM.out.2.1 HM.out.2.2.2.1
              rw [Hst.out] at pk1
              rw [Hhi.out, Hil.out] at pk3
              obtain ⟨tn, rfl⟩ : ∃ tn : Nat, dst = (tn : Int) := ⟨dst.toNat, by omega⟩
              have htn : tn < K.length := by rw [HM.out.2.2.2.2.2.1, Hil.out]; omega
              obtain ⟨q', cap', e', hl'⟩ := HLl.out.next HB7.out.2.2
              cases e'
              obtain ⟨g9, o9, x9, e9, hg9, y9, hx9⟩ := hl' tn htn
              cases e9
              have b0 : (0 : Int) ≤ (tn : Int) := by omega
              have b1 : (tn : Int) < (il : Int) := by omega
              clear pk1 pk2 pk3 hl' hg9 htn
              cases hKt : K.getD tn none with
              | none =>
                rw [hKt] at hx9
                have hx9 : x9 = .slice none 0 0 := hx9
                subst hx9
                have nE := nilEqL
                have HPn : Hid (¬ FitP c f K p) := HBad.out (fun h => by have := h.2; rw [Int.toNat_natCast, hKt] at this; cases this)
                clear hKt
                go_wp2
                go_ret
                exact ⟨false, rfl, ⟨fun h => (by cases h), fun h => absurd h HPn.out⟩, HB7.out.2.2⟩
              | some s9 =>
                rw [hKt] at hx9
                obtain ⟨a9, cap9, rfl, hst9, -, hsl9⟩ := hx9
                have nN9 := nilNeL a9 s9.length cap9
                have o7 := own_next H6.out.1 HB7.out.1
                have cS := same_any (w := W7) (c1 := cap9) (c2 := ca) (st_row hst9 rfl) (row_of_own o7) (by omega)
                have HKt : Hid (K.getD tn none = some s9) := hKt
                obtain ⟨l9, Hl9⟩ : ∃ l9, Hid (s9.length = l9) := ⟨_, (rfl : s9.length = _)⟩
                rw [Hl9.out] at y9 nN9 cS
                rw [Hs2.out] at cS
                obtain ⟨E, HE⟩ : ∃ E, Hid (decide (s9 = s') = E) := ⟨_, (rfl : decide (s9 = s') = _)⟩
                rw [HE.out] at cS
                clear hKt hst9 hsl9 o7
                go_wp2_with fail
                refine cS.mono ?_
                rintro z W8 ⟨rfl, b8⟩
                have HB8 : Hid (Below W6.heap.size W6 W8 ∧ Below w.heap.size w W8) := ⟨below2 HB7.out.1 b8, below2 HB7.out.2.2 b8⟩
                clear cS b8
                cases E with
                | false =>
                  have HPn : Hid (¬ FitP c f K p) := HBad.out (fun h => by
                    have := h.2
                    rw [Int.toNat_natCast, HKt.out, Option.some.injEq] at this
                    exact (of_decide_eq_false HE.out) this)
                  go_wp2
                  go_ret
                  exact ⟨false, rfl, ⟨fun h => (by cases h), fun h => absurd h HPn.out⟩, HB8.out.2⟩
                | true =>
                  have HN : Hid (Below W6.heap.size W6 W8 ∧ ∀ j', j' < j + 1 → ((st ≤ (L.getD j' (0, 0)).1 ∧ (L.getD j' (0, 0)).1 < hi) ∧ K.getD (L.getD j' (0, 0)).1.toNat none = some s')) := ⟨HB8.out.1, fun j' h => by
                    rcases Nat.lt_succ_iff_lt_or_eq.1 h with h | rfl
                    · exact HI.out.2 j' h
                    · rw [Hto.out, Int.toNat_natCast, HKt.out, of_decide_eq_true HE.out]
                      exact ⟨⟨by omega, by omega⟩, rfl⟩⟩
                  go_wp2
                  exact ⟨⟨j + 1, by omega, by go_num, HN⟩, by simp [intOf]; omega⟩
        · obtain rfl : j = ll := by omega
          have c1 : ¬ ((j : Int) < (j : Int)) := by omega
          have HP : Hid (FitP c f K p) := HIff.out.2 HI.out.2
          have HBr : Hid (Below w.heap.size w wr) := below2 HX.out.2 (below2 H6.out.2.1 HI.out.1)
          go_wp2
          go_ret
          exact ⟨true, rfl, ⟨fun _ => HP.out, fun _ => rfl⟩, HBr.out⟩
end
end Go.Proofs.YtdcaonfnhdjibaaDoor
