import Derived.Test.YtaeigpfcfodmdaaEVa
import Derived.Test.YtaeigpfcfodmdaaShA
import Derived.Deep.RegionHeld3
import Derived.Deep.CutBlock
import Derived.Deep.DeepCutAuto
namespace Go.Proofs.Ytaeigpfcfodmdaa
open Go.RowKit

abbrev Hk := Int × Int × ByteArray
def hc (x : Hk) : List Value := [.int .i64 x.1, .int .i64 x.2.1, .string x.2.2]
/-- What Read tells. -/
def evV (x : Hk) (k n : Int) (s : ByteArray) : Value := .tuple #[.agg #[.int .i64 x.1, .int .i64 x.2.1, .string x.2.2, .int .i64 k, .int .i64 n, .string s], .int .i64 0]
def noV : Value := .tuple #[.agg #[.int .i64 0, .int .i64 0, .string e0, .int .i64 0, .int .i64 0, .string e0], .int .i64 170]
def rowS (L : List Hk) (hk : Int) : Option Hk := if 1 ≤ hk ∧ hk ≤ (L.length : Int) then some (L.getD (hk - 1).toNat (0, 0, e0)) else none
def rdS (L : List Hk) (hk : Int) (has : Bool) (k n : Int) (s : ByteArray) : Value := match rowS L hk with | none => noV | some x => if fitS x.1 has && mcS has k n s then evV x k n s else noV
set_option maxHeartbeats 400000 in
theorem clone_any (s : ByteArray) (w : World) (hs : s.size ≤ 281474976710656) : Calls Try.prog 8 #[.string s] w fun e w' => e = .returned (.string s) ∧ Below w.heap.size w w' := by
  go_enter Try.func8, Try.ntmps8
  go_wp2_with (go_at_call 10; refine (Try.stringslite_Clone s w hs).mono ?_; rintro e w1 ⟨rfl, hb1⟩)
  go_ret
  exact ⟨rfl, hb1⟩
/-- A row of hooks at a place. -/
theorem hk_at {w : World} {B : Nat} {q : Option Addr} {L : List Hk} (h : Row w B q L.length (L.flatMap hc)) (j : Nat) (hj : j < L.length) : ∃ g o, q = some ⟨g, o, none⟩ ∧ g < B ∧ w.rangeAt g (o + j * 3) (hc (L.getD j (0, 0, e0))) := by
  obtain ⟨g, o, hq, hg, hr⟩ := h (Nat.lt_of_le_of_lt (Nat.zero_le _) hj)
  refine ⟨g, o, hq, hg, fun t v hv => ?_⟩
  have ht : t < 3 := (List.getElem?_eq_some_iff.1 hv).1
  have e1 := flat_at hc 3 (fun _ => rfl) L j t hj ht
  have e2 : L.getD j (0, 0, e0) = L[j] := by rw [List.getD_eq_getElem?_getD, List.getElem?_eq_getElem hj]; rfl
  rw [e2] at hv
  have := hr (j * 3 + t) v (e1.trans hv)
  rw [← Nat.add_assoc] at this
  exact this
/-- The boxes of a yield and of what is told. -/
structure Yb (w X : World) (hk : Int) (has : Bool) (k n : Int) (s : ByteArray) (vs : List Value) : Prop where
  b : Below w.heap.size w X
  y : Full X w.heap.size 38 [.int .i64 hk, .bool has, .int .i64 k, .int .i64 n, .string s]
  z : Full X (w.heap.size + 1) 33 vs
theorem yb_new (w : World) (hk : Int) (has : Bool) (k n : Int) (s : ByteArray) : Yb w ((w.alloc (.cells #[.int .i64 hk, .bool has, .int .i64 k, .int .i64 n, .string s] 38)).alloc (.cells #[.int .i64 0, .int .i64 0, .string e0, .int .i64 0, .int .i64 0, .string e0] 33)) hk has k n s [.int .i64 0, .int .i64 0, .string e0, .int .i64 0, .int .i64 0, .string e0] := by
  have b0 : Below w.heap.size w (w.alloc (.cells #[.int .i64 hk, .bool has, .int .i64 k, .int .i64 n, .string s] 38)) := (Below.refl _ w).alloc (Nat.le_refl _) _
  have b1 : Below (w.alloc (.cells #[.int .i64 hk, .bool has, .int .i64 k, .int .i64 n, .string s] 38)).heap.size (w.alloc (.cells #[.int .i64 hk, .bool has, .int .i64 k, .int .i64 n, .string s] 38)) ((w.alloc (.cells #[.int .i64 hk, .bool has, .int .i64 k, .int .i64 n, .string s] 38)).alloc (.cells #[.int .i64 0, .int .i64 0, .string e0, .int .i64 0, .int .i64 0, .string e0] 33)) := (Below.refl _ _).alloc (Nat.le_refl _) _
  refine ⟨below2 b0 b1, (Full.new w _ _).next b1, ?_⟩
  have := Full.new (w.alloc (.cells #[.int .i64 hk, .bool has, .int .i64 k, .int .i64 n, .string s] 38)) #[.int .i64 0, .int .i64 0, .string e0, .int .i64 0, .int .i64 0, .string e0] 33
  rw [World.size_alloc] at this
  exact this
theorem Yb.next {w X X' : World} {hk : Int} {has : Bool} {k n : Int} {s : ByteArray} {vs : List Value} (h : Yb w X hk has k n s vs) (b : Below X.heap.size X X') : Yb w X' hk has k n s vs := ⟨below2 h.b b, h.y.next b, h.z.next b⟩
/-- Six cells written. -/
theorem full_six {W : World} {g : Nat} {t : TypeId} {v0 v1 v2 v3 v4 v5 : Value} (f : Full W g t [v0, v1, v2, v3, v4, v5]) (u0 u1 u2 u3 u4 u5 : Value) : Full ((((((W.setCell ⟨g, 0, none⟩ u0).setCell ⟨g, 1, none⟩ u1).setCell ⟨g, 2, none⟩ u2).setCell ⟨g, 3, none⟩ u3).setCell ⟨g, 4, none⟩ u4).setCell ⟨g, 5, none⟩ u5) g t [u0, u1, u2, u3, u4, u5] := by
  have f0 := Full.put1 (a := []) (d := [v1, v2, v3, v4, v5]) f u0
  have f1 := Full.put1 (a := [u0]) (d := [v2, v3, v4, v5]) f0 u1
  have f2 := Full.put1 (a := [u0, u1]) (d := [v3, v4, v5]) f1 u2
  have f3 := Full.put1 (a := [u0, u1, u2]) (d := [v4, v5]) f2 u3
  have f4 := Full.put1 (a := [u0, u1, u2, u3]) (d := [v5]) f3 u4
  exact Full.put1 (a := [u0, u1, u2, u3, u4]) (d := []) f4 u5
theorem below_six {B : Nat} {w W : World} (h : Below B w W) {g : Nat} (hg : B ≤ g) (u0 u1 u2 u3 u4 u5 : Value) : Below B w ((((((W.setCell ⟨g, 0, none⟩ u0).setCell ⟨g, 1, none⟩ u1).setCell ⟨g, 2, none⟩ u2).setCell ⟨g, 3, none⟩ u3).setCell ⟨g, 4, none⟩ u4).setCell ⟨g, 5, none⟩ u5) :=
  (((((h.setCell (p := ⟨g, 0, none⟩) hg u0).setCell (p := ⟨g, 1, none⟩) hg u1).setCell (p := ⟨g, 2, none⟩) hg u2).setCell (p := ⟨g, 3, none⟩) hg u3).setCell (p := ⟨g, 4, none⟩) hg u4).setCell (p := ⟨g, 5, none⟩) hg u5
/-- What is told, stored. -/
theorem Yb.told {w X : World} {hk : Int} {has : Bool} {k n : Int} {s : ByteArray} {v0 v1 v2 v3 v4 v5 : Value} (h : Yb w X hk has k n s [v0, v1, v2, v3, v4, v5]) (u0 u1 u2 u3 u4 u5 : Value) : Full ((((((X.setCell ⟨w.heap.size + 1, 0, none⟩ u0).setCell ⟨w.heap.size + 1, 1, none⟩ u1).setCell ⟨w.heap.size + 1, 2, none⟩ u2).setCell ⟨w.heap.size + 1, 3, none⟩ u3).setCell ⟨w.heap.size + 1, 4, none⟩ u4).setCell ⟨w.heap.size + 1, 5, none⟩ u5) (w.heap.size + 1) 33 [u0, u1, u2, u3, u4, u5] ∧ Below w.heap.size w ((((((X.setCell ⟨w.heap.size + 1, 0, none⟩ u0).setCell ⟨w.heap.size + 1, 1, none⟩ u1).setCell ⟨w.heap.size + 1, 2, none⟩ u2).setCell ⟨w.heap.size + 1, 3, none⟩ u3).setCell ⟨w.heap.size + 1, 4, none⟩ u4).setCell ⟨w.heap.size + 1, 5, none⟩ u5) :=
  ⟨full_six h.z u0 u1 u2 u3 u4 u5, below_six h.b (Nat.le_succ _) u0 u1 u2 u3 u4 u5⟩
section
variable {w : World} {B : Nat} {q : Option Addr} {L : List Hk}
set_option maxRecDepth 100000 in
set_option maxHeartbeats 8000000 in
theorem read_any (h : Row w B q L.length (L.flatMap hc)) (hB : B ≤ w.heap.size) (hL : L.length ≤ 9223372036854775807) (hnm : ∀ x ∈ L, x.2.2.size ≤ 281474976710656) (cap : Nat) (hk : Int) (hk64 : -9223372036854775808 ≤ hk) (has : Bool) (k n : Int) (s : ByteArray) (hs : s.size ≤ 281474976710656) :
    Calls Try.prog 4 #[.slice q L.length cap, .agg #[.int .i64 hk, .bool has, .int .i64 k, .int .i64 n, .string s]] w fun z w' => z = .returned (rdS L hk has k n s) ∧ Below w.heap.size w w' := by
  obtain ⟨R, HR⟩ : ∃ R, Hid (rdS L hk has k n s = R) := ⟨_, (rfl : rdS L hk has k n s = _)⟩
  rw [HR.out]
  have hY := yb_new w hk has k n s
  obtain ⟨X, hX⟩ : ∃ X, (w.alloc (.cells #[.int .i64 hk, .bool has, .int .i64 k, .int .i64 n, .string s] 38)).alloc (.cells #[.int .i64 0, .int .i64 0, .string e0, .int .i64 0, .int .i64 0, .string e0] 33) = X := ⟨_, rfl⟩
  rw [hX] at hY
  have HY : Hid (Yb w X hk has k n s [.int .i64 0, .int .i64 0, .string e0, .int .i64 0, .int .i64 0, .string e0]) := hY
  have x0 := (hY.y.cell 0 _ rfl).1
  have z0 := hY.z.cell 0 _ rfl
  have z1 := hY.z.cell 1 _ rfl
  have z2 := hY.z.cell 2 _ rfl
  have z3 := hY.z.cell 3 _ rfl
  have z4 := hY.z.cell 4 _ rfl
  have z5 := hY.z.cell 5 _ rfl
  have hLI : (L.length : Int) ≤ 9223372036854775807 := by omega
  have HBAD : Hid (∀ X', Yb w X' hk has k n s [.int .i64 0, .int .i64 0, .string e0, .int .i64 0, .int .i64 0, .string e0] → Full ((((((X'.setCell ⟨w.heap.size + 1, 0, none⟩ (.int .i64 0)).setCell ⟨w.heap.size + 1, 1, none⟩ (.int .i64 0)).setCell ⟨w.heap.size + 1, 2, none⟩ (.string e0)).setCell ⟨w.heap.size + 1, 3, none⟩ (.int .i64 0)).setCell ⟨w.heap.size + 1, 4, none⟩ (.int .i64 0)).setCell ⟨w.heap.size + 1, 5, none⟩ (.string e0)) (w.heap.size + 1) 33 [.int .i64 0, .int .i64 0, .string e0, .int .i64 0, .int .i64 0, .string e0] ∧ Below w.heap.size w ((((((X'.setCell ⟨w.heap.size + 1, 0, none⟩ (.int .i64 0)).setCell ⟨w.heap.size + 1, 1, none⟩ (.int .i64 0)).setCell ⟨w.heap.size + 1, 2, none⟩ (.string e0)).setCell ⟨w.heap.size + 1, 3, none⟩ (.int .i64 0)).setCell ⟨w.heap.size + 1, 4, none⟩ (.int .i64 0)).setCell ⟨w.heap.size + 1, 5, none⟩ (.string e0))) := fun X' hy => hy.told _ _ _ _ _ _
  by_cases hb1 : hk < 1
  · have HE : Hid (noV = R) := by show _ = R; rw [← HR.out]; unfold rdS rowS; rw [if_neg (by omega)]
    obtain ⟨fz, bz⟩ := HBAD.out X HY.out
    have HZ : Hid (Below w.heap.size w _) := bz
    have p0 := (fz.cell 0 _ rfl).1
    have p1 := (fz.cell 1 _ rfl).1
    have p2 := (fz.cell 2 _ rfl).1
    have p3 := (fz.cell 3 _ rfl).1
    have p4 := (fz.cell 4 _ rfl).1
    have p5 := (fz.cell 5 _ rfl).1
    clear HR h hnm hY fz bz HBAD
    go_enter Try.func4, Try.ntmps4
    go_wp2
    exact bodyPost_ret (v := noV) (by simp [results, Try.results4, go_sem, p0, p1, p2, p3, p4, p5, noV]) rfl ⟨by rw [← HE.out], HZ.out⟩
  by_cases hb2 : (L.length : Int) < hk
  · have HE : Hid (noV = R) := by show _ = R; rw [← HR.out]; unfold rdS rowS; rw [if_neg (by omega)]
    obtain ⟨fz, bz⟩ := HBAD.out X HY.out
    have HZ : Hid (Below w.heap.size w _) := bz
    have p0 := (fz.cell 0 _ rfl).1
    have p1 := (fz.cell 1 _ rfl).1
    have p2 := (fz.cell 2 _ rfl).1
    have p3 := (fz.cell 3 _ rfl).1
    have p4 := (fz.cell 4 _ rfl).1
    have p5 := (fz.cell 5 _ rfl).1
    clear HR h hnm hY fz bz HBAD
    go_enter Try.func4, Try.ntmps4
    go_wp2
    exact bodyPost_ret (v := noV) (by simp [results, Try.results4, go_sem, p0, p1, p2, p3, p4, p5, noV]) rfl ⟨by rw [← HE.out], HZ.out⟩
  obtain ⟨j, hkj⟩ : ∃ j : Nat, hk = (j : Int) + 1 := ⟨(hk - 1).toNat, by omega⟩
  have hj : j < L.length := by omega
  obtain ⟨g, o, rfl, hg, hr⟩ := hk_at (h.below hY.b hB) j hj
  have hn0 : (L.getD j (0, 0, e0)).2.2.size ≤ 281474976710656 := hnm _ (by rw [List.getD_eq_getElem?_getD, List.getElem?_eq_getElem hj]; exact List.getElem_mem hj)
  have HR2 : Hid ((if fitS (L.getD j (0, 0, e0)).1 has && mcS has k n s then evV (L.getD j (0, 0, e0)) k n s else noV) = R) := by
    show _ = R
    rw [← HR.out]
    have e : rowS L hk = some (L.getD j (0, 0, e0)) := by unfold rowS; rw [if_pos ⟨by omega, by omega⟩, show (hk - 1).toNat = j by omega]
    unfold rdS
    rw [e]
  generalize L.getD j (0, 0, e0) = x at hr hn0 HR2
  obtain ⟨kd, nd, nm⟩ := x
  have r0 := hr 0 _ rfl
  have r1 := hr 1 _ rfl
  have r2 := hr 2 _ rfl
  rw [Nat.add_zero] at r0
  simp only at r0 r1 r2 hn0
  have hw : IntKind.i64.wrap (hk - 1) = (j : Int) := by rw [IntKind.wrap_i64]; omega
  have a0 : (0 : Int) ≤ (j : Int) := by omega
  have a1 : (j : Int) < (L.length : Int) := by omega
  have b1' : ¬ (hk < 1) := hb1
  have b2' : ¬ ((L.length : Int) < hk) := hb2
  obtain ⟨V, hV⟩ : ∃ V, X.alloc (.cells #[.int .i64 kd, .int .i64 nd, .string nm] 28) = V := ⟨_, rfl⟩
  have bV : Below X.heap.size X V := by rw [← hV]; exact (Below.refl _ X).alloc (Nat.le_refl _) _
  obtain ⟨b6, Hb6⟩ : ∃ b6, Hid (X.heap.size = b6) := ⟨_, (rfl : X.heap.size = _)⟩
  have fV : Full V b6 28 [.int .i64 kd, .int .i64 nd, .string nm] := by rw [← Hb6.out, ← hV]; exact Full.new X _ _
  have HV : Hid (Yb w V hk has k n s [.int .i64 0, .int .i64 0, .string e0, .int .i64 0, .int .i64 0, .string e0] ∧ Full V (b6) 28 [.int .i64 kd, .int .i64 nd, .string nm] ∧ Below X.heap.size X V) := ⟨HY.out.next bV, fV, bV⟩
  have k0 := (fV.cell 0 _ rfl).1
  have x1 := (HV.out.1.y.cell 1 _ rfl).1
  have cF : Calls Try.prog 6 #[.int .i64 kd, .bool has] V fun e w' => e = .returned (.bool (fitS kd has)) ∧ Below V.heap.size V w' := (fits_any kd has V).mono fun _ _ h => ⟨h.1, by rw [h.2]; exact Below.refl _ _⟩
  obtain ⟨F, HF⟩ : ∃ F, Hid (fitS kd has = F) := ⟨_, (rfl : fitS kd has = _)⟩
  rw [HF.out] at cF
  have HR3 : Hid ((if F && mcS has k n s then evV (kd, nd, nm) k n s else noV) = R) := by have := HR2.out; simp only at this; rw [HF.out] at this; exact this
  clear HR HR2 HF h hnm hr hY hg bV fV hb1 hb2 hj hkj z0 z1 z2 z3 z4 z5
  go_enter Try.func4, Try.ntmps4
  go_upto_region 4 with fail
  rw [Hb6.out]
  clear x0 r0 r1 r2 hV hX
  go_wp2_with fail
  refine cF.mono ?_
  rintro e W0 ⟨rfl, b0⟩
  have HV0 : Hid (Yb w W0 hk has k n s [.int .i64 0, .int .i64 0, .string e0, .int .i64 0, .int .i64 0, .string e0] ∧ Full W0 (b6) 28 [.int .i64 kd, .int .i64 nd, .string nm]) := ⟨HV.out.1.next b0, HV.out.2.1.next b0⟩
  clear cF k0 x1 b0 HV HY
  cases F with
  | false =>
    have HE : Hid (noV = R) := HR3.out
    go_upto_region 5 with fail
    have hz := HV0.out.1
    obtain ⟨fz, bz⟩ := HBAD.out W0 hz
    have HZ : Hid (Below w.heap.size w _) := bz
    have p0 := (fz.cell 0 _ rfl).1
    have p1 := (fz.cell 1 _ rfl).1
    have p2 := (fz.cell 2 _ rfl).1
    have p3 := (fz.cell 3 _ rfl).1
    have p4 := (fz.cell 4 _ rfl).1
    have p5 := (fz.cell 5 _ rfl).1
    have v0 := hz.z.cell 0 _ rfl
    have v1 := hz.z.cell 1 _ rfl
    have v2 := hz.z.cell 2 _ rfl
    have v3 := hz.z.cell 3 _ rfl
    have v4 := hz.z.cell 4 _ rfl
    have v5 := hz.z.cell 5 _ rfl
    clear hz fz bz HBAD
    go_wp2
    exact bodyPost_ret (v := noV) (by simp [results, Try.results4, go_sem, p0, p1, p2, p3, p4, p5, noV]) rfl ⟨by rw [← HE.out], HZ.out⟩
  | true =>
    have cM := mayCome_any hk has k n s W0 (by omega)
    obtain ⟨M, HM⟩ : ∃ M, Hid (mcS has k n s = M) := ⟨_, (rfl : mcS has k n s = _)⟩
    rw [HM.out] at cM
    have HR4 : Hid ((if M then evV (kd, nd, nm) k n s else noV) = R) := by have := HR3.out; rw [HM.out, Bool.true_and] at this; exact this
    have x0' := (HV0.out.1.y.cell 0 _ rfl).1
    have x1' := (HV0.out.1.y.cell 1 _ rfl).1
    have x2' := (HV0.out.1.y.cell 2 _ rfl).1
    have x3' := (HV0.out.1.y.cell 3 _ rfl).1
    have x4' := (HV0.out.1.y.cell 4 _ rfl).1
    clear HR3 HM
    go_wp2_with fail
    refine cM.mono ?_
    rintro e W1 ⟨rfl, bM⟩
    clear x0' x1' x2' x3' x4' cM
    cases M with
    | false =>
      have HE : Hid (noV = R) := HR4.out
      go_upto_region 5 with fail
      have hz := HV0.out.1.next bM
      obtain ⟨fz, bz⟩ := HBAD.out W1 hz
      have HZ : Hid (Below w.heap.size w _) := bz
      have p0 := (fz.cell 0 _ rfl).1
      have p1 := (fz.cell 1 _ rfl).1
      have p2 := (fz.cell 2 _ rfl).1
      have p3 := (fz.cell 3 _ rfl).1
      have p4 := (fz.cell 4 _ rfl).1
      have p5 := (fz.cell 5 _ rfl).1
      have v0 := hz.z.cell 0 _ rfl
      have v1 := hz.z.cell 1 _ rfl
      have v2 := hz.z.cell 2 _ rfl
      have v3 := hz.z.cell 3 _ rfl
      have v4 := hz.z.cell 4 _ rfl
      have v5 := hz.z.cell 5 _ rfl
      clear hz fz bz HBAD
      go_wp2
      exact bodyPost_ret (v := noV) (by simp [results, Try.results4, go_sem, p0, p1, p2, p3, p4, p5, noV]) rfl ⟨by rw [← HE.out], HZ.out⟩
    | true =>
      have HE : Hid (evV (kd, nd, nm) k n s = R) := HR4.out
      go_upto_region 6 with fail
      have HW : Hid (Yb w W1 hk has k n s [.int .i64 0, .int .i64 0, .string e0, .int .i64 0, .int .i64 0, .string e0] ∧ Full W1 (b6) 28 [.int .i64 kd, .int .i64 nd, .string nm]) := ⟨HV0.out.1.next bM, HV0.out.2.next bM⟩
      clear HBAD HV0 bM
      go_cut [7] (fun u wx => ∃ p : Nat, u = .pointer (some ⟨p, 0, none⟩) ∧ Hid (Full wx p 33 [.int .i64 kd, .int .i64 nd, .string nm, .int .i64 k, .int .i64 n, .string s] ∧ Below W1.heap.size W1 wx ∧ W1.heap.size ≤ p))
      case first =>
        have k0 := (HW.out.2.cell 0 _ rfl).1
        have k1 := (HW.out.2.cell 1 _ rfl).1
        have k2 := (HW.out.2.cell 2 _ rfl).1
        have y2 := (HW.out.1.y.cell 2 _ rfl).1
        have y3 := (HW.out.1.y.cell 3 _ rfl).1
        have y4 := (HW.out.1.y.cell 4 _ rfl).1
        have SV : Hid (∀ w' : World, Below W1.heap.size W1 w' → w'.cell? ⟨b6, 0, none⟩ = some (.int .i64 kd) ∧ w'.cell? ⟨b6, 1, none⟩ = some (.int .i64 nd) ∧ w'.cell? ⟨b6, 2, none⟩ = some (.string nm) ∧ w'.cell? ⟨w.heap.size, 2, none⟩ = some (.int .i64 k) ∧ w'.cell? ⟨w.heap.size, 3, none⟩ = some (.int .i64 n) ∧ w'.cell? ⟨w.heap.size, 4, none⟩ = some (.string s) ∧ Below W1.heap.size W1 w') := fun w' hb => ⟨((HW.out.2.next hb).cell 0 _ rfl).1, ((HW.out.2.next hb).cell 1 _ rfl).1, ((HW.out.2.next hb).cell 2 _ rfl).1, ((HW.out.1.y.next hb).cell 2 _ rfl).1, ((HW.out.1.y.next hb).cell 3 _ rfl).1, ((HW.out.1.y.next hb).cell 4 _ rfl).1, hb⟩
        have HC0 : Hid (Below W1.heap.size W1 W1.drew ∧ Below W1.heap.size W1 (W1.alloc (.cells #[.int .i64 0, .int .i64 0, .string e0, .int .i64 0, .int .i64 0, .string e0] 33)).drew) := ⟨(Below.refl _ _).drew, ((Below.refl _ W1).alloc (Nat.le_refl _) _).drew⟩
        have c0 : Calls Try.prog 8 #[.string nm] W1.drew fun z w'' => z = .returned (.string nm) ∧ Hid (Below W1.heap.size W1 w'') := (clone_any nm W1.drew hn0).mono fun _ _ h => ⟨h.1, HC0.out.1.trans (h.2.mono HC0.out.1.size)⟩
        have c1 : Calls Try.prog 8 #[.string nm] (W1.alloc (.cells #[.int .i64 0, .int .i64 0, .string e0, .int .i64 0, .int .i64 0, .string e0] 33)).drew fun z w'' => z = .returned (.string nm) ∧ Hid (Below W1.heap.size W1 w'' ∧ Full w'' W1.heap.size 33 [.int .i64 0, .int .i64 0, .string e0, .int .i64 0, .int .i64 0, .string e0]) := (clone_any nm _ hn0).mono fun _ _ h => ⟨h.1, HC0.out.2.trans (h.2.mono HC0.out.2.size), ((Full.new W1 _ _).next (Below.refl _ _).drew).next h.2⟩
        go_wp2_with fail
        go_region_held3 (fun w' => w'.cell? ⟨b6, 0, none⟩ = some (.int .i64 kd) ∧ w'.cell? ⟨b6, 1, none⟩ = some (.int .i64 nd) ∧ w'.cell? ⟨b6, 2, none⟩ = some (.string nm) ∧ w'.cell? ⟨w.heap.size, 2, none⟩ = some (.int .i64 k) ∧ w'.cell? ⟨w.heap.size, 3, none⟩ = some (.int .i64 n) ∧ w'.cell? ⟨w.heap.size, 4, none⟩ = some (.string s) ∧ Below W1.heap.size W1 w') (exact SV.out _ (by first | with_reducible assumption | with_reducible exact HC0.out.1 | with_reducible exact HC0.out.2 | with_reducible exact Below.alloc (by with_reducible assumption) (Below.size (by with_reducible assumption)) _ | with_reducible exact below_six (by with_reducible assumption) (by first | (with_reducible exact Nat.le_refl _) | (with_reducible exact Below.size (by assumption))) _ _ _ _ _ _))
          (first
          | (go_at_call 8; (with_reducible refine c0.mono ?_); rintro e w2 ⟨rfl, hb2⟩; have hcd2 : Below W1.heap.size W1 w2 := hb2.out)
          | (go_at_call 8; (with_reducible refine c1.mono ?_); rintro e w2 ⟨rfl, hb2⟩; have hcd2 : Below W1.heap.size W1 w2 := hb2.out.1; have z1 : Full w2 W1.heap.size 33 [.int .i64 0, .int .i64 0, .string e0, .int .i64 0, .int .i64 0, .string e0] := hb2.out.2; obtain ⟨r0, r0'⟩ := z1.cell 0 (.int .i64 0) rfl; obtain ⟨r1, r1'⟩ := z1.cell 1 (.int .i64 0) rfl; obtain ⟨r2, r2'⟩ := z1.cell 2 (.string e0) rfl; obtain ⟨r3, r3'⟩ := z1.cell 3 (.int .i64 0) rfl; obtain ⟨r4, r4'⟩ := z1.cell 4 (.int .i64 0) rfl; obtain ⟨r5, r5'⟩ := z1.cell 5 (.string e0) rfl; have Z1 : Hid (Full w2 W1.heap.size 33 [.int .i64 0, .int .i64 0, .string e0, .int .i64 0, .int .i64 0, .string e0]) := z1; clear z1)
          | fail)
        all_goals
          have HE2 : Hid (Below W1.heap.size W1 w2) := hcd2
          clear SV
          go_wp2
          go_meet
          case rel => first | exact ⟨_, rfl, full_six Z1.out _ _ _ _ _ _, below_six HE2.out (Nat.le_refl _) _ _ _ _ _ _, Nat.le_refl _⟩ | exact ⟨_, rfl, Full.new w2 _ _, below2 HE2.out ((Below.refl _ w2).alloc (Nat.le_refl _) _), HE2.out.size⟩
      case rest =>
        obtain ⟨p, rfl, hP⟩ := hcut
        have y4 := ((HW.out.1.y.next hP.out.2.1).cell 4 _ rfl).1
        have c2 := clone_any s wc hs
        go_upto_region 8 with (first | (go_at_call 8; refine c2.mono ?_; rintro e W2 ⟨rfl, b2⟩; have HP2 : Hid (Full W2 p 33 [.int .i64 kd, .int .i64 nd, .string nm, .int .i64 k, .int .i64 n, .string s] ∧ Below W1.heap.size W1 W2) := ⟨hP.out.1.next b2, below2 hP.out.2.1 b2⟩; have q5 := HP2.out.1.cell 5 _ rfl) | fail)
        have HQ : Hid (Full (W2.setCell ⟨p, 5, none⟩ (.string s)) p 33 [.int .i64 kd, .int .i64 nd, .string nm, .int .i64 k, .int .i64 n, .string s] ∧ Yb w (W2.setCell ⟨p, 5, none⟩ (.string s)) hk has k n s [.int .i64 0, .int .i64 0, .string e0, .int .i64 0, .int .i64 0, .string e0]) := by
          have l1 := HW.out.1.z.lt
          have l2 := hP.out.2.2
          have hb : Below W1.heap.size W1 (W2.setCell ⟨p, 5, none⟩ (.string s)) := HP2.out.2.setCell (p := ⟨p, 5, none⟩) l2 _
          exact ⟨Full.put1 (a := [.int .i64 kd, .int .i64 nd, .string nm, .int .i64 k, .int .i64 n]) (d := []) HP2.out.1 (.string s), HW.out.1.next hb⟩
        clear q5 HP2 c2 hP y4
        generalize W2.setCell ⟨p, 5, none⟩ (.string s) = W3 at *
        have g0 := (HQ.out.1.cell 0 _ rfl).1
        have g1 := (HQ.out.1.cell 1 _ rfl).1
        have g2 := (HQ.out.1.cell 2 _ rfl).1
        have g3 := (HQ.out.1.cell 3 _ rfl).1
        have g4 := (HQ.out.1.cell 4 _ rfl).1
        have g5 := (HQ.out.1.cell 5 _ rfl).1
        have v0 := HQ.out.2.z.cell 0 _ rfl
        have v1 := HQ.out.2.z.cell 1 _ rfl
        have v2 := HQ.out.2.z.cell 2 _ rfl
        have v3 := HQ.out.2.z.cell 3 _ rfl
        have v4 := HQ.out.2.z.cell 4 _ rfl
        have v5 := HQ.out.2.z.cell 5 _ rfl
        obtain ⟨fz, bz⟩ := HQ.out.2.told (.int .i64 kd) (.int .i64 nd) (.string nm) (.int .i64 k) (.int .i64 n) (.string s)
        have HZ : Hid (Below w.heap.size w _) := bz
        have p0 := (fz.cell 0 _ rfl).1
        have p1 := (fz.cell 1 _ rfl).1
        have p2 := (fz.cell 2 _ rfl).1
        have p3 := (fz.cell 3 _ rfl).1
        have p4 := (fz.cell 4 _ rfl).1
        have p5 := (fz.cell 5 _ rfl).1
        clear fz bz HQ HW
        go_wp2
        exact bodyPost_ret (v := evV (kd, nd, nm) k n s) (by simp [results, Try.results4, go_sem, p0, p1, p2, p3, p4, p5, evV]) rfl ⟨by rw [← HE.out], HZ.out⟩
end
end Go.Proofs.Ytaeigpfcfodmdaa
