import Derived.Test.YtekgnogjfggnmaaDoorKidsFit
namespace Go.Proofs.YtekgnogjfggnmaaDoor
open Go.RowKit

/-- A list of nodes, as a slice's address has it. -/
def Rd (w : World) (p : Option Addr) (L : List Nd) : Prop := L ≠ [] → ∃ g o, p = some ⟨g, o, none⟩ ∧ Lay w g o L
theorem Rd.next {w w' : World} {p : Option Addr} {L : List Nd} (h : Rd w p L) (hb : Below w.heap.size w w') : Rd w' p L := fun hn => by
  obtain ⟨g, o, e, hl⟩ := h hn
  exact ⟨g, o, e, hl.next hb⟩

/-- Texts that are not too long. -/
structure Fine (L : List Nd) : Prop where
  len : L.length ≤ 1353245080300
  txt : ∀ i, i < L.length → (nd L i).name.size ≤ 140737488355328 ∧ (nd L i).label.size ≤ 140737488355328 ∧ (nd L i).typ.size ≤ 140737488355328 ∧ (nd L i).text.size ≤ 140737488355328

theorem tree_false {L : List Nd} {k : Nat} (hk : k < L.length) (h : fit nameS typeS L k = false) : treeS nameS typeS L = false := by
  unfold treeS
  rw [Bool.and_eq_false_iff]
  right
  rw [List.all_eq_false]
  exact ⟨k, List.mem_range.2 hk, by simp [h]⟩
theorem tree_true {L : List Nd} (h0 : headS L = true) (h : ∀ m, m < L.length → fit nameS typeS L m = true) : treeS nameS typeS L = true := by
  unfold treeS
  rw [Bool.and_eq_true, List.all_eq_true]
  exact ⟨h0, fun x hx => h x (List.mem_range.1 hx)⟩

def KwAt (w : World) : Prop := w.rangeAt 3 0 kwCells ∧ 4 ≤ w.heap.size
theorem KwAt.next {w w' : World} (h : KwAt w) (hb : Below w.heap.size w w') : KwAt w' :=
  ⟨fun j v hv => (hb.cell (p := ⟨3, 0 + j, none⟩) (by show 3 < _; have := h.2; omega)).trans (h.1 j v hv), Nat.le_trans h.2 hb.size⟩

theorem shapeOf_lit (k : Int) (w : World) : ∃ (l1 n1 t1 li mi fo lo lg fw mo : Int) (kn : Bool), shp k = (⟨l1, n1, t1, li, mi, fo, lo, lg, fw, mo⟩, kn) ∧ Calls Tryd.prog 49 #[.int .i64 k] w fun e w' => e = .returned (.tuple #[.agg #[.int .i64 l1, .int .i64 n1, .int .i64 t1, .int .i64 li, .int .i64 mi, .int .i64 fo, .int .i64 lo, .int .i64 lg, .int .i64 fw, .int .i64 mo], .bool kn]) ∧ Below w.heap.size w w' := by
  have h := shapeOf_any k w
  obtain ⟨x, hx⟩ : ∃ x, shp k = x := ⟨_, rfl⟩
  rw [hx] at h
  obtain ⟨⟨l1, n1, t1, li, mi, fo, lo, lg, fw, mo⟩, kn⟩ := x
  exact ⟨l1, n1, t1, li, mi, fo, lo, lg, fw, mo, kn, hx, h⟩

set_option maxRecDepth 100000 in
set_option maxHeartbeats 1000000 in
theorem isTree_some (w : World) (g o cap : Nat) (L : List Nd) (hne : 0 < L.length) (hf : Fine L) (h : Hid (Lay w g o L)) (hk : Hid (KwAt w)) :
    Calls Tryd.prog 30 #[.slice (some ⟨g, o, none⟩) L.length cap] w fun e w' => e = .returned (.bool (treeS nameS typeS L)) ∧ Below w.heap.size w w' := by
  obtain ⟨r, hr⟩ : ∃ r, treeS nameS typeS L = r := ⟨_, rfl⟩
  have HR : Hid (treeS nameS typeS L = r) := hr
  rw [hr]
  clear hr
  have hL := hf.len
  have HF : Hid (Fine L) := hf
  clear hf
  have c0 : w.cell? ⟨g, o, none⟩ = some (.int .i64 (nd L 0).kind) := h.out.kind hne
  have c8 : w.cell? ⟨g, o + 8, none⟩ = some (.int .i64 (nd L 0).size) := h.out.size hne
  have i1 : (0 : Int) < (L.length : Int) := by omega
  have i2 : ¬ (L.length : Int) = 0 := by omega
  have i3 : ((L.length : Int) == 0) = false := by simpa using i2
  have HH : Hid (headS L = (((nd L 0).size == (L.length : Int)) && ((nd L 0).kind == 1 || isExpr (nd L 0).kind))) := by
    show _ = _
    unfold headS
    rw [decide_eq_true hne, Bool.true_and]
  have HRT : Hid (Calls Tryd.prog 48 #[.int .i64 (nd L 0).kind] w fun e w' => e = .returned (.bool ((nd L 0).kind == 1 || isExpr (nd L 0).kind)) ∧ w = w') := isRoot_any _ w
  have HND : Hid (headS L = false → r = false) := fun e => by rw [← HR.out]; unfold treeS; rw [e]; rfl
  obtain ⟨hb, hhb⟩ : ∃ hb, headS L = hb := ⟨_, rfl⟩
  have HHB : Hid (headS L = hb) := hhb
  rw [hhb] at HH HND
  clear hhb
  generalize ((nd L 0).kind == 1 || isExpr (nd L 0).kind) = rt at *
  generalize (nd L 0).size = s0 at *
  generalize (nd L 0).kind = k0 at *
  cases hb with
  | false =>
    have HRF : Hid (r = false) := HND.out rfl
    have hcase : (s0 == (L.length : Int)) = false ∨ ((s0 == (L.length : Int)) = true ∧ rt = false) := by
      have := HH.out
      cases h1 : (s0 == (L.length : Int)) with
      | false => exact .inl rfl
      | true =>
        right
        rw [h1] at this
        refine ⟨rfl, ?_⟩
        cases rt with
        | false => rfl
        | true => exact absurd this (by decide)
    clear HH HND HHB HR
    rcases hcase with hq | ⟨hq, rfl⟩
    · have hq' : (s0 != (L.length : Int)) = true := by unfold bne; rw [hq]; rfl
      go_enter Tryd.func30, Tryd.ntmps30
      go_wp2
      rw [HRF.out]
      go_ret
      exact ⟨rfl, Below.refl _ _⟩
    · have hq' : (s0 != (L.length : Int)) = false := by unfold bne; rw [hq]; rfl
      go_enter Tryd.func30, Tryd.ntmps30
      go_wp2_with (first
        | (go_at_call 48; refine HRT.out.mono ?_; rintro e w1 ⟨rfl, hw1⟩; subst hw1)
        | go_in)
      rw [HRF.out]
      go_ret
      exact ⟨rfl, Below.refl _ _⟩
  | true =>
    obtain ⟨hq, rfl⟩ : (s0 == (L.length : Int)) = true ∧ rt = true := by
      have := HH.out
      cases h1 : (s0 == (L.length : Int)) with
      | false => rw [h1] at this; exact absurd this (by simp)
      | true =>
        rw [h1] at this
        refine ⟨rfl, ?_⟩
        cases rt with
        | false => exact absurd this (by decide)
        | true => rfl
    have hq' : (s0 != (L.length : Int)) = false := by unfold bne; rw [hq]; rfl
    clear HH HND
    go_enter Tryd.func30, Tryd.ntmps30
    go_upto_region 3 with (first
      | (go_at_call 48; refine HRT.out.mono ?_; rintro e w1 ⟨rfl, hw1⟩; subst hw1)
      | go_in)
    clear HRT hq hq' c0 c8
    go_wp2
    go_loopw [29] (fun v wr => ∃ k : Nat, k ≤ L.length ∧ v = .int .i64 (k : Int) ∧ Hid (∀ m, m < k → fit nameS typeS L m = true) ∧ Hid (Below w.heap.size w wr)) (fun v _ => L.length - (intOf v).toNat)
    case atStart => exact ⟨0, by omega, rfl, fun m hm => by omega, Below.refl _ _⟩
    case round =>
      obtain ⟨k, hkl, rfl, hfit, hB⟩ := hrel
      by_cases hlt : k < L.length
      · have j0 : (0 : Int) ≤ (k : Int) := by omega
        have j1 : (k : Int) < (L.length : Int) := by omega
        have hg := good_of HHB.out hfit.out hlt
        have HG : Hid (Good L k) := hg
        have hLr := h.out.next hB.out
        have HLr : Hid (Lay wr g o L) := hLr
        obtain ⟨x, hx⟩ : ∃ x, nd L k = x := ⟨_, rfl⟩
        have d := hLr.c k hlt
        have HT := HF.out.txt k hlt
        have HFT : Hid (fit nameS typeS L k = ((shp x.kind).2 && fieldsS nameS typeS (shp x.kind).1 x && kidsS L (shp x.kind).1 k)) := by rw [← hx]; rfl
        rw [hx] at d HT
        clear hx
        obtain ⟨kd, ps, nm, lb, ty, op, it, tx, zz⟩ := x
        have d0 : wr.cell? ⟨g, o + k * 9, none⟩ = some (.int .i64 kd) := d 0 _ rfl
        have d1 : wr.cell? ⟨g, o + k * 9 + 1, none⟩ = some (.int .i64 ps) := d 1 _ rfl
        have d2 : wr.cell? ⟨g, o + k * 9 + 2, none⟩ = some (.string nm) := d 2 _ rfl
        have d3 : wr.cell? ⟨g, o + k * 9 + 3, none⟩ = some (.string lb) := d 3 _ rfl
        have d4 : wr.cell? ⟨g, o + k * 9 + 4, none⟩ = some (.string ty) := d 4 _ rfl
        have d5 : wr.cell? ⟨g, o + k * 9 + 5, none⟩ = some (.int .i64 op) := d 5 _ rfl
        have d6 : wr.cell? ⟨g, o + k * 9 + 6, none⟩ = some (.int .i64 it) := d 6 _ rfl
        have d7 : wr.cell? ⟨g, o + k * 9 + 7, none⟩ = some (.string tx) := d 7 _ rfl
        have d8 : wr.cell? ⟨g, o + k * 9 + 8, none⟩ = some (.int .i64 zz) := d 8 _ rfl
        have HTx : Hid (nm.size ≤ 140737488355328 ∧ lb.size ≤ 140737488355328 ∧ ty.size ≤ 140737488355328 ∧ tx.size ≤ 140737488355328) := HT
        clear d HT hg hLr
        obtain ⟨wa, hwa⟩ : ∃ wa, wr.alloc (.cells #[.int .i64 kd, .int .i64 ps, .string nm, .string lb, .string ty, .int .i64 op, .int .i64 it, .string tx, .int .i64 zz] 36) = wa := ⟨_, rfl⟩
        have BA : Hid (Below wr.heap.size wr wa) := by rw [← hwa]; exact (Below.refl _ wr).alloc (Nat.le_refl _) _
        have NA : Hid (∀ (j : Nat) (v : Value), (ndV ⟨kd, ps, nm, lb, ty, op, it, tx, zz⟩)[j]? = some v → wa.cell? ⟨wr.heap.size, j, none⟩ = some v) := fun j v hv => by rw [← hwa]; exact cell_new _ _ _ _ _ hv
        have za : wr.heap.size < wa.heap.size := by rw [← hwa]; simp
        have a0 : wa.cell? ⟨wr.heap.size, 0, none⟩ = some (.int .i64 kd) := NA.out 0 _ rfl
        obtain ⟨l1, n1, t1, li, mi, fo, lo, lg, fw, mo, kn, hsh, HS0⟩ := shapeOf_lit kd wa
        have HS : Hid (Calls Tryd.prog 49 #[.int .i64 kd] wa fun e w' => e = .returned (.tuple #[.agg #[.int .i64 l1, .int .i64 n1, .int .i64 t1, .int .i64 li, .int .i64 mi, .int .i64 fo, .int .i64 lo, .int .i64 lg, .int .i64 fw, .int .i64 mo], .bool kn]) ∧ Below wa.heap.size wa w') := HS0
        dsimp only at HFT
        rw [hsh] at HFT
        clear hsh HS0
        go_upto_region 7 with (first
          | (go_at_call 49; refine HS.out.mono ?_; rintro e wb ⟨rfl, hbb⟩)
          | go_in)
        clear HS d0 d1 d2 d3 d4 d5 d6 d7 d8 a0 hwa
        obtain ⟨wc, hwc⟩ : ∃ wc, wb.alloc (.cells #[.int .i64 l1, .int .i64 n1, .int .i64 t1, .int .i64 li, .int .i64 mi, .int .i64 fo, .int .i64 lo, .int .i64 lg, .int .i64 fw, .int .i64 mo] 72) = wc := ⟨_, rfl⟩
        have zb := hbb.size
        have BC : Hid (Below wb.heap.size wb wc) := by rw [← hwc]; exact (Below.refl _ wb).alloc (Nat.le_refl _) _
        have zc : wb.heap.size < wc.heap.size := by rw [← hwc]; simp
        have NC : Hid (∀ (j : Nat) (v : Value), (ndV ⟨kd, ps, nm, lb, ty, op, it, tx, zz⟩)[j]? = some v → wc.cell? ⟨wr.heap.size, j, none⟩ = some v) := fun j v hv =>
          (BC.out.cell (p := ⟨wr.heap.size, j, none⟩) (by show wr.heap.size < _; omega)).trans ((hbb.cell (p := ⟨wr.heap.size, j, none⟩) za).trans (NA.out j v hv))
        have SC : Hid (∀ (j : Nat) (v : Value), (shpV ⟨l1, n1, t1, li, mi, fo, lo, lg, fw, mo⟩)[j]? = some v → wc.cell? ⟨wb.heap.size, j, none⟩ = some v) := fun j v hv => by rw [← hwc]; exact cell_new _ _ _ _ _ hv
        have BRC : Hid (Below wr.heap.size wr wc) := (BA.out.trans (hbb.mono (by omega))).trans (BC.out.mono (by omega))
        have BWC : Hid (Below w.heap.size w wc) := hB.out.trans (BRC.out.mono hB.out.size)
        have KC : Hid (KwAt wc) := hk.out.next BWC.out
        have LC : Hid (Lay wc g o L) := HLr.out.next BRC.out
        clear NA BA BC
        have e0 : wc.cell? ⟨wr.heap.size, 0, none⟩ = some (.int .i64 kd) := NC.out 0 _ rfl
        have e1 : wc.cell? ⟨wr.heap.size, 1, none⟩ = some (.int .i64 ps) := NC.out 1 _ rfl
        have e2 : wc.cell? ⟨wr.heap.size, 2, none⟩ = some (.string nm) := NC.out 2 _ rfl
        have e3 : wc.cell? ⟨wr.heap.size, 3, none⟩ = some (.string lb) := NC.out 3 _ rfl
        have e4 : wc.cell? ⟨wr.heap.size, 4, none⟩ = some (.string ty) := NC.out 4 _ rfl
        have e5 : wc.cell? ⟨wr.heap.size, 5, none⟩ = some (.int .i64 op) := NC.out 5 _ rfl
        have e6 : wc.cell? ⟨wr.heap.size, 6, none⟩ = some (.int .i64 it) := NC.out 6 _ rfl
        have e7 : wc.cell? ⟨wr.heap.size, 7, none⟩ = some (.string tx) := NC.out 7 _ rfl
        have e8 : wc.cell? ⟨wr.heap.size, 8, none⟩ = some (.int .i64 zz) := NC.out 8 _ rfl
        have s0' : wc.cell? ⟨wb.heap.size, 0, none⟩ = some (.int .i64 l1) := SC.out 0 _ rfl
        have s1 : wc.cell? ⟨wb.heap.size, 1, none⟩ = some (.int .i64 n1) := SC.out 1 _ rfl
        have s2 : wc.cell? ⟨wb.heap.size, 2, none⟩ = some (.int .i64 t1) := SC.out 2 _ rfl
        have s3 : wc.cell? ⟨wb.heap.size, 3, none⟩ = some (.int .i64 li) := SC.out 3 _ rfl
        have s4 : wc.cell? ⟨wb.heap.size, 4, none⟩ = some (.int .i64 mi) := SC.out 4 _ rfl
        have s5 : wc.cell? ⟨wb.heap.size, 5, none⟩ = some (.int .i64 fo) := SC.out 5 _ rfl
        have s6 : wc.cell? ⟨wb.heap.size, 6, none⟩ = some (.int .i64 lo) := SC.out 6 _ rfl
        have s7 : wc.cell? ⟨wb.heap.size, 7, none⟩ = some (.int .i64 lg) := SC.out 7 _ rfl
        have s8 : wc.cell? ⟨wb.heap.size, 8, none⟩ = some (.int .i64 fw) := SC.out 8 _ rfl
        have s9 : wc.cell? ⟨wb.heap.size, 9, none⟩ = some (.int .i64 mo) := SC.out 9 _ rfl
        cases kn with
        | false =>
          have HRF : Hid (r = false) := by
            show r = false
            rw [← HR.out]
            refine tree_false hlt ?_
            rw [HFT.out]
            rfl
          go_wp2
          rw [HRF.out]
          go_ret
          exact ⟨rfl, BWC.out⟩
        | true =>
          obtain ⟨fb, hfb⟩ : ∃ fb, fieldsS nameS typeS ⟨l1, n1, t1, li, mi, fo, lo, lg, fw, mo⟩ ⟨kd, ps, nm, lb, ty, op, it, tx, zz⟩ = fb := ⟨_, rfl⟩
          have HFI : Hid (Calls Tryd.prog 50 #[.agg #[.int .i64 l1, .int .i64 n1, .int .i64 t1, .int .i64 li, .int .i64 mi, .int .i64 fo, .int .i64 lo, .int .i64 lg, .int .i64 fw, .int .i64 mo], .agg #[.int .i64 kd, .int .i64 ps, .string nm, .string lb, .string ty, .int .i64 op, .int .i64 it, .string tx, .int .i64 zz]] wc fun e w' => e = .returned (.bool fb) ∧ Below wc.heap.size wc w') := by
            rw [← hfb]
            exact fieldsFit_any ⟨l1, n1, t1, li, mi, fo, lo, lg, fw, mo⟩ ⟨kd, ps, nm, lb, ty, op, it, tx, zz⟩ wc KC.out.1 KC.out.2 (Nat.le_trans HTx.out.1 (by decide)) (Nat.le_trans HTx.out.2.1 (by decide)) (Nat.le_trans HTx.out.2.2.1 (by decide)) (Nat.le_trans HTx.out.2.2.2 (by decide))
          rw [hfb] at HFT
          clear hfb
          cases fb with
          | false =>
            have HRF : Hid (r = false) := by
              show r = false
              rw [← HR.out]
              refine tree_false hlt ?_
              rw [HFT.out]
              rfl
            go_wp2_with (first
              | (go_at_call 50; refine HFI.out.mono ?_; rintro e wd ⟨rfl, hbd⟩)
              | go_in)
            rw [HRF.out]
            go_ret
            exact ⟨rfl, BWC.out.trans (hbd.mono BWC.out.size)⟩
          | true =>
            obtain ⟨kb, hkb⟩ : ∃ kb, kidsS L ⟨l1, n1, t1, li, mi, fo, lo, lg, fw, mo⟩ k = kb := ⟨_, rfl⟩
            have HKI : Hid (∀ wd : World, Below wc.heap.size wc wd → Calls Tryd.prog 51 #[.agg #[.int .i64 l1, .int .i64 n1, .int .i64 t1, .int .i64 li, .int .i64 mi, .int .i64 fo, .int .i64 lo, .int .i64 lg, .int .i64 fw, .int .i64 mo], .slice (some ⟨g, o, none⟩) L.length cap, .int .i64 (k : Int)] wd fun e w' => e = .returned (.bool kb) ∧ Below wd.heap.size wd w') := fun wd hd => by
              rw [← hkb]
              exact kidsFit_any ⟨l1, n1, t1, li, mi, fo, lo, lg, fw, mo⟩ wd g o cap L k hL hlt HG.out (LC.out.next hd)
            rw [hkb] at HFT
            clear hkb
            cases kb with
            | false =>
              have HRF : Hid (r = false) := by
                show r = false
                rw [← HR.out]
                refine tree_false hlt ?_
                rw [HFT.out]
                rfl
              go_wp2_with (first
                | (go_at_call 50; refine HFI.out.mono ?_; rintro e wd ⟨rfl, hbd⟩; have f0 := (hbd.cell (p := ⟨wb.heap.size, 0, none⟩) zc).trans s0'; have f1 := (hbd.cell (p := ⟨wb.heap.size, 1, none⟩) zc).trans s1; have f2 := (hbd.cell (p := ⟨wb.heap.size, 2, none⟩) zc).trans s2; have f3 := (hbd.cell (p := ⟨wb.heap.size, 3, none⟩) zc).trans s3; have f4 := (hbd.cell (p := ⟨wb.heap.size, 4, none⟩) zc).trans s4; have f5 := (hbd.cell (p := ⟨wb.heap.size, 5, none⟩) zc).trans s5; have f6 := (hbd.cell (p := ⟨wb.heap.size, 6, none⟩) zc).trans s6; have f7 := (hbd.cell (p := ⟨wb.heap.size, 7, none⟩) zc).trans s7; have f8 := (hbd.cell (p := ⟨wb.heap.size, 8, none⟩) zc).trans s8; have f9 := (hbd.cell (p := ⟨wb.heap.size, 9, none⟩) zc).trans s9)
                | (go_at_call 51; refine (HKI.out wd hbd).mono ?_; rintro e we ⟨rfl, hbe⟩)
                | go_in)
              rw [HRF.out]
              go_ret
              have hd := BWC.out.trans (hbd.mono BWC.out.size)
              exact ⟨rfl, hd.trans (hbe.mono hd.size)⟩
            | true =>
              go_wp2_with (first
                | (go_at_call 50; refine HFI.out.mono ?_; rintro e wd ⟨rfl, hbd⟩; have f0 := (hbd.cell (p := ⟨wb.heap.size, 0, none⟩) zc).trans s0'; have f1 := (hbd.cell (p := ⟨wb.heap.size, 1, none⟩) zc).trans s1; have f2 := (hbd.cell (p := ⟨wb.heap.size, 2, none⟩) zc).trans s2; have f3 := (hbd.cell (p := ⟨wb.heap.size, 3, none⟩) zc).trans s3; have f4 := (hbd.cell (p := ⟨wb.heap.size, 4, none⟩) zc).trans s4; have f5 := (hbd.cell (p := ⟨wb.heap.size, 5, none⟩) zc).trans s5; have f6 := (hbd.cell (p := ⟨wb.heap.size, 6, none⟩) zc).trans s6; have f7 := (hbd.cell (p := ⟨wb.heap.size, 7, none⟩) zc).trans s7; have f8 := (hbd.cell (p := ⟨wb.heap.size, 8, none⟩) zc).trans s8; have f9 := (hbd.cell (p := ⟨wb.heap.size, 9, none⟩) zc).trans s9)
                | (go_at_call 51; refine (HKI.out wd hbd).mono ?_; rintro e we ⟨rfl, hbe⟩)
                | go_in)
              have hd := BWC.out.trans (hbd.mono BWC.out.size)
              refine ⟨⟨k + 1, by omega, by go_num, fun m hm => ?_, hd.trans (hbe.mono hd.size)⟩, by simp [intOf]; omega⟩
              by_cases hmk : m < k
              · exact hfit.out m hmk
              · obtain rfl : m = k := by omega
                rw [HFT.out]
                rfl
      · obtain rfl : k = L.length := by omega
        have HRF : Hid (r = true) := by
          show r = true
          rw [← HR.out]
          exact tree_true HHB.out hfit.out
        go_wp2
        rw [HRF.out]
        go_ret
        exact ⟨rfl, hB.out⟩

theorem isTree_any (w : World) (p : Option Addr) (cap : Nat) (L : List Nd) (hf : Fine L) (h : Rd w p L) (hk : KwAt w) :
    Calls Tryd.prog 30 #[.slice p L.length cap] w fun e w' => e = .returned (.bool (treeS nameS typeS L)) ∧ Below w.heap.size w w' := by
  cases L with
  | nil =>
    have e : treeS nameS typeS [] = false := rfl
    rw [e]
    clear h hk hf
    go_enter Tryd.func30, Tryd.ntmps30
    go_wp2
    go_ret
    exact ⟨rfl, Below.refl _ _⟩
  | cons x L =>
    obtain ⟨g, o, rfl, hl⟩ := h (by simp)
    exact isTree_some w g o cap (x :: L) (by simp) hf hl hk

end Go.Proofs.YtekgnogjfggnmaaDoor
