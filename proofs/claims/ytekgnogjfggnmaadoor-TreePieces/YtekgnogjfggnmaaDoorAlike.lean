import Derived.Test.YtekgnogjfggnmaaDoorIsTree
namespace Go.Proofs.YtekgnogjfggnmaaDoor
open Go.RowKit

/-- Alike but for the places. -/
def alikeB (x y : Nd) : Bool := (x.kind == y.kind) && (x.name.toList == y.name.toList) && (x.label.toList == y.label.toList) && (x.typ.toList == y.typ.toList) && (x.op == y.op) && (x.int == y.int) && (x.text.toList == y.text.toList) && (x.size == y.size)

set_option maxRecDepth 100000 in
set_option maxHeartbeats 1000000 in
theorem alike_any (x y : Nd) (w : World) :
    Calls Tryd.prog 32 #[.agg (ndV x), .agg (ndV y)] w fun e w' => e = .returned (.bool (alikeB x y)) ∧ Below w.heap.size w w' := by
  obtain ⟨kd, ps, nm, lb, ty, op, it, tx, zz⟩ := x
  obtain ⟨kd', ps', nm', lb', ty', op', it', tx', zz'⟩ := y
  obtain ⟨r, hr⟩ : ∃ r, alikeB ⟨kd, ps, nm, lb, ty, op, it, tx, zz⟩ ⟨kd', ps', nm', lb', ty', op', it', tx', zz'⟩ = r := ⟨_, rfl⟩
  have HR : Hid (((kd == kd') && (nm.toList == nm'.toList) && (lb.toList == lb'.toList) && (ty.toList == ty'.toList) && (op == op') && (it == it') && (tx.toList == tx'.toList) && (zz == zz')) = r) := hr
  rw [hr]
  clear hr
  simp only [ndV]
  go_enter Tryd.func32, Tryd.ntmps32
  go_wp2
  all_goals
    rw [← HR.out]
    clear HR
    go_ret
    refine ⟨?_, ((Below.refl _ w).alloc (Nat.le_refl _) _).alloc (by simp) _⟩
  all_goals first
    | (simp [*]; done)
    | (simp_all; done)

/-- Alike, node by node. -/
def sameL (A B : List Nd) : Bool := decide (A.length = B.length) && (List.range A.length).all fun i => alikeB (nd A i) (nd B i)
theorem same_no {A B : List Nd} {k : Nat} (hk : k < A.length) (h : alikeB (nd A k) (nd B k) = false) : sameL A B = false := by
  unfold sameL
  rw [Bool.and_eq_false_iff]
  right
  rw [List.all_eq_false]
  exact ⟨k, List.mem_range.2 hk, by rw [h]; decide⟩
theorem same_yes {A B : List Nd} (hl : A.length = B.length) (h : ∀ k, k < A.length → alikeB (nd A k) (nd B k) = true) : sameL A B = true := by
  unfold sameL
  rw [decide_eq_true hl, Bool.true_and, List.all_eq_true]
  exact fun x hx => h x (List.mem_range.1 hx)

set_option maxRecDepth 100000 in
set_option maxHeartbeats 1000000 in
theorem equal_some (w : World) (g o cap g' o' cap' : Nat) (A B : List Nd) (hA : A.length ≤ 1353245080300) (hl : B.length = A.length) (ha : Hid (Lay w g o A)) (hb : Hid (Lay w g' o' B)) :
    Calls Tryd.prog 31 #[.slice (some ⟨g, o, none⟩) A.length cap, .slice (some ⟨g', o', none⟩) A.length cap', .func (.func 32) #[] #[]] w fun e w' => e = .returned (.bool (sameL A B)) ∧ Below w.heap.size w w' := by
  obtain ⟨r, hr⟩ : ∃ r, sameL A B = r := ⟨_, rfl⟩
  have HR : Hid (sameL A B = r) := hr
  rw [hr]
  clear hr
  have HL : Hid (B.length = A.length) := hl
  clear hl
  go_enter Tryd.func31, Tryd.ntmps31
  go_wp2
  go_loopw [17] (fun v wr => ∃ k : Nat, k ≤ A.length ∧ v = .int .i64 (k : Int) ∧ Hid (∀ m, m < k → alikeB (nd A m) (nd B m) = true) ∧ Hid (Below w.heap.size w wr)) (fun v _ => A.length - (intOf v).toNat)
  case atStart => exact ⟨0, by omega, rfl, fun m hm => by omega, Below.refl _ _⟩
  case round =>
    obtain ⟨k, hk, rfl, hall, hB⟩ := hrel
    by_cases hlt : k < A.length
    · have j0 : (0 : Int) ≤ (k : Int) := by omega
      have j1 : (k : Int) < (A.length : Int) := by omega
      have dA := (ha.out.next hB.out).c k hlt
      have dB := (hb.out.next hB.out).c k (by rw [HL.out]; exact hlt)
      obtain ⟨x, hx⟩ : ∃ x, nd A k = x := ⟨_, rfl⟩
      obtain ⟨y, hy⟩ : ∃ y, nd B k = y := ⟨_, rfl⟩
      have HXY : Hid (alikeB (nd A k) (nd B k) = alikeB x y) := by rw [hx, hy]; rfl
      rw [hx] at dA
      rw [hy] at dB
      clear hx hy
      have HAL : Hid (∀ w : World, Calls Tryd.prog 32 #[.agg (ndV x), .agg (ndV y)] w fun e w' => e = .returned (.bool (alikeB x y)) ∧ Below w.heap.size w w') := alike_any x y
      obtain ⟨q, hq⟩ : ∃ q, alikeB x y = q := ⟨_, rfl⟩
      rw [hq] at HAL HXY
      clear hq
      obtain ⟨kd, ps, nm, lb, ty, op, it, tx, zz⟩ := x
      obtain ⟨kd', ps', nm', lb', ty', op', it', tx', zz'⟩ := y
      simp only [ndV] at HAL
      have a0 : wr.cell? ⟨g, o + k * 9, none⟩ = some (.int .i64 kd) := dA 0 _ rfl
      have a1 : wr.cell? ⟨g, o + k * 9 + 1, none⟩ = some (.int .i64 ps) := dA 1 _ rfl
      have a2 : wr.cell? ⟨g, o + k * 9 + 2, none⟩ = some (.string nm) := dA 2 _ rfl
      have a3 : wr.cell? ⟨g, o + k * 9 + 3, none⟩ = some (.string lb) := dA 3 _ rfl
      have a4 : wr.cell? ⟨g, o + k * 9 + 4, none⟩ = some (.string ty) := dA 4 _ rfl
      have a5 : wr.cell? ⟨g, o + k * 9 + 5, none⟩ = some (.int .i64 op) := dA 5 _ rfl
      have a6 : wr.cell? ⟨g, o + k * 9 + 6, none⟩ = some (.int .i64 it) := dA 6 _ rfl
      have a7 : wr.cell? ⟨g, o + k * 9 + 7, none⟩ = some (.string tx) := dA 7 _ rfl
      have a8 : wr.cell? ⟨g, o + k * 9 + 8, none⟩ = some (.int .i64 zz) := dA 8 _ rfl
      obtain ⟨wa, hwa⟩ : ∃ wa, wr.alloc (.cells #[.int .i64 kd, .int .i64 ps, .string nm, .string lb, .string ty, .int .i64 op, .int .i64 it, .string tx, .int .i64 zz] 36) = wa := ⟨_, rfl⟩
      have za : wr.heap.size < wa.heap.size := by rw [← hwa]; simp
      have za' : wa.heap.size = wr.heap.size + 1 := by rw [← hwa]; simp
      have BA : Below wr.heap.size wr wa := by rw [← hwa]; exact (Below.refl _ wr).alloc (Nat.le_refl _) _
      have dB' : ∀ (j : Nat) (v : Value), (ndV ⟨kd', ps', nm', lb', ty', op', it', tx', zz'⟩)[j]? = some v → wa.cell? ⟨g', o' + k * 9 + j, none⟩ = some v := fun j v hv => (BA.cell (p := ⟨g', o' + k * 9 + j, none⟩) (hb.out.next hB.out).lt).trans (dB j v hv)
      have b0 : wa.cell? ⟨g', o' + k * 9, none⟩ = some (.int .i64 kd') := dB' 0 _ rfl
      have b1 : wa.cell? ⟨g', o' + k * 9 + 1, none⟩ = some (.int .i64 ps') := dB' 1 _ rfl
      have b2 : wa.cell? ⟨g', o' + k * 9 + 2, none⟩ = some (.string nm') := dB' 2 _ rfl
      have b3 : wa.cell? ⟨g', o' + k * 9 + 3, none⟩ = some (.string lb') := dB' 3 _ rfl
      have b4 : wa.cell? ⟨g', o' + k * 9 + 4, none⟩ = some (.string ty') := dB' 4 _ rfl
      have b5 : wa.cell? ⟨g', o' + k * 9 + 5, none⟩ = some (.int .i64 op') := dB' 5 _ rfl
      have b6 : wa.cell? ⟨g', o' + k * 9 + 6, none⟩ = some (.int .i64 it') := dB' 6 _ rfl
      have b7 : wa.cell? ⟨g', o' + k * 9 + 7, none⟩ = some (.string tx') := dB' 7 _ rfl
      have b8 : wa.cell? ⟨g', o' + k * 9 + 8, none⟩ = some (.int .i64 zz') := dB' 8 _ rfl
      obtain ⟨wb, hwb⟩ : ∃ wb, wa.alloc (.cells #[.int .i64 kd', .int .i64 ps', .string nm', .string lb', .string ty', .int .i64 op', .int .i64 it', .string tx', .int .i64 zz'] 36) = wb := ⟨_, rfl⟩
      have BB : Below wa.heap.size wa wb := by rw [← hwb]; exact (Below.refl _ wa).alloc (Nat.le_refl _) _
      have NX : ∀ (j : Nat) (v : Value), (ndV ⟨kd, ps, nm, lb, ty, op, it, tx, zz⟩)[j]? = some v → wb.cell? ⟨wr.heap.size, j, none⟩ = some v := fun j v hv =>
        (BB.cell (p := ⟨wr.heap.size, j, none⟩) za).trans (by rw [← hwa]; exact cell_new _ _ _ _ _ hv)
      have NY : ∀ (j : Nat) (v : Value), (ndV ⟨kd', ps', nm', lb', ty', op', it', tx', zz'⟩)[j]? = some v → wb.cell? ⟨wr.heap.size + 1, j, none⟩ = some v := fun j v hv => by
        rw [← hwb, ← za']; exact cell_new _ _ _ _ _ hv
      have c0 : wb.cell? ⟨wr.heap.size, 0, none⟩ = some (.int .i64 kd) := NX 0 _ rfl
      have c1 : wb.cell? ⟨wr.heap.size, 1, none⟩ = some (.int .i64 ps) := NX 1 _ rfl
      have c2 : wb.cell? ⟨wr.heap.size, 2, none⟩ = some (.string nm) := NX 2 _ rfl
      have c3 : wb.cell? ⟨wr.heap.size, 3, none⟩ = some (.string lb) := NX 3 _ rfl
      have c4 : wb.cell? ⟨wr.heap.size, 4, none⟩ = some (.string ty) := NX 4 _ rfl
      have c5 : wb.cell? ⟨wr.heap.size, 5, none⟩ = some (.int .i64 op) := NX 5 _ rfl
      have c6 : wb.cell? ⟨wr.heap.size, 6, none⟩ = some (.int .i64 it) := NX 6 _ rfl
      have c7 : wb.cell? ⟨wr.heap.size, 7, none⟩ = some (.string tx) := NX 7 _ rfl
      have c8 : wb.cell? ⟨wr.heap.size, 8, none⟩ = some (.int .i64 zz) := NX 8 _ rfl
      have d0 : wb.cell? ⟨wr.heap.size + 1, 0, none⟩ = some (.int .i64 kd') := NY 0 _ rfl
      have d1 : wb.cell? ⟨wr.heap.size + 1, 1, none⟩ = some (.int .i64 ps') := NY 1 _ rfl
      have d2 : wb.cell? ⟨wr.heap.size + 1, 2, none⟩ = some (.string nm') := NY 2 _ rfl
      have d3 : wb.cell? ⟨wr.heap.size + 1, 3, none⟩ = some (.string lb') := NY 3 _ rfl
      have d4 : wb.cell? ⟨wr.heap.size + 1, 4, none⟩ = some (.string ty') := NY 4 _ rfl
      have d5 : wb.cell? ⟨wr.heap.size + 1, 5, none⟩ = some (.int .i64 op') := NY 5 _ rfl
      have d6 : wb.cell? ⟨wr.heap.size + 1, 6, none⟩ = some (.int .i64 it') := NY 6 _ rfl
      have d7 : wb.cell? ⟨wr.heap.size + 1, 7, none⟩ = some (.string tx') := NY 7 _ rfl
      have d8 : wb.cell? ⟨wr.heap.size + 1, 8, none⟩ = some (.int .i64 zz') := NY 8 _ rfl
      have HBW : Hid (Below w.heap.size w wb) := (hB.out.trans (BA.mono hB.out.size)).trans (BB.mono (by have := hB.out.size; omega))
      clear NX NY dA dB dB' BA BB
      cases q with
      | false =>
        have HRF : Hid (r = false) := by
          show r = false
          rw [← HR.out]
          exact same_no hlt HXY.out
        go_wp2_with (first
          | (go_at_call 32; refine (HAL.out _).mono ?_; rintro e wc ⟨rfl, hbc⟩)
          | go_in)
        rw [HRF.out]
        go_ret
        exact ⟨rfl, HBW.out.trans (hbc.mono HBW.out.size)⟩
      | true =>
        go_wp2_with (first
          | (go_at_call 32; refine (HAL.out _).mono ?_; rintro e wc ⟨rfl, hbc⟩)
          | go_in)
        refine ⟨⟨k + 1, by omega, by go_num, fun m hm => ?_, HBW.out.trans (hbc.mono HBW.out.size)⟩, by simp [intOf]; omega⟩
        by_cases hmk : m < k
        · exact hall.out m hmk
        · obtain rfl : m = k := by omega
          exact HXY.out
    · obtain rfl : k = A.length := by omega
      have HRF : Hid (r = true) := by
        show r = true
        rw [← HR.out]
        exact same_yes HL.out.symm hall.out
      go_wp2
      rw [HRF.out]
      go_ret
      exact ⟨rfl, hB.out⟩

/-- Two lists, alike or not. -/
theorem equal_any (w : World) (p p' : Option Addr) (cap cap' : Nat) (A B : List Nd) (hA : A.length ≤ 1353245080300) (ha : Rd w p A) (hb : Rd w p' B) :
    Calls Tryd.prog 31 #[.slice p A.length cap, .slice p' B.length cap', .func (.func 32) #[] #[]] w fun e w' => e = .returned (.bool (sameL A B)) ∧ Below w.heap.size w w' := by
  by_cases hl : B.length = A.length
  · by_cases hne : A = []
    · subst hne
      have hB0 : B = [] := List.length_eq_zero_iff.1 hl
      subst hB0
      have e : sameL [] [] = true := rfl
      rw [e]
      clear ha hb hA hl
      go_enter Tryd.func31, Tryd.ntmps31
      go_wp2
      go_loop [17] (fun v => v = .int .i64 0) (fun _ => 0)
      case atStart => rfl
      case round =>
        subst hrel
        go_wp2
        go_ret
        exact ⟨rfl, Below.refl _ _⟩
    · have hne' : B ≠ [] := fun e => hne (List.length_eq_zero_iff.1 (by rw [← hl, e]; rfl))
      obtain ⟨g, o, rfl, h1⟩ := ha hne
      obtain ⟨g', o', rfl, h2⟩ := hb hne'
      rw [hl]
      exact equal_some w g o cap g' o' cap' A B hA hl h1 h2
  · have e : sameL A B = false := by unfold sameL; rw [decide_eq_false (fun h => hl h.symm)]; rfl
    rw [e]
    have hl' : ((A.length : Int) != (B.length : Int)) = true := by simp; omega
    clear ha hb
    go_enter Tryd.func31, Tryd.ntmps31
    go_wp2
    go_ret
    exact ⟨rfl, Below.refl _ _⟩

end Go.Proofs.YtekgnogjfggnmaaDoor
