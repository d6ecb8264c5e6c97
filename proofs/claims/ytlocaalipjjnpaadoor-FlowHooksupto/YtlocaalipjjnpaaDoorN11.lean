import Derived.BigGuardIn
import Derived.Test.YtlocaalipjjnpaaDoorN10
import Derived.Test.YtlocaalipjjnpaaDoorN05
import Derived.Test.YtlocaalipjjnpaaDoorN00
namespace Go.Proofs.YtlocaalipjjnpaaDoor
open Go.RowKit Go.Shelf
attribute [local go_sem] Oper.semAt_some

theorem box_cell {W : World} {B : Nat} {v : Value} {t : TypeId} (h : W.heap[B]? = some (.cells #[v] t (0, 0))) : W.cell? ⟨B, 0, none⟩ = some v ∧ W.frozen? ⟨B, 0, none⟩ = false :=
  ⟨by simp [World.cell?, h], by simp [World.frozen?, h]⟩
theorem new_cell (W : World) (v : Value) (t : TypeId) : (W.alloc (.cells #[v] t)).cell? ⟨W.heap.size, 0, none⟩ = some v ∧ (W.alloc (.cells #[v] t)).frozen? ⟨W.heap.size, 0, none⟩ = false := box_cell (World.alloc_heap_new W _)

theorem new_cells (W : World) (cs : Array Value) (t : TypeId) (k : Nat) (v : Value) (B : Nat) (hB : B = W.heap.size) (hv : cs[k]? = some v) : (W.alloc (.cells cs t)).cell? ⟨B, k, none⟩ = some v := by
  subst hB
  exact cell_new W cs t k v hv
theorem keeps_below {W W' : World} (h : Below W.heap.size W W') : KeepsOthers W W' :=
  ⟨h.size, fun k o hk _ => by have hl := (Array.getElem?_eq_some_iff.1 hk).1; exact (h.block k hl).trans hk⟩
theorem lay_own {β : Type} (g o : Nat) (L : List Nd) : Own (fun (_ : β) W => Lay W g o L) := fun _ _ _ _ hs hg hr =>
  ⟨Nat.lt_of_lt_of_le hs.lt hg.size, fun i hi j v hv => cell_kept (hs.c i hi j v hv) hg hr⟩
theorem kkeep_own {β : Type} (B g o cap n : Nat) (L : List Nd) : Own (fun (_ : β) W => KKeep B g o cap n L W) := fun s W W' row hs hg hr =>
  ⟨lay_own g o L s W W' row hs.lay hg hr, cell_kept hs.ns hg hr, cell_kept hs.nn hg hr⟩
theorem cell_own {β : Type} (B : Nat) (v : β → Value) : Own (fun (s : β) W => W.cell? ⟨B, 0, none⟩ = some (v s) ∧ W.frozen? ⟨B, 0, none⟩ = false) := fun _ _ _ _ hs hg hr =>
  ⟨cell_kept hs.1 hg hr, (frozen_kept hs.1 hg hr).trans hs.2⟩
theorem pure_own {β : Type} (q : β → Prop) : Own (fun (s : β) (_ : World) => q s) := fun _ _ _ _ hs _ _ => hs

theorem cell_set {w : World} {C : Nat} (v : Value) {a : Addr} (h : a.block ≠ C) : (w.setCell ⟨C, 0, none⟩ v).cell? a = w.cell? a :=
  World.cell?_setCell_other _ _ _ _ (fun e => h (by cases e; rfl))
theorem size_set (w : World) (a : Addr) (v : Value) : (w.setCell a v).heap.size = w.heap.size := by show (w.heap.modify _ _).size = _; rw [Array.size_modify]
theorem Lay.set {w : World} {g o C : Nat} {L : List Nd} (h : Lay w g o L) (v : Value) (hg : g ≠ C) : Lay (w.setCell ⟨C, 0, none⟩ v) g o L :=
  ⟨by rw [size_set]; exact h.lt, fun i hi j u hu => (cell_set v (a := ⟨g, o + i * 9 + j, none⟩) hg).trans (h.c i hi j u hu)⟩
theorem KKeep.set {B g o cap n C : Nat} {L : List Nd} {w : World} (h : KKeep B g o cap n L w) (v : Value) (hg : g ≠ C) (h1 : B ≠ C) (h2 : B + 1 ≠ C) : KKeep B g o cap n L (w.setCell ⟨C, 0, none⟩ v) :=
  ⟨h.lay.set v hg, (cell_set v (a := ⟨B, 0, none⟩) h1).trans h.ns, (cell_set v (a := ⟨B + 1, 0, none⟩) h2).trans h.nn⟩

theorem ret51 {tm : Array Value} {B D : Nat} {W : World} {b : Bool} {R : Ending → World → Prop} (hc : W.cell? ⟨B, 0, none⟩ = some (.bool b)) (h6 : tm[6]?.getD undef = .pointer (some ⟨B, 0, none⟩)) (hK : W.heap[D]? = some (.deferred (some [])))
    (hR : R (.returned (.bool b)) (W.putObj D (.deferred none))) : bodyPostM Fence.wide 6 Tryd.prog Tryd.f76 R Exit.ret { tmps := tm, defers := [{ target := .collected D, args := #[] }] } W := by
  refine ⟨by simp, .inl ⟨_, _, rfl, run_takeDeferred hK, ?_⟩⟩
  have e0 := cell_kept hc (grownBy_putObj' _ D (.deferred none)) (fun r e => by cases e; exact ⟨_, hK, rfl⟩)
  refine ⟨.bool b, ?_, hR⟩
  simp [results, Tryd.results76, go_sem, h6, e0]

/-- What the kids so far say. -/
structure KPre (L : List Nd) (n E : Nat) (pre : List Nat) : Prop where
  len : pre.length + n + 1 ≤ posK L n pre
  le : posK L n pre ≤ E
  cnt : kidw L n E (L.length + 1) (n + 1) 0 = kidw L n E (L.length + 1 - pre.length) (posK L n pre) pre.length
  last : ∀ q x, pre = q ++ [x] → 1 ≤ sz L x ∧ (x : Int) + sz L x ≤ (E : Int)
theorem KPre.nil (L : List Nd) (n E : Nat) (h : n < E) : KPre L n E [] := ⟨by simp [posK], by simp [posK]; omega, by simp [posK], fun q x e => by simp at e⟩
theorem KPre.snoc {L : List Nd} {n E : Nat} {pre : List Nat} (h : KPre L n E pre) (hE : E ≤ L.length) (hlt : posK L n pre < E) (h1 : 1 ≤ sz L (posK L n pre)) (h2 : (posK L n pre : Int) + sz L (posK L n pre) ≤ (E : Int)) (hm : may L n (posK L n pre) pre.length = true) : KPre L n E (pre ++ [posK L n pre]) := by
  have := h.len
  refine ⟨by rw [posK_snoc]; simp; omega, by rw [posK_snoc]; omega, ?_, fun q x e => ?_⟩
  · rw [h.cnt, show L.length + 1 - pre.length = (L.length - pre.length) + 1 by omega]
    show (if E ≤ posK L n pre then _ else _) = _
    rw [if_neg (by omega), if_neg (by rw [hm]; simp; omega), posK_snoc]
    simp only [List.length_append, List.length_cons, List.length_nil]
    congr 1
    omega
  · obtain ⟨rfl, rfl⟩ : pre = q ∧ posK L n pre = x := by
      have := List.append_inj' e rfl
      exact ⟨this.1, by simpa using this.2⟩
    exact ⟨h1, h2⟩
theorem KPre.stop {L : List Nd} {n E : Nat} {pre : List Nat} (h : KPre L n E pre) (hE : E ≤ L.length) (hlt : posK L n pre < E) (hb : sz L (posK L n pre) < 1 ∨ (E : Int) - posK L n pre < sz L (posK L n pre) ∨ may L n (posK L n pre) pre.length = false) : kidw L n E (L.length + 1) (n + 1) 0 = none := by
  have := h.len
  rw [h.cnt, show L.length + 1 - pre.length = (L.length - pre.length) + 1 by omega]
  show (if E ≤ posK L n pre then _ else _) = _
  rw [if_neg (by omega), if_pos hb]
theorem KPre.done {L : List Nd} {n E : Nat} {pre : List Nat} (h : KPre L n E pre) (hE : E ≤ L.length) (hd : E ≤ posK L n pre) : kidw L n E (L.length + 1) (n + 1) 0 = some pre.length := by
  have := h.len
  have := h.le
  rw [h.cnt, show L.length + 1 - pre.length = (L.length - pre.length) + 1 by omega]
  show (if E ≤ posK L n pre then _ else _) = _
  rw [if_pos hd]

set_option maxRecDepth 100000 in
set_option maxHeartbeats 4000000 in
theorem kidsFit_any (s : Shp) (w : World) (g o cap : Nat) (L : List Nd) (n : Nat) (hL : L.length ≤ 1353245080300) (hn : n < L.length) (hg : Good L n) (h : Hid (Lay w g o L)) :
    Calls Tryd.prog 76 #[.agg (shpV s), .slice (some ⟨g, o, none⟩) L.length cap, .int .i64 (n : Int)] w fun e w' => e = .returned (.bool (kidsS L s n)) ∧ Below w.heap.size w w' := by
  obtain ⟨r, hr⟩ : ∃ r, kidsS L s n = r := ⟨_, rfl⟩
  have HR : Hid (kidsS L s n = r) := hr
  rw [hr]
  clear hr
  obtain ⟨l1, n1, t1, li, mi, fo, lo, lg, fw, mo⟩ := s
  simp only [shpV]
  obtain ⟨g1, g2⟩ := hg
  have he : (endOf L n : Int) = n + sz L n := by unfold endOf; omega
  have hs := h.out.size hn
  have hlt := h.out.lt
  have i0 : (0 : Int) ≤ (n : Int) := by omega
  have i1 : (n : Int) < (L.length : Int) := by omega
  have hE : endOf L n ≤ L.length := by omega
  have hnE : n < endOf L n := by omega
  rw [show (nd L n).size = (endOf L n : Int) - n by show sz L n = _; omega] at hs
  have HEE : Hid (endOf L n = endOf L n) := rfl
  generalize hEq : endOf L n = E at *
  have HE : Hid (endOf L n = E) := hEq
  have HG : Hid (1 ≤ sz L n ∧ (n : Int) + sz L n ≤ (L.length : Int)) := ⟨g1, g2⟩
  clear HEE hEq he g1 g2
  obtain ⟨w4, hw4⟩ : ∃ w4, (((w.alloc (.cells #[.int .i64 l1, .int .i64 n1, .int .i64 t1, .int .i64 li, .int .i64 mi, .int .i64 fo, .int .i64 lo, .int .i64 lg, .int .i64 fw, .int .i64 mo] 102)).alloc (.cells #[.slice (some ⟨g, o, none⟩) L.length cap] 22)).alloc (.cells #[.int .i64 (n : Int)] 3)).alloc (.cells #[.bool false] 4) = w4 := ⟨_, rfl⟩
  have z4 : w4.heap.size = w.heap.size + 4 := by rw [← hw4]; simp
  have b4 : Below w.heap.size w w4 := by
    rw [← hw4]
    exact ((((Below.refl _ w).alloc (Nat.le_refl _) _).alloc (by simp) _).alloc (by simp; omega) _).alloc (by simp; omega) _
  have k8 : w4.cell? ⟨w.heap.size, 8, none⟩ = some (.int .i64 fw) := by
    rw [← hw4]
    exact cell_old _ (cell_old _ (cell_old _ (cell_new _ _ _ _ _ rfl)))
  have k9 : w4.cell? ⟨w.heap.size, 9, none⟩ = some (.int .i64 mo) := by
    rw [← hw4]
    exact cell_old _ (cell_old _ (cell_old _ (cell_new _ _ _ _ _ rfl)))
  have k1 : w4.cell? ⟨w.heap.size + 1, 0, none⟩ = some (.slice (some ⟨g, o, none⟩) L.length cap) := by
    rw [← hw4]
    refine cell_old _ (cell_old _ ?_)
    have := cell_new (w.alloc (.cells #[.int .i64 l1, .int .i64 n1, .int .i64 t1, .int .i64 li, .int .i64 mi, .int .i64 fo, .int .i64 lo, .int .i64 lg, .int .i64 fw, .int .i64 mo] 102)) #[.slice (some ⟨g, o, none⟩) L.length cap] 22 0 _ rfl
    rwa [World.size_alloc] at this
  have k2 : w4.cell? ⟨w.heap.size + 2, 0, none⟩ = some (.int .i64 (n : Int)) := by
    rw [← hw4]
    refine cell_old _ ?_
    have := cell_new ((w.alloc (.cells #[.int .i64 l1, .int .i64 n1, .int .i64 t1, .int .i64 li, .int .i64 mi, .int .i64 fo, .int .i64 lo, .int .i64 lg, .int .i64 fw, .int .i64 mo] 102)).alloc (.cells #[.slice (some ⟨g, o, none⟩) L.length cap] 22)) #[.int .i64 (n : Int)] 3 0 _ rfl
    rwa [World.size_alloc, World.size_alloc] at this
  have k3 : w4.cell? ⟨w.heap.size + 3, 0, none⟩ = some (.bool false) ∧ w4.frozen? ⟨w.heap.size + 3, 0, none⟩ = false := by
    rw [← hw4]
    have := new_cell (((w.alloc (.cells #[.int .i64 l1, .int .i64 n1, .int .i64 t1, .int .i64 li, .int .i64 mi, .int .i64 fo, .int .i64 lo, .int .i64 lg, .int .i64 fw, .int .i64 mo] 102)).alloc (.cells #[.slice (some ⟨g, o, none⟩) L.length cap] 22)).alloc (.cells #[.int .i64 (n : Int)] 3)) (.bool false) 4
    rwa [World.size_alloc, World.size_alloc, World.size_alloc] at this
  have hs4 := (b4.cell (p := ⟨g, o + n * 9 + 8, none⟩) hlt).trans hs
  have hg4 : g < w4.heap.size := by omega
  have hs5 : ∀ v, (w4.alloc (.cells #[v] 3)).drew.cell? ⟨g, o + n * 9 + 8, none⟩ = some (.int .i64 ((E : Int) - n)) := fun v => cell_old _ hs4
  have hs6 : ∀ v, (w4.alloc (.cells #[v] 3)).cell? ⟨g, o + n * 9 + 8, none⟩ = some (.int .i64 ((E : Int) - n)) := fun v => cell_old _ hs4
  refine (callsIn_wide (n := 6)).1 ?_
  refine callsIn_of_wp_marks Tryd.func76 rfl trivial ?_ rfl
  simp only [Tryd.ntmps76, List.size_toArray, List.length_cons, List.length_nil, Nat.reduceAdd, Nat.reduceSub, Array.replicate_succ, Array.replicate_zero, List.push_toArray, List.append_toArray, List.nil_append, List.cons_append]
  gi_wp2
  gi_region
  rw [show (n : Int) + ((E : Int) - n) = (E : Int) by omega]
  clear hw4
  obtain ⟨w5, hw5⟩ : ∃ w5, (w4.alloc (.cells #[.int .i64 (E : Int)] 3)).drew = w5 := ⟨_, rfl⟩
  have z5 : w5.heap.size = w.heap.size + 5 := by rw [← hw5]; show (w4.alloc _).heap.size = _; rw [World.size_alloc, z4]
  have b5 : Below w4.heap.size w4 w5 := by rw [← hw5]; exact ((Below.refl _ w4).alloc (Nat.le_refl _) _).drew
  have m4 : w5.cell? ⟨w.heap.size + 4, 0, none⟩ = some (.int .i64 (E : Int)) := by
    rw [← hw5, ← z4]
    exact (new_cell w4 (.int .i64 (E : Int)) 3).1
  have m1 := (b5.cell (p := ⟨w.heap.size + 1, 0, none⟩) (by show w.heap.size + 1 < _; omega)).trans k1
  have m2 := (b5.cell (p := ⟨w.heap.size + 2, 0, none⟩) (by show w.heap.size + 2 < _; omega)).trans k2
  rw [hw5]
  clear hw5 hs5 hs6 hs4 hs
  gi_wp2_with (refine ⟨trivial, ?_⟩; gi_at_call 87; refine (callsIn_wide.2 (kidsOf_any _ _ _ _ _)).mono ?_; rintro e w' ⟨rfl, rfl⟩)
  have zc : (((w5.alloc (.cells #[.int .i64 0] 3)).alloc (.cells #[.slice (some ⟨g, o, none⟩) L.length cap] 22)).alloc (.cells #[.int .i64 (n : Int)] 3)).heap.size = w.heap.size + 8 := by simp [z5]
  have bc : Below w5.heap.size w5 (((w5.alloc (.cells #[.int .i64 0] 3)).alloc (.cells #[.slice (some ⟨g, o, none⟩) L.length cap] 22)).alloc (.cells #[.int .i64 (n : Int)] 3)) :=
    (((Below.refl _ w5).alloc (Nat.le_refl _) _).alloc (by simp) _).alloc (by simp; omega) _
  have cc : (((w5.alloc (.cells #[.int .i64 0] 3)).alloc (.cells #[.slice (some ⟨g, o, none⟩) L.length cap] 22)).alloc (.cells #[.int .i64 (n : Int)] 3)).cell? ⟨w.heap.size + 5, 0, none⟩ = some (.int .i64 ((([] : List Nat).length : Nat) : Int)) ∧ (((w5.alloc (.cells #[.int .i64 0] 3)).alloc (.cells #[.slice (some ⟨g, o, none⟩) L.length cap] 22)).alloc (.cells #[.int .i64 (n : Int)] 3)).frozen? ⟨w.heap.size + 5, 0, none⟩ = false := by
    have := new_cell w5 (.int .i64 0) 3
    rw [z5] at this
    have b2 : Below (w.heap.size + 6) (w5.alloc (.cells #[.int .i64 0] 3)) (((w5.alloc (.cells #[.int .i64 0] 3)).alloc (.cells #[.slice (some ⟨g, o, none⟩) L.length cap] 22)).alloc (.cells #[.int .i64 (n : Int)] 3)) :=
      ((Below.refl _ _).alloc (by simp [z5]) _).alloc (by simp [z5]) _
    exact ⟨(b2.cell (p := ⟨w.heap.size + 5, 0, none⟩) (by show w.heap.size + 5 < _; omega)).trans this.1, (b2.frozen (p := ⟨w.heap.size + 5, 0, none⟩) (by show w.heap.size + 5 < _; omega)).trans this.2⟩
  have kc : KKeep (w.heap.size + 6) g o cap n L (((w5.alloc (.cells #[.int .i64 0] 3)).alloc (.cells #[.slice (some ⟨g, o, none⟩) L.length cap] 22)).alloc (.cells #[.int .i64 (n : Int)] 3)) :=
    ⟨((h.out.next b4).next b5).next bc, cell_old _ (new_cells _ _ _ _ _ _ (by simp [z5]) rfl), new_cells _ _ _ _ _ _ (by simp [z5]) rfl⟩
  have bw : Below w.heap.size w (((w5.alloc (.cells #[.int .i64 0] 3)).alloc (.cells #[.slice (some ⟨g, o, none⟩) L.length cap] 22)).alloc (.cells #[.int .i64 (n : Int)] 3)) := (b4.trans (b5.mono (by omega))).trans (bc.mono (by omega))
  have HM1 := (bc.cell (p := ⟨w.heap.size + 1, 0, none⟩) (by show w.heap.size + 1 < _; omega)).trans m1
  have HM2 := (bc.cell (p := ⟨w.heap.size + 2, 0, none⟩) (by show w.heap.size + 2 < _; omega)).trans m2
  have HM4 := (bc.cell (p := ⟨w.heap.size + 4, 0, none⟩) (by show w.heap.size + 4 < _; omega)).trans m4
  have HK3 := ((bc.cell (p := ⟨w.heap.size + 3, 0, none⟩) (by show w.heap.size + 3 < _; omega)).trans (b5.cell (p := ⟨w.heap.size + 3, 0, none⟩) (by show w.heap.size + 3 < _; omega))).trans k3.1
  have HF3 := ((bc.frozen (p := ⟨w.heap.size + 3, 0, none⟩) (by show w.heap.size + 3 < _; omega)).trans (b5.frozen (p := ⟨w.heap.size + 3, 0, none⟩) (by show w.heap.size + 3 < _; omega))).trans k3.2
  have HK8 := ((bc.cell (p := ⟨w.heap.size, 8, none⟩) (by show w.heap.size < _; omega)).trans (b5.cell (p := ⟨w.heap.size, 8, none⟩) (by show w.heap.size < _; omega))).trans k8
  have HK9 := ((bc.cell (p := ⟨w.heap.size, 9, none⟩) (by show w.heap.size < _; omega)).trans (b5.cell (p := ⟨w.heap.size, 9, none⟩) (by show w.heap.size < _; omega))).trans k9
  clear m1 m2 m4 k1 k2 k3 k8 k9 b4 b5 bc hg4
  generalize hwc : ((w5.alloc (.cells #[.int .i64 0] 3)).alloc (.cells #[.slice (some ⟨g, o, none⟩) L.length cap] 22)).alloc (.cells #[.int .i64 (n : Int)] 3) = wc at *
  clear hwc z4 z5 w4 w5
  refine wpIn_range_guard rfl (by omega) (gf := 92) (lb := #[.pointer (some ⟨w.heap.size + 6 + 1, 0, none⟩), .pointer (some ⟨w.heap.size + 6, 0, none⟩)]) rfl trivial (enters_of Tryd.func92 (by kernel_rfl) rfl)
    (kids_seq 5 (by omega) (w.heap.size + 6) g o cap n L wc hL hn HG.out kc (by omega)) (Below.refl _ _) (fun _ => rfl)
    (fun pre W => ((W.cell? ⟨w.heap.size + 5, 0, none⟩ = some (.int .i64 (pre.length : Nat)) ∧ W.frozen? ⟨w.heap.size + 5, 0, none⟩ = false) ∧ KKeep (w.heap.size + 6) g o cap n L W ∧ KPre L n E pre) ∧ Below (w.heap.size + 5) wc W)
    (fun c pre W => ((c = .ret ∧ r = false) ∧ (W.cell? ⟨w.heap.size + 3, 0, none⟩ = some (.bool false) ∧ W.frozen? ⟨w.heap.size + 3, 0, none⟩ = false)) ∧ Below (w.heap.size + 3) wc W)
    (OwnFrom.and (Own.from (fun s A B row hs hg hr => ⟨cell_own _ (fun s : List Nat => .int .i64 (s.length : Nat)) s A B row hs.1 hg hr, kkeep_own _ _ _ _ _ _ s A B row hs.2.1 hg hr, hs.2.2⟩) _) (ownFrom_below (by omega) (by omega)))
    (fun c => OwnFrom.and (Own.from (fun s A B row hs hg hr => ⟨hs.1, cell_own _ (fun _ : List Nat => .bool false) s A B row hs.2 hg hr⟩) _) (ownFrom_below (by omega) (by omega)))
    ⟨⟨cc, kc, KPre.nil L n E hnE⟩, Below.refl _ _⟩ (fun pre W hI => hI.1.2.1) (fun pre x W hI => by rw [HE.out]; exact hI.1.2.2.last pre x rfl)
    (fun x => { tmps := #[.agg #[.int .i64 l1, .int .i64 n1, .int .i64 t1, .int .i64 li, .int .i64 mi, .int .i64 fo, .int .i64 lo, .int .i64 lg, .int .i64 fw, .int .i64 mo], .slice (some ⟨g, o, none⟩) L.length cap, .int .i64 (n : Int), .pointer (some ⟨w.heap.size, 0, none⟩), .pointer (some ⟨w.heap.size + 1, 0, none⟩), .pointer (some ⟨w.heap.size + 1 + 1, 0, none⟩), .pointer (some ⟨w.heap.size + 1 + 1 + 1, 0, none⟩), .pointer (some ⟨w.heap.size + 4, 0, none⟩), .pointer (some ⟨w.heap.size + 5, 0, none⟩), .int .i64 (x : Int), undef, .int .i64 (n : Int), .slice (some ⟨g, o, none⟩) L.length cap, .int .i64 (n : Int), .pointer (some ⟨g, o + n * 9, none⟩), .pointer (some ⟨g, o + n * 9 + 8, none⟩), .int .i64 ((E : Int) - n), .int .i64 (E : Int), .slice (some ⟨g, o, none⟩) L.length cap, .int .i64 (n : Int), .func (.func 92) #[] #[.pointer (some ⟨w.heap.size + 5 + 1 + 1, 0, none⟩), .pointer (some ⟨w.heap.size + 5 + 1, 0, none⟩)], .int .i64 (x : Int), undef, undef, undef, undef, undef, undef, undef, undef, undef, undef, undef, undef, undef, undef, undef, undef, undef, undef, undef, undef, undef, undef, undef, undef, undef, undef, undef, undef, undef, undef, undef, undef, undef, undef], defers := [] }) ?assign ?body ?done ?stop
  case assign =>
    intro l x W K hK
    gi_wp2
    simpa [encK] using hK
  case body =>
    rintro l pre x W ⟨⟨⟨hc, hf⟩, hk, hp⟩, hB⟩ ⟨hx, hxE⟩
    rw [HE.out] at hxE
    have hxl : x < L.length := by omega
    have hpl := hp.len
    have hple := hp.le
    have c1 := (hB.cell (p := ⟨w.heap.size + 1, 0, none⟩) (by show w.heap.size + 1 < _; omega)).trans HM1
    have c2 := (hB.cell (p := ⟨w.heap.size + 2, 0, none⟩) (by show w.heap.size + 2 < _; omega)).trans HM2
    have c3 := (hB.cell (p := ⟨w.heap.size + 3, 0, none⟩) (by show w.heap.size + 3 < _; omega)).trans HK3
    have f3 := (hB.frozen (p := ⟨w.heap.size + 3, 0, none⟩) (by show w.heap.size + 3 < _; omega)).trans HF3
    have c4 := (hB.cell (p := ⟨w.heap.size + 4, 0, none⟩) (by show w.heap.size + 4 < _; omega)).trans HM4
    have hsx := hk.lay.size hxl
    have HLay : Hid (Lay W g o L) := hk.lay
    have HKK : Hid (KKeep (w.heap.size + 6) g o cap n L W) := hk
    have HPP : Hid (KPre L n E pre) := hp
    have j0 : (0 : Int) ≤ (x : Int) := by omega
    have j1 : (x : Int) < (L.length : Int) := by omega
    have hstop : (sz L x < 1 ∨ (E : Int) - x < sz L x ∨ may L n x pre.length = false) → r = false := fun hb => by
      rw [← HR.out]
      unfold kidsS
      rw [HE.out, hp.stop hE (by omega) (by rw [← hx]; exact hb)]
    have HST : Hid ((sz L x < 1 ∨ (E : Int) - x < sz L x ∨ may L n x pre.length = false) → r = false) := hstop
    have HBB : Hid (Below (w.heap.size + 5) wc W) := hB
    have fin : ∀ W1 : World, Below W.heap.size W W1 → r = false → ownPost (fun pre W => ((W.cell? ⟨w.heap.size + 5, 0, none⟩ = some (.int .i64 (pre.length : Nat)) ∧ W.frozen? ⟨w.heap.size + 5, 0, none⟩ = false) ∧ KKeep (w.heap.size + 6) g o cap n L W ∧ KPre L n E pre) ∧ Below (w.heap.size + 5) wc W)
        (fun c pre W => ((c = .ret ∧ r = false) ∧ (W.cell? ⟨w.heap.size + 3, 0, none⟩ = some (.bool false) ∧ W.frozen? ⟨w.heap.size + 3, 0, none⟩ = false)) ∧ Below (w.heap.size + 3) wc W) (pre ++ [x]) W Exit.ret { tmps := #[], defers := [] } (W1.setCell ⟨w.heap.size + 3, 0, none⟩ (.bool false)) := fun W1 hb1 hr => by
      have hW : w.heap.size + 8 ≤ W.heap.size := by rw [← zc]; exact hB.size
      have q3 := (hb1.cell (p := ⟨w.heap.size + 3, 0, none⟩) (by show w.heap.size + 3 < _; omega)).trans c3
      have q4 := (hb1.frozen (p := ⟨w.heap.size + 3, 0, none⟩) (by show w.heap.size + 3 < _; omega)).trans f3
      exact ⟨(keeps_below hb1).trans (KeepsOthers.setCell _ _ _), ⟨⟨rfl, hr⟩, World.cell?_setCell_same' _ _ _ (by rw [q3]; rfl), by rw [World.frozen?_setCell]; exact q4⟩, ((hB.mono (show w.heap.size + 3 ≤ w.heap.size + 5 by omega)).trans (hb1.mono (show w.heap.size + 3 ≤ W.heap.size by omega))).setCell (p := ⟨w.heap.size + 3, 0, none⟩) (Nat.le_refl _) _⟩
    have FIN : Hid (∀ W1 : World, Below W.heap.size W W1 → r = false → ownPost (fun pre W => ((W.cell? ⟨w.heap.size + 5, 0, none⟩ = some (.int .i64 (pre.length : Nat)) ∧ W.frozen? ⟨w.heap.size + 5, 0, none⟩ = false) ∧ KKeep (w.heap.size + 6) g o cap n L W ∧ KPre L n E pre) ∧ Below (w.heap.size + 5) wc W)
        (fun c pre W => ((c = .ret ∧ r = false) ∧ (W.cell? ⟨w.heap.size + 3, 0, none⟩ = some (.bool false) ∧ W.frozen? ⟨w.heap.size + 3, 0, none⟩ = false)) ∧ Below (w.heap.size + 3) wc W) (pre ++ [x]) W Exit.ret { tmps := #[], defers := [] } (W1.setCell ⟨w.heap.size + 3, 0, none⟩ (.bool false))) := fin
    have HX : Hid (x = posK L n pre) := hx
    have HC : Hid (pre.length ≤ 1353245080300) := by show _ ≤ _; omega
    have hW8 : w.heap.size + 8 ≤ W.heap.size := by rw [← zc]; exact hB.size
    clear hp hk hB HM1 HM2 HM4 HK3 HF3 HK8 HK9 bw kc cc hstop fin hx hpl hple zc
    by_cases q1 : sz L x < 1
    · have HRF : Hid (r = false) := HST.out (.inl q1)
      have q1' : (nd L x).size < 1 := q1
      clear HST q1
      generalize (nd L x).size = v at *
      gi_wp2_with (refine ⟨trivial, ?_⟩)
      exact FIN.out W (Below.refl _ _) HRF.out
    · by_cases q2 : (E : Int) - x < sz L x
      · have HRF : Hid (r = false) := HST.out (.inr (.inl q2))
        have q1' : ¬ (nd L x).size < 1 := q1
        have q2' : (E : Int) - x < (nd L x).size := q2
        clear HST q1 q2
        generalize (nd L x).size = v at *
        gi_wp2_with (refine ⟨trivial, ?_⟩)
        exact FIN.out W (Below.refl _ _) HRF.out
      · have HMS := mayStand_any W g o cap L n x pre.length hL hn hxl HG.out ⟨by omega, by omega⟩ HC.out HLay
        have HGX : Hid (1 ≤ sz L x ∧ (x : Int) + sz L x ≤ (E : Int)) := ⟨by omega, by omega⟩
        have q1' : ¬ (nd L x).size < 1 := q1
        have q2' : ¬ (E : Int) - x < (nd L x).size := q2
        clear q1 q2
        obtain ⟨b, hb⟩ : ∃ b, may L n x pre.length = b := ⟨_, rfl⟩
        rw [hb] at HMS HST
        have HMB : Hid (may L n x pre.length = b) := hb
        have HMS' : Hid (Calls Tryd.prog 88 #[.slice (some ⟨g, o, none⟩) L.length cap, .int .i64 (n : Int), .int .i64 (x : Int), .int .i64 (pre.length : Int)] W fun e w' => e = .returned (.bool b) ∧ Below W.heap.size W w') := HMS
        clear hb HMS
        obtain ⟨v, hv⟩ : ∃ v, (nd L x).size = v := ⟨_, rfl⟩
        rw [hv] at hsx q1' q2'
        clear hv
        cases b with
        | false =>
          have HRF : Hid (r = false) := HST.out (.inr (.inr rfl))
          clear HST
          gi_wp2_with (refine ⟨trivial, ?_⟩; gi_at_call 88; refine (callsIn_wide.2 HMS'.out).mono ?_; rintro e W1 ⟨rfl, hb1⟩; have p3 := (hb1.cell (p := ⟨w.heap.size + 3, 0, none⟩) (by show w.heap.size + 3 < _; omega)).trans c3; have p4 := (hb1.frozen (p := ⟨w.heap.size + 3, 0, none⟩) (by show w.heap.size + 3 < _; omega)).trans f3)
          exact FIN.out W1 hb1 HRF.out
        | true =>
          gi_wp2_with (refine ⟨trivial, ?_⟩; gi_at_call 88; refine (callsIn_wide.2 HMS'.out).mono ?_; rintro e W1 ⟨rfl, hb1⟩; have p3 := (hb1.cell (p := ⟨w.heap.size + 5, 0, none⟩) (by show w.heap.size + 5 < _; omega)).trans hc; have p4 := (hb1.frozen (p := ⟨w.heap.size + 5, 0, none⟩) (by show w.heap.size + 5 < _; omega)).trans hf; have HC' := HC.out)
          have hb2 : Below (w.heap.size + 5) W (W1.setCell ⟨w.heap.size + 5, 0, none⟩ (.int .i64 ((pre.length : Int) + 1))) := (hb1.mono (show w.heap.size + 5 ≤ W.heap.size by omega)).setCell (p := ⟨w.heap.size + 5, 0, none⟩) (Nat.le_refl _) _
          have hlt := HLay.out.lt
          have hxx := HX.out
          refine ⟨(keeps_below hb1).trans (KeepsOthers.setCell _ _ _), ⟨⟨?_, by rw [World.frozen?_setCell]; exact p4⟩, ?_, ?_⟩, HBB.out.trans hb2⟩
          · rw [show ((pre ++ [x]).length : Int) = (pre.length : Int) + 1 from by simp]
            exact World.cell?_setCell_same' _ _ _ (by rw [p3]; rfl)
          · exact (HKK.out.below hb1 (by omega) hlt hb1.size).set _ (by omega) (by omega) (by omega)
          · rw [hxx]
            refine HPP.out.snoc hE (by omega) ?_ ?_ ?_
            · rw [← hxx]; exact HGX.out.1
            · rw [← hxx]; exact HGX.out.2
            · rw [← hxx]; exact HMB.out
  case done =>
    rintro D ys W hD hS ⟨⟨⟨hc, hf⟩, hk, hp⟩, hB⟩ hK
    rw [HE.out] at hS
    have hrr : r = (decide (fw ≤ (ys.length : Int)) && decide ((ys.length : Int) ≤ mo)) := by
      rw [← HR.out]
      unfold kidsS
      rw [HE.out, hp.done hE hS]
    have c3 := (hB.cell (p := ⟨w.heap.size + 3, 0, none⟩) (by show w.heap.size + 3 < _; omega)).trans HK3
    have f3 := (hB.frozen (p := ⟨w.heap.size + 3, 0, none⟩) (by show w.heap.size + 3 < _; omega)).trans HF3
    have c8 := (hB.cell (p := ⟨w.heap.size, 8, none⟩) (by show w.heap.size < _; omega)).trans HK8
    have c9 := (hB.cell (p := ⟨w.heap.size, 9, none⟩) (by show w.heap.size < _; omega)).trans HK9
    have HRR : Hid (r = (decide (fw ≤ (ys.length : Int)) && decide ((ys.length : Int) ≤ mo))) := hrr
    clear hrr hk hp
    have HBW : Hid (Below w.heap.size w W) := bw.trans (hB.mono (by omega))
    have hK' : ∀ b : Bool, (W.setCell ⟨w.heap.size + 3, 0, none⟩ (.bool b)).heap[D]? = some (.deferred (some [])) := fun b => (KeepsOthers.setCell W ⟨w.heap.size + 3, 0, none⟩ (.bool b)).same D _ hK rfl
    have hq' : ∀ b : Bool, (W.setCell ⟨w.heap.size + 3, 0, none⟩ (.bool b)).cell? ⟨w.heap.size + 3, 0, none⟩ = some (.bool b) := fun b => World.cell?_setCell_same' _ _ _ (by rw [c3]; rfl)
    have hR' : ∀ b : Bool, r = b → (Ending.returned (.bool b) = .returned (.bool r) ∧ Below w.heap.size w ((W.setCell ⟨w.heap.size + 3, 0, none⟩ (.bool b)).putObj D (.deferred none))) := fun b hb =>
      ⟨by rw [hb], (HBW.out.setCell (p := ⟨w.heap.size + 3, 0, none⟩) (by show w.heap.size ≤ w.heap.size + 3; omega) _).trans (belowK_b (w := w) (Nat.le_refl _) _ D _ _ (by omega) (hK' b) rfl rfl)⟩
    have HK' : Hid (∀ b : Bool, (W.setCell ⟨w.heap.size + 3, 0, none⟩ (.bool b)).heap[D]? = some (.deferred (some []))) := hK'
    have HQ' : Hid (∀ b : Bool, (W.setCell ⟨w.heap.size + 3, 0, none⟩ (.bool b)).cell? ⟨w.heap.size + 3, 0, none⟩ = some (.bool b)) := hq'
    have HR' : Hid (∀ b : Bool, r = b → (Ending.returned (.bool b) = .returned (.bool r) ∧ Below w.heap.size w ((W.setCell ⟨w.heap.size + 3, 0, none⟩ (.bool b)).putObj D (.deferred none)))) := hR'
    clear hK' hq' hR' hS hB bw
    gi_wp2
    · exact ret51 (HQ'.out _) rfl (HK'.out _) (HR'.out _ (by rw [HRR.out]; simp_all))
    · exact ret51 (HQ'.out _) rfl (HK'.out _) (HR'.out _ (by rw [HRR.out, decide_eq_false (by omega), Bool.false_and]))
  case stop =>
    rintro D c pre W hD ⟨⟨⟨rfl, hr⟩, hc, hf⟩, hB⟩ hK
    have HRF : Hid (r = false) := hr
    clear hr
    gi_wp2
    refine ret51 hc rfl hK ⟨by rw [HRF.out], (bw.trans (hB.mono (by omega))).trans (belowK_b (w := w) (Nat.le_refl _) _ D _ _ (by omega) hK rfl rfl)⟩

end Go.Proofs.YtlocaalipjjnpaaDoor

namespace Go.Proofs.YtlocaalipjjnpaaDoor
open Go.RowKit

/-- A list of nodes, as a slice's address has it. -/
def Rd (w : World) (p : Option Addr) (L : List Nd) : Prop := L ≠ [] → ∃ g o, p = some ⟨g, o, none⟩ ∧ Lay w g o L
theorem Rd.next {w w' : World} {p : Option Addr} {L : List Nd} (h : Rd w p L) (hb : Below w.heap.size w w') : Rd w' p L := fun hn => by
  obtain ⟨g, o, e, hl⟩ := h hn
  exact ⟨g, o, e, hl.next hb⟩

/-- Texts that are not too long. -/
structure Fine (L : List Nd) : Prop where
  len : L.length ≤ 1353245080300
  txt : ∀ i, i < L.length → (nd L i).name.size ≤ 140737488355328 ∧ (nd L i).label.size ≤ 140737488355328 ∧ (nd L i).typ.size ≤ 140737488355328 ∧ (nd L i).text.size ≤ 140737488355328

theorem tree_false {L : List Nd} {k : Nat} (hk : k < L.length) (h : fit nameS typeS L k = false) : treeS nameS typeS L = false := by
  unfold treeS
  rw [Bool.and_eq_false_iff]
  right
  rw [List.all_eq_false]
  exact ⟨k, List.mem_range.2 hk, by simp [h]⟩
theorem tree_true {L : List Nd} (h0 : headS L = true) (h : ∀ m, m < L.length → fit nameS typeS L m = true) : treeS nameS typeS L = true := by
  unfold treeS
  rw [Bool.and_eq_true, List.all_eq_true]
  exact ⟨h0, fun x hx => h x (List.mem_range.1 hx)⟩

def KwAt (w : World) : Prop := w.rangeAt 1 0 kwCells ∧ 2 ≤ w.heap.size
theorem KwAt.next {w w' : World} (h : KwAt w) (hb : Below w.heap.size w w') : KwAt w' :=
  ⟨fun j v hv => (hb.cell (p := ⟨1, 0 + j, none⟩) (by show 1 < _; have := h.2; omega)).trans (h.1 j v hv), Nat.le_trans h.2 hb.size⟩

theorem shapeOf_lit (k : Int) (w : World) : ∃ (l1 n1 t1 li mi fo lo lg fw mo : Int) (kn : Bool), shp k = (⟨l1, n1, t1, li, mi, fo, lo, lg, fw, mo⟩, kn) ∧ Calls Tryd.prog 74 #[.int .i64 k] w fun e w' => e = .returned (.tuple #[.agg #[.int .i64 l1, .int .i64 n1, .int .i64 t1, .int .i64 li, .int .i64 mi, .int .i64 fo, .int .i64 lo, .int .i64 lg, .int .i64 fw, .int .i64 mo], .bool kn]) ∧ Below w.heap.size w w' := by
  have h := shapeOf_any k w
  obtain ⟨x, hx⟩ : ∃ x, shp k = x := ⟨_, rfl⟩
  rw [hx] at h
  obtain ⟨⟨l1, n1, t1, li, mi, fo, lo, lg, fw, mo⟩, kn⟩ := x
  exact ⟨l1, n1, t1, li, mi, fo, lo, lg, fw, mo, kn, hx, h⟩

set_option maxRecDepth 100000 in
set_option maxHeartbeats 1000000 in
theorem isTree_some (w : World) (g o cap : Nat) (L : List Nd) (hne : 0 < L.length) (hf : Fine L) (h : Hid (Lay w g o L)) (hk : Hid (KwAt w)) :
    Calls Tryd.prog 55 #[.slice (some ⟨g, o, none⟩) L.length cap] w fun e w' => e = .returned (.bool (treeS nameS typeS L)) ∧ Below w.heap.size w w' := by
  obtain ⟨r, hr⟩ : ∃ r, treeS nameS typeS L = r := ⟨_, rfl⟩
  have HR : Hid (treeS nameS typeS L = r) := hr
  rw [hr]
  clear hr
  have hL := hf.len
  have HF : Hid (Fine L) := hf
  clear hf
  have c0 : w.cell? ⟨g, o, none⟩ = some (.int .i64 (nd L 0).kind) := h.out.kind hne
  have c8 : w.cell? ⟨g, o + 8, none⟩ = some (.int .i64 (nd L 0).size) := h.out.size hne
  have i1 : (0 : Int) < (L.length : Int) := by omega
  have i2 : ¬ (L.length : Int) = 0 := by omega
  have i3 : ((L.length : Int) == 0) = false := by simpa using i2
  have HH : Hid (headS L = (((nd L 0).size == (L.length : Int)) && ((nd L 0).kind == 1 || isExpr (nd L 0).kind))) := by
    show _ = _
    unfold headS
    rw [decide_eq_true hne, Bool.true_and]
  have HRT : Hid (Calls Tryd.prog 73 #[.int .i64 (nd L 0).kind] w fun e w' => e = .returned (.bool ((nd L 0).kind == 1 || isExpr (nd L 0).kind)) ∧ w = w') := isRoot_any _ w
  have HND : Hid (headS L = false → r = false) := fun e => by rw [← HR.out]; unfold treeS; rw [e]; rfl
  obtain ⟨hb, hhb⟩ : ∃ hb, headS L = hb := ⟨_, rfl⟩
  have HHB : Hid (headS L = hb) := hhb
  rw [hhb] at HH HND
  clear hhb
  generalize ((nd L 0).kind == 1 || isExpr (nd L 0).kind) = rt at *
  generalize (nd L 0).size = s0 at *
  generalize (nd L 0).kind = k0 at *
  cases hb with
  | false =>
    have HRF : Hid (r = false) := HND.out rfl
    have hcase : (s0 == (L.length : Int)) = false ∨ ((s0 == (L.length : Int)) = true ∧ rt = false) := by
      have := HH.out
      cases h1 : (s0 == (L.length : Int)) with
      | false => exact .inl rfl
      | true =>
        right
        rw [h1] at this
        refine ⟨rfl, ?_⟩
        cases rt with
        | false => rfl
        | true => exact absurd this (by decide)
    clear HH HND HHB HR
    rcases hcase with hq | ⟨hq, rfl⟩
    · have hq' : (s0 != (L.length : Int)) = true := by unfold bne; rw [hq]; rfl
      go_enter Tryd.func55, Tryd.ntmps55
      go_wp2
      rw [HRF.out]
      go_ret
      exact ⟨rfl, Below.refl _ _⟩
    · have hq' : (s0 != (L.length : Int)) = false := by unfold bne; rw [hq]; rfl
      go_enter Tryd.func55, Tryd.ntmps55
      go_wp2_with (first
        | (go_at_call 73; refine HRT.out.mono ?_; rintro e w1 ⟨rfl, hw1⟩; subst hw1)
        | go_in)
      rw [HRF.out]
      go_ret
      exact ⟨rfl, Below.refl _ _⟩
  | true =>
    obtain ⟨hq, rfl⟩ : (s0 == (L.length : Int)) = true ∧ rt = true := by
      have := HH.out
      cases h1 : (s0 == (L.length : Int)) with
      | false => rw [h1] at this; exact absurd this (by simp)
      | true =>
        rw [h1] at this
        refine ⟨rfl, ?_⟩
        cases rt with
        | false => exact absurd this (by decide)
        | true => rfl
    have hq' : (s0 != (L.length : Int)) = false := by unfold bne; rw [hq]; rfl
    clear HH HND
    go_enter Tryd.func55, Tryd.ntmps55
    go_upto_region 3 with (first
      | (go_at_call 73; refine HRT.out.mono ?_; rintro e w1 ⟨rfl, hw1⟩; subst hw1)
      | go_in)
    clear HRT hq hq' c0 c8
    go_wp2
    go_loopw [29] (fun v wr => ∃ k : Nat, k ≤ L.length ∧ v = .int .i64 (k : Int) ∧ Hid (∀ m, m < k → fit nameS typeS L m = true) ∧ Hid (Below w.heap.size w wr)) (fun v _ => L.length - (intOf v).toNat)
    case atStart => exact ⟨0, by omega, rfl, fun m hm => by omega, Below.refl _ _⟩
    case round =>
      obtain ⟨k, hkl, rfl, hfit, hB⟩ := hrel
      by_cases hlt : k < L.length
      · have j0 : (0 : Int) ≤ (k : Int) := by omega
        have j1 : (k : Int) < (L.length : Int) := by omega
        have hg := good_of HHB.out hfit.out hlt
        have HG : Hid (Good L k) := hg
        have hLr := h.out.next hB.out
        have HLr : Hid (Lay wr g o L) := hLr
        obtain ⟨x, hx⟩ : ∃ x, nd L k = x := ⟨_, rfl⟩
        have d := hLr.c k hlt
        have HT := HF.out.txt k hlt
        have HFT : Hid (fit nameS typeS L k = ((shp x.kind).2 && fieldsS nameS typeS (shp x.kind).1 x && kidsS L (shp x.kind).1 k)) := by rw [← hx]; rfl
        rw [hx] at d HT
        clear hx
        obtain ⟨kd, ps, nm, lb, ty, op, it, tx, zz⟩ := x
        have d0 : wr.cell? ⟨g, o + k * 9, none⟩ = some (.int .i64 kd) := d 0 _ rfl
        have d1 : wr.cell? ⟨g, o + k * 9 + 1, none⟩ = some (.int .i64 ps) := d 1 _ rfl
        have d2 : wr.cell? ⟨g, o + k * 9 + 2, none⟩ = some (.string nm) := d 2 _ rfl
        have d3 : wr.cell? ⟨g, o + k * 9 + 3, none⟩ = some (.string lb) := d 3 _ rfl
        have d4 : wr.cell? ⟨g, o + k * 9 + 4, none⟩ = some (.string ty) := d 4 _ rfl
        have d5 : wr.cell? ⟨g, o + k * 9 + 5, none⟩ = some (.int .i64 op) := d 5 _ rfl
        have d6 : wr.cell? ⟨g, o + k * 9 + 6, none⟩ = some (.int .i64 it) := d 6 _ rfl
        have d7 : wr.cell? ⟨g, o + k * 9 + 7, none⟩ = some (.string tx) := d 7 _ rfl
        have d8 : wr.cell? ⟨g, o + k * 9 + 8, none⟩ = some (.int .i64 zz) := d 8 _ rfl
        have HTx : Hid (nm.size ≤ 140737488355328 ∧ lb.size ≤ 140737488355328 ∧ ty.size ≤ 140737488355328 ∧ tx.size ≤ 140737488355328) := HT
        clear d HT hg hLr
        obtain ⟨wa, hwa⟩ : ∃ wa, wr.alloc (.cells #[.int .i64 kd, .int .i64 ps, .string nm, .string lb, .string ty, .int .i64 op, .int .i64 it, .string tx, .int .i64 zz] 39) = wa := ⟨_, rfl⟩
        have BA : Hid (Below wr.heap.size wr wa) := by rw [← hwa]; exact (Below.refl _ wr).alloc (Nat.le_refl _) _
        have NA : Hid (∀ (j : Nat) (v : Value), (ndV ⟨kd, ps, nm, lb, ty, op, it, tx, zz⟩)[j]? = some v → wa.cell? ⟨wr.heap.size, j, none⟩ = some v) := fun j v hv => by rw [← hwa]; exact cell_new _ _ _ _ _ hv
        have za : wr.heap.size < wa.heap.size := by rw [← hwa]; simp
        have a0 : wa.cell? ⟨wr.heap.size, 0, none⟩ = some (.int .i64 kd) := NA.out 0 _ rfl
        obtain ⟨l1, n1, t1, li, mi, fo, lo, lg, fw, mo, kn, hsh, HS0⟩ := shapeOf_lit kd wa
        have HS : Hid (Calls Tryd.prog 74 #[.int .i64 kd] wa fun e w' => e = .returned (.tuple #[.agg #[.int .i64 l1, .int .i64 n1, .int .i64 t1, .int .i64 li, .int .i64 mi, .int .i64 fo, .int .i64 lo, .int .i64 lg, .int .i64 fw, .int .i64 mo], .bool kn]) ∧ Below wa.heap.size wa w') := HS0
        dsimp only at HFT
        rw [hsh] at HFT
        clear hsh HS0
        go_upto_region 7 with (first
          | (go_at_call 74; refine HS.out.mono ?_; rintro e wb ⟨rfl, hbb⟩)
          | go_in)
        clear HS d0 d1 d2 d3 d4 d5 d6 d7 d8 a0 hwa
        obtain ⟨wc, hwc⟩ : ∃ wc, wb.alloc (.cells #[.int .i64 l1, .int .i64 n1, .int .i64 t1, .int .i64 li, .int .i64 mi, .int .i64 fo, .int .i64 lo, .int .i64 lg, .int .i64 fw, .int .i64 mo] 102) = wc := ⟨_, rfl⟩
        have zb := hbb.size
        have BC : Hid (Below wb.heap.size wb wc) := by rw [← hwc]; exact (Below.refl _ wb).alloc (Nat.le_refl _) _
        have zc : wb.heap.size < wc.heap.size := by rw [← hwc]; simp
        have NC : Hid (∀ (j : Nat) (v : Value), (ndV ⟨kd, ps, nm, lb, ty, op, it, tx, zz⟩)[j]? = some v → wc.cell? ⟨wr.heap.size, j, none⟩ = some v) := fun j v hv =>
          (BC.out.cell (p := ⟨wr.heap.size, j, none⟩) (by show wr.heap.size < _; omega)).trans ((hbb.cell (p := ⟨wr.heap.size, j, none⟩) za).trans (NA.out j v hv))
        have SC : Hid (∀ (j : Nat) (v : Value), (shpV ⟨l1, n1, t1, li, mi, fo, lo, lg, fw, mo⟩)[j]? = some v → wc.cell? ⟨wb.heap.size, j, none⟩ = some v) := fun j v hv => by rw [← hwc]; exact cell_new _ _ _ _ _ hv
        have BRC : Hid (Below wr.heap.size wr wc) := (BA.out.trans (hbb.mono (by omega))).trans (BC.out.mono (by omega))
        have BWC : Hid (Below w.heap.size w wc) := hB.out.trans (BRC.out.mono hB.out.size)
        have KC : Hid (KwAt wc) := hk.out.next BWC.out
        have LC : Hid (Lay wc g o L) := HLr.out.next BRC.out
        clear NA BA BC
        have e0 : wc.cell? ⟨wr.heap.size, 0, none⟩ = some (.int .i64 kd) := NC.out 0 _ rfl
        have e1 : wc.cell? ⟨wr.heap.size, 1, none⟩ = some (.int .i64 ps) := NC.out 1 _ rfl
        have e2 : wc.cell? ⟨wr.heap.size, 2, none⟩ = some (.string nm) := NC.out 2 _ rfl
        have e3 : wc.cell? ⟨wr.heap.size, 3, none⟩ = some (.string lb) := NC.out 3 _ rfl
        have e4 : wc.cell? ⟨wr.heap.size, 4, none⟩ = some (.string ty) := NC.out 4 _ rfl
        have e5 : wc.cell? ⟨wr.heap.size, 5, none⟩ = some (.int .i64 op) := NC.out 5 _ rfl
        have e6 : wc.cell? ⟨wr.heap.size, 6, none⟩ = some (.int .i64 it) := NC.out 6 _ rfl
        have e7 : wc.cell? ⟨wr.heap.size, 7, none⟩ = some (.string tx) := NC.out 7 _ rfl
        have e8 : wc.cell? ⟨wr.heap.size, 8, none⟩ = some (.int .i64 zz) := NC.out 8 _ rfl
        have s0' : wc.cell? ⟨wb.heap.size, 0, none⟩ = some (.int .i64 l1) := SC.out 0 _ rfl
        have s1 : wc.cell? ⟨wb.heap.size, 1, none⟩ = some (.int .i64 n1) := SC.out 1 _ rfl
        have s2 : wc.cell? ⟨wb.heap.size, 2, none⟩ = some (.int .i64 t1) := SC.out 2 _ rfl
        have s3 : wc.cell? ⟨wb.heap.size, 3, none⟩ = some (.int .i64 li) := SC.out 3 _ rfl
        have s4 : wc.cell? ⟨wb.heap.size, 4, none⟩ = some (.int .i64 mi) := SC.out 4 _ rfl
        have s5 : wc.cell? ⟨wb.heap.size, 5, none⟩ = some (.int .i64 fo) := SC.out 5 _ rfl
        have s6 : wc.cell? ⟨wb.heap.size, 6, none⟩ = some (.int .i64 lo) := SC.out 6 _ rfl
        have s7 : wc.cell? ⟨wb.heap.size, 7, none⟩ = some (.int .i64 lg) := SC.out 7 _ rfl
        have s8 : wc.cell? ⟨wb.heap.size, 8, none⟩ = some (.int .i64 fw) := SC.out 8 _ rfl
        have s9 : wc.cell? ⟨wb.heap.size, 9, none⟩ = some (.int .i64 mo) := SC.out 9 _ rfl
        cases kn with
        | false =>
          have HRF : Hid (r = false) := by
            show r = false
            rw [← HR.out]
            refine tree_false hlt ?_
            rw [HFT.out]
            rfl
          go_wp2
          rw [HRF.out]
          go_ret
          exact ⟨rfl, BWC.out⟩
        | true =>
          obtain ⟨fb, hfb⟩ : ∃ fb, fieldsS nameS typeS ⟨l1, n1, t1, li, mi, fo, lo, lg, fw, mo⟩ ⟨kd, ps, nm, lb, ty, op, it, tx, zz⟩ = fb := ⟨_, rfl⟩
          have HFI : Hid (Calls Tryd.prog 75 #[.agg #[.int .i64 l1, .int .i64 n1, .int .i64 t1, .int .i64 li, .int .i64 mi, .int .i64 fo, .int .i64 lo, .int .i64 lg, .int .i64 fw, .int .i64 mo], .agg #[.int .i64 kd, .int .i64 ps, .string nm, .string lb, .string ty, .int .i64 op, .int .i64 it, .string tx, .int .i64 zz]] wc fun e w' => e = .returned (.bool fb) ∧ Below wc.heap.size wc w') := by
            rw [← hfb]
            exact fieldsFit_any ⟨l1, n1, t1, li, mi, fo, lo, lg, fw, mo⟩ ⟨kd, ps, nm, lb, ty, op, it, tx, zz⟩ wc KC.out.1 KC.out.2 (Nat.le_trans HTx.out.1 (by decide)) (Nat.le_trans HTx.out.2.1 (by decide)) (Nat.le_trans HTx.out.2.2.1 (by decide)) (Nat.le_trans HTx.out.2.2.2 (by decide))
          rw [hfb] at HFT
          clear hfb
          cases fb with
          | false =>
            have HRF : Hid (r = false) := by
              show r = false
              rw [← HR.out]
              refine tree_false hlt ?_
              rw [HFT.out]
              rfl
            go_wp2_with (first
              | (go_at_call 75; refine HFI.out.mono ?_; rintro e wd ⟨rfl, hbd⟩)
              | go_in)
            rw [HRF.out]
            go_ret
            exact ⟨rfl, BWC.out.trans (hbd.mono BWC.out.size)⟩
          | true =>
            obtain ⟨kb, hkb⟩ : ∃ kb, kidsS L ⟨l1, n1, t1, li, mi, fo, lo, lg, fw, mo⟩ k = kb := ⟨_, rfl⟩
            have HKI : Hid (∀ wd : World, Below wc.heap.size wc wd → Calls Tryd.prog 76 #[.agg #[.int .i64 l1, .int .i64 n1, .int .i64 t1, .int .i64 li, .int .i64 mi, .int .i64 fo, .int .i64 lo, .int .i64 lg, .int .i64 fw, .int .i64 mo], .slice (some ⟨g, o, none⟩) L.length cap, .int .i64 (k : Int)] wd fun e w' => e = .returned (.bool kb) ∧ Below wd.heap.size wd w') := fun wd hd => by
              rw [← hkb]
              exact kidsFit_any ⟨l1, n1, t1, li, mi, fo, lo, lg, fw, mo⟩ wd g o cap L k hL hlt HG.out (LC.out.next hd)
            rw [hkb] at HFT
            clear hkb
            cases kb with
            | false =>
              have HRF : Hid (r = false) := by
                show r = false
                rw [← HR.out]
                refine tree_false hlt ?_
                rw [HFT.out]
                rfl
              go_wp2_with (first
                | (go_at_call 75; refine HFI.out.mono ?_; rintro e wd ⟨rfl, hbd⟩; have f0 := (hbd.cell (p := ⟨wb.heap.size, 0, none⟩) zc).trans s0'; have f1 := (hbd.cell (p := ⟨wb.heap.size, 1, none⟩) zc).trans s1; have f2 := (hbd.cell (p := ⟨wb.heap.size, 2, none⟩) zc).trans s2; have f3 := (hbd.cell (p := ⟨wb.heap.size, 3, none⟩) zc).trans s3; have f4 := (hbd.cell (p := ⟨wb.heap.size, 4, none⟩) zc).trans s4; have f5 := (hbd.cell (p := ⟨wb.heap.size, 5, none⟩) zc).trans s5; have f6 := (hbd.cell (p := ⟨wb.heap.size, 6, none⟩) zc).trans s6; have f7 := (hbd.cell (p := ⟨wb.heap.size, 7, none⟩) zc).trans s7; have f8 := (hbd.cell (p := ⟨wb.heap.size, 8, none⟩) zc).trans s8; have f9 := (hbd.cell (p := ⟨wb.heap.size, 9, none⟩) zc).trans s9)
                | (go_at_call 76; refine (HKI.out wd hbd).mono ?_; rintro e we ⟨rfl, hbe⟩)
                | go_in)
              rw [HRF.out]
              go_ret
              have hd := BWC.out.trans (hbd.mono BWC.out.size)
              exact ⟨rfl, hd.trans (hbe.mono hd.size)⟩
            | true =>
              go_wp2_with (first
                | (go_at_call 75; refine HFI.out.mono ?_; rintro e wd ⟨rfl, hbd⟩; have f0 := (hbd.cell (p := ⟨wb.heap.size, 0, none⟩) zc).trans s0'; have f1 := (hbd.cell (p := ⟨wb.heap.size, 1, none⟩) zc).trans s1; have f2 := (hbd.cell (p := ⟨wb.heap.size, 2, none⟩) zc).trans s2; have f3 := (hbd.cell (p := ⟨wb.heap.size, 3, none⟩) zc).trans s3; have f4 := (hbd.cell (p := ⟨wb.heap.size, 4, none⟩) zc).trans s4; have f5 := (hbd.cell (p := ⟨wb.heap.size, 5, none⟩) zc).trans s5; have f6 := (hbd.cell (p := ⟨wb.heap.size, 6, none⟩) zc).trans s6; have f7 := (hbd.cell (p := ⟨wb.heap.size, 7, none⟩) zc).trans s7; have f8 := (hbd.cell (p := ⟨wb.heap.size, 8, none⟩) zc).trans s8; have f9 := (hbd.cell (p := ⟨wb.heap.size, 9, none⟩) zc).trans s9)
                | (go_at_call 76; refine (HKI.out wd hbd).mono ?_; rintro e we ⟨rfl, hbe⟩)
                | go_in)
              have hd := BWC.out.trans (hbd.mono BWC.out.size)
              refine ⟨⟨k + 1, by omega, by go_num, fun m hm => ?_, hd.trans (hbe.mono hd.size)⟩, by simp [intOf]; omega⟩
              by_cases hmk : m < k
              · exact hfit.out m hmk
              · obtain rfl : m = k := by omega
                rw [HFT.out]
                rfl
      · obtain rfl : k = L.length := by omega
        have HRF : Hid (r = true) := by
          show r = true
          rw [← HR.out]
          exact tree_true HHB.out hfit.out
        go_wp2
        rw [HRF.out]
        go_ret
        exact ⟨rfl, hB.out⟩

theorem isTree_any (w : World) (p : Option Addr) (cap : Nat) (L : List Nd) (hf : Fine L) (h : Rd w p L) (hk : KwAt w) :
    Calls Tryd.prog 55 #[.slice p L.length cap] w fun e w' => e = .returned (.bool (treeS nameS typeS L)) ∧ Below w.heap.size w w' := by
  cases L with
  | nil =>
    have e : treeS nameS typeS [] = false := rfl
    rw [e]
    clear h hk hf
    go_enter Tryd.func55, Tryd.ntmps55
    go_wp2
    go_ret
    exact ⟨rfl, Below.refl _ _⟩
  | cons x L =>
    obtain ⟨g, o, rfl, hl⟩ := h (by simp)
    exact isTree_some w g o cap (x :: L) (by simp) hf hl hk

end Go.Proofs.YtlocaalipjjnpaaDoor

namespace Go.Proofs.YtlocaalipjjnpaaDoor
open Go.RowKit

/-- Alike but for the places. -/
def alikeB (x y : Nd) : Bool := (x.kind == y.kind) && (x.name.toList == y.name.toList) && (x.label.toList == y.label.toList) && (x.typ.toList == y.typ.toList) && (x.op == y.op) && (x.int == y.int) && (x.text.toList == y.text.toList) && (x.size == y.size)

/-- Alike, node by node. -/
def sameL (A B : List Nd) : Bool := decide (A.length = B.length) && (List.range A.length).all fun i => alikeB (nd A i) (nd B i)
theorem same_no {A B : List Nd} {k : Nat} (hk : k < A.length) (h : alikeB (nd A k) (nd B k) = false) : sameL A B = false := by
  unfold sameL
  rw [Bool.and_eq_false_iff]
  right
  rw [List.all_eq_false]
  exact ⟨k, List.mem_range.2 hk, by rw [h]; decide⟩
theorem same_yes {A B : List Nd} (hl : A.length = B.length) (h : ∀ k, k < A.length → alikeB (nd A k) (nd B k) = true) : sameL A B = true := by
  unfold sameL
  rw [decide_eq_true hl, Bool.true_and, List.all_eq_true]
  exact fun x hx => h x (List.mem_range.1 hx)

end Go.Proofs.YtlocaalipjjnpaaDoor

namespace Go.Proofs.YtlocaalipjjnpaaDoor
open Go.RowKit

theorem ndV_inj {x y : Nd} (h : ∀ (j : Nat) (v : Value), (ndV x)[j]? = some v → (ndV y)[j]? = some v) : x = y := by
  obtain ⟨kd, ps, nm, lb, ty, op, it, tx, zz⟩ := x
  obtain ⟨kd', ps', nm', lb', ty', op', it', tx', zz'⟩ := y
  have h0 := h 0 _ rfl
  have h1 := h 1 _ rfl
  have h2 := h 2 _ rfl
  have h3 := h 3 _ rfl
  have h4 := h 4 _ rfl
  have h5 := h 5 _ rfl
  have h6 := h 6 _ rfl
  have h7 := h 7 _ rfl
  have h8 := h 8 _ rfl
  simp [ndV] at h0 h1 h2 h3 h4 h5 h6 h7 h8
  subst h0 h1 h2 h3 h4 h5 h6 h7 h8
  rfl

theorem nd_ext {A B : List Nd} (hl : A.length = B.length) (h : ∀ i, i < A.length → nd A i = nd B i) : A = B := by
  apply List.ext_getElem hl
  intro i h1 h2
  have := h i h1
  simpa [nd, h1, h2] using this

/-- One slice, one list. -/
theorem rd_inj {w : World} {p : Option Addr} {A B : List Nd} (hl : A.length = B.length) (ha : Rd w p A) (hb : Rd w p B) : A = B := by
  by_cases hne : A = []
  · subst hne
    exact (List.length_eq_zero_iff.1 hl.symm).symm
  · have hne' : B ≠ [] := fun e => hne (List.length_eq_zero_iff.1 (by rw [hl, e]; rfl))
    obtain ⟨g, o, rfl, h1⟩ := ha hne
    obtain ⟨g', o', e, h2⟩ := hb hne'
    cases e
    refine nd_ext hl fun i hi => ndV_inj fun j v hv => ?_
    have e1 := h1.c i hi j v hv
    have hj : j < 9 := (Array.getElem?_eq_some_iff.1 hv).1
    obtain ⟨u, hu⟩ : ∃ u, (ndV (nd B i))[j]? = some u := ⟨_, Array.getElem?_eq_getElem (show j < (ndV (nd B i)).size from hj)⟩
    have e2 := h2.c i (by omega) j u hu
    rw [e1] at e2
    rw [hu, ← e2]

/-- What a slice reads as. -/
def Reads (w : World) (p : Option Addr) (n : Nat) (L : List Nd) : Prop := Fine L ∧ L.length = n ∧ Rd w p L
theorem Reads.next {w w' : World} {p : Option Addr} {n : Nat} {L : List Nd} (h : Reads w p n L) (hb : Below w.heap.size w w') : Reads w' p n L := ⟨h.1, h.2.1, h.2.2.next hb⟩
theorem Reads.eq {w : World} {p : Option Addr} {n : Nat} {A B : List Nd} (ha : Reads w p n A) (hb : Reads w p n B) : A = B := rd_inj (ha.2.1.trans hb.2.1.symm) ha.2.2 hb.2.2

theorem isTree_rel (w : World) (p : Option Addr) (n cap : Nat) (h : ∃ L, Reads w p n L) (hk : KwAt w) :
    Calls Tryd.prog 55 #[.slice p n cap] w fun e w' => (∃ b, e = .returned (.bool b) ∧ Hid (∀ L, Reads w p n L → b = treeS nameS typeS L)) ∧ Below w.heap.size w w' := by
  obtain ⟨L, hL⟩ := h
  obtain ⟨hf, rfl, hr⟩ := hL
  exact (isTree_any w p cap L hf hr hk).mono fun e w' he => ⟨⟨_, he.1, fun L' h' => by rw [Reads.eq ⟨hf, rfl, hr⟩ h']⟩, he.2⟩

set_option maxHeartbeats 400000 in
theorem valid_any (w : World) (p : Option Addr) (n cap : Nat) (L : List Nd) (h : Reads w p n L) (hk : KwAt w) :
    Calls Tryd.prog 34 #[.agg #[.slice p n cap]] w fun e w' => e = .returned (.int .i64 (if treeS nameS typeS L then 0 else 30)) ∧ Below w.heap.size w w' := by
  obtain ⟨w1, hw1⟩ : ∃ w1, w.alloc (.cells #[.slice p n cap] 24) = w1 := ⟨_, rfl⟩
  have B1 : Hid (Below w.heap.size w w1) := by rw [← hw1]; exact (Below.refl _ w).alloc (Nat.le_refl _) _
  have c1 : w1.cell? ⟨w.heap.size, 0, none⟩ = some (.slice p n cap) := by rw [← hw1]; exact cell_new _ _ _ _ _ rfl
  have H : Hid (Calls Tryd.prog 55 #[.slice p n cap] w1 fun e w' => e = .returned (.bool (treeS nameS typeS L)) ∧ Below w1.heap.size w1 w') := by
    have hr := h.next B1.out
    obtain ⟨hf, rfl, hr⟩ := hr
    exact isTree_any w1 p cap L hf hr (hk.next B1.out)
  clear h hk
  obtain ⟨b, hb⟩ : ∃ b, treeS nameS typeS L = b := ⟨_, rfl⟩
  rw [hb] at H ⊢
  clear hb
  cases b with
  | true =>
    go_enter Tryd.func34, Tryd.ntmps34
    go_wp2_with (first
      | (go_at_call 55; refine H.out.mono ?_; rintro e w2 ⟨rfl, hb2⟩)
      | go_in)
    go_ret
    exact ⟨rfl, B1.out.trans (hb2.mono B1.out.size)⟩
  | false =>
    go_enter Tryd.func34, Tryd.ntmps34
    go_wp2_with (first
      | (go_at_call 55; refine H.out.mono ?_; rintro e w2 ⟨rfl, hb2⟩)
      | go_in)
    go_ret
    exact ⟨rfl, B1.out.trans (hb2.mono B1.out.size)⟩

def sameS (A B : List Nd) : Bool := treeS nameS typeS A && treeS nameS typeS B && sameL A B

end Go.Proofs.YtlocaalipjjnpaaDoor

namespace Go.Proofs.YtlocaalipjjnpaaDoor
open Go.RowKit Go.Shelf
attribute [local go_sem] Oper.semAt_some

theorem grown_of_below {w w' : World} (h : Below w.heap.size w w') : w.grownBy w' none := ⟨h.os, h.tape, h.output, h.size, fun k hk _ => h.block k hk⟩

/-- What the statements' iterator reads lies there. -/
structure SKeep (B g o cap n : Nat) (L : List Nd) (p1 : Option Addr) (n1 c1 : Nat) (p2 : Option Addr) (n2 c2 : Nat) (w : World) : Prop where
  lay : Lay w g o L
  k0 : w.cell? ⟨B, 0, none⟩ = some (.slice (some ⟨g, o, none⟩) L.length cap)
  k1 : w.cell? ⟨B, 1, none⟩ = some (.slice p1 n1 c1)
  k2 : w.cell? ⟨B, 2, none⟩ = some (.slice p2 n2 c2)
  nn : w.cell? ⟨B + 1, 0, none⟩ = some (.int .i64 (n : Int))
theorem SKeep.below {B g o cap n C : Nat} {L : List Nd} {p1 p2 : Option Addr} {n1 c1 n2 c2 : Nat} {w w' : World} (h : SKeep B g o cap n L p1 n1 c1 p2 n2 c2 w) (hb : Below C w w') (hB : B + 1 < C) (hg : g < C) : SKeep B g o cap n L p1 n1 c1 p2 n2 c2 w' :=
  ⟨h.lay.below hb hg hb.size, (hb.cell (p := ⟨B, 0, none⟩) (by show B < C; omega)).trans h.k0, (hb.cell (p := ⟨B, 1, none⟩) (by show B < C; omega)).trans h.k1, (hb.cell (p := ⟨B, 2, none⟩) (by show B < C; omega)).trans h.k2, (hb.cell (p := ⟨B + 1, 0, none⟩) hB).trans h.nn⟩
theorem SKeep.next {B g o cap n : Nat} {L : List Nd} {p1 p2 : Option Addr} {n1 c1 n2 c2 : Nat} {w w' : World} (h : SKeep B g o cap n L p1 n1 c1 p2 n2 c2 w) (hb : Below w.heap.size w w') : SKeep B g o cap n L p1 n1 c1 p2 n2 c2 w' :=
  h.below hb (World.block_lt_of_cell? w _ h.nn) h.lay.lt

set_option maxHeartbeats 400000 in
theorem statements_any (p0 p1 p2 : Option Addr) (n0 c0 n1 c1 n2 c2 : Nat) (n : Int) (w : World) :
    Calls Tryd.prog 52 #[.agg #[.slice p0 n0 c0, .slice p1 n1 c1, .slice p2 n2 c2], .int .i64 n] w fun e w' => e = .returned (.func (.func 61) #[] #[.pointer (some ⟨w.heap.size + 1, 0, none⟩), .pointer (some ⟨w.heap.size, 0, none⟩)]) ∧ w' = (w.alloc (.cells #[.slice p0 n0 c0, .slice p1 n1 c1, .slice p2 n2 c2] 51)).alloc (.cells #[.int .i64 n] 3) := by
  go_enter Tryd.func52, Tryd.ntmps52
  go_wp2
  go_ret
  exact ⟨rfl, rfl⟩

set_option maxRecDepth 100000 in
set_option maxHeartbeats 2000000 in
theorem stm_seq (m : Nat) (hm : 1 ≤ m) (B g o cap n : Nat) (L : List Nd) (p1 p2 : Option Addr) (n1 c1 n2 c2 : Nat) (w : World) (hL : L.length ≤ 1353245080300) (hn : n < L.length) (hw : Wy L) (h : SKeep B g o cap n L p1 n1 c1 p2 n2 c2 w) (hB : B + 1 < w.heap.size) :
    SeqG Fence.wide m Tryd.prog 61 #[.pointer (some ⟨B + 1, 0, none⟩), .pointer (some ⟨B, 0, none⟩)] encK (SKeep B g o cap n L p1 n1 c1 p2 n2 c2)
      (fun pre x => pre ++ [x] <+: stmS L (n + 1) (endOf L n)) (fun _ _ => True) (fun xs => xs = stmS L (n + 1) (endOf L n)) w := fun l J Jx W hW hA _ hY h0 => by
  have hk : SKeep B g o cap n L p1 n1 c1 p2 n2 c2 W := h.below hW hB h.lay.lt
  obtain ⟨he, e1, e2⟩ := end_int (hw.good n hn)
  have HG : Hid (∀ x, x < endOf L n → 1 ≤ sz L x) := fun x hx => (hw.good x (by omega)).1
  have HN : Hid (∀ k, n < k → k < endOf L n → endOf L k ≤ endOf L n ∧ k < endOf L k ∧ (nd L k).size = (endOf L k : Int) - k) := fun k h1 h2 => by
    obtain ⟨a, b, _⟩ := end_int (hw.good k (by omega))
    exact ⟨hw.nest n k hn h1 h2, b, by show sz L k = _; omega⟩
  have HK : Hid (SKeep B g o cap n L p1 n1 c1 p2 n2 c2 W) := hk
  have HC1 : Hid (∀ w', Lay w' g o L → Calls Tryd.prog 58 #[.agg #[.slice (some ⟨g, o, none⟩) L.length cap, .slice p1 n1 c1, .slice p2 n2 c2], .int .i64 (n : Int)] w' fun e w'' => e = .returned (.int .i64 (endOf L n : Int)) ∧ Below w'.heap.size w' w'') := fun w' hl => behind_any w' g o cap L p1 p2 n1 c1 n2 c2 n hL hn (hw.good n hn) hl
  have HC2 : Hid (∀ k w', k < L.length → Lay w' g o L → Calls Tryd.prog 58 #[.agg #[.slice (some ⟨g, o, none⟩) L.length cap, .slice p1 n1 c1, .slice p2 n2 c2], .int .i64 (k : Int)] w' fun e w'' => e = .returned (.int .i64 (endOf L k : Int)) ∧ Below w'.heap.size w' w'') := fun k w' hk hl => behind_any w' g o cap L p1 p2 n1 c1 n2 c2 k hL hk (hw.good k hk) hl
  have hnn := hk.nn
  generalize endOf L n = E at *
  obtain ⟨xs, hxs⟩ : ∃ xs, stmS L (n + 1) E = xs := ⟨_, rfl⟩
  have HX : Hid (stmS L (n + 1) E = xs) := hxs
  rw [hxs] at hY ⊢
  have i3 : IntKind.i64.wrap ((n : Int) + 1) = (n : Int) + 1 := by rw [IntKind.wrap_i64]; omega
  have HA : Hid (AbidesFrom W.heap.size J) := hA
  clear hW hk h hA he hw hxs
  refine callsIn_of_wp Tryd.func61 rfl trivial ?_ rfl
  simp only [Tryd.ntmps61, List.size_toArray, List.length_cons, List.length_nil, Nat.reduceAdd, Nat.reduceSub, Array.replicate_succ, Array.replicate_zero, List.push_toArray, List.append_toArray, List.nil_append, List.cons_append]
  gi_wp2
  clear hnn i3
  gi_loopw [4] (fun v wr => ∃ (pre : List Nat) (k : Nat), v = .int .i64 (k : Int) ∧ n < k ∧ k ≤ E ∧ Hid (xs = pre ++ stmS L k E) ∧ Hid (J pre wr) ∧ Hid (SKeep B g o cap n L p1 n1 c1 p2 n2 c2 wr)) (fun v _ => E - (intOf v).toNat)
  case atStart => exact ⟨[], n + 1, by simp, by omega, by omega, HX.out.symm, h0, HK⟩
  case round =>
    obtain ⟨pre, k, rfl, hnk, hkE, hx, hJ, hkr⟩ := hrel
    clear HK HX h0
    have c0 := hkr.out.k0
    have c1' := hkr.out.k1
    have c2' := hkr.out.k2
    have cn := hkr.out.nn
    have C1 : Hid (Calls Tryd.prog 58 #[.agg #[.slice (some ⟨g, o, none⟩) L.length cap, .slice p1 n1 c1, .slice p2 n2 c2], .int .i64 (n : Int)] wr fun e w'' => e = .returned (.int .i64 (E : Int)) ∧ Below wr.heap.size wr w'') := HC1.out wr hkr.out.lay
    by_cases hlt : k < E
    · have hlt' : (k : Int) < (E : Int) := by omega
      have j0 : (0 : Int) ≤ (k : Int) := by omega
      have j1 : (k : Int) < (L.length : Int) := by omega
      obtain ⟨f1, f2, _⟩ := HN.out k hnk hlt
      have C2 : Hid (∀ w', Lay w' g o L → Calls Tryd.prog 58 #[.agg #[.slice (some ⟨g, o, none⟩) L.length cap, .slice p1 n1 c1, .slice p2 n2 c2], .int .i64 (k : Int)] w' fun e w'' => e = .returned (.int .i64 (endOf L k : Int)) ∧ Below w'.heap.size w' w'') := fun w' => HC2.out k w' (by omega)
      have hgo := stm_go L k E HG.out hlt
      by_cases h16 : (nd L k).kind = 16
      · rw [if_pos h16] at hgo
        have HGo : Hid (xs = pre ++ stmS L (endOf L k) E) := hx.out.trans (by rw [hgo]; rfl)
        clear hgo
        gi_wp2_with (refine ⟨trivial, ?_⟩; gi_at_call 58; refine (callsIn_wide.2 C1.out).mono ?_; rintro e w2 ⟨rfl, hb2⟩; have K2 : Hid (SKeep B g o cap n L p1 n1 c1 p2 n2 c2 w2) := hkr.out.next hb2; have q0 := K2.out.k0; have q1 := K2.out.k1; have q2 := K2.out.k2; have qk := K2.out.lay.kind (i := k) (by omega); rw [h16] at qk)
        refine ⟨(fun f hf => by cases hf), ?_⟩
        gi_wp2_with (refine ⟨trivial, ?_⟩; gi_at_call 58; refine (callsIn_wide.2 (C2.out w2 K2.out.lay)).mono ?_; rintro e w3 ⟨rfl, hb3⟩)
        exact ⟨⟨pre, endOf L k, rfl, by omega, f1, HGo, HA.out _ _ _ none (HA.out _ _ _ none hJ.out (grown_of_below hb2) (fun _ e => by cases e)) (grown_of_below hb3) (fun _ e => by cases e), K2.out.next hb3⟩, by simp [intOf]; omega⟩
      · rw [if_neg h16] at hgo
        have HGo : Hid (xs = (pre ++ [k]) ++ stmS L (endOf L k) E) := hx.out.trans (by rw [hgo]; simp [endOf])
        have hpx : pre ++ [k] <+: xs := ⟨_, HGo.out.symm⟩
        have h16' : ((nd L k).kind != 16) = true := by simpa using h16
        generalize hq : (nd L k).kind = q at *
        have HQ : Hid ((nd L k).kind = q) := hq
        clear hgo hq
        gi_wp2_with (refine ⟨trivial, ?_⟩; gi_at_call 58; refine (callsIn_wide.2 C1.out).mono ?_; rintro e w2 ⟨rfl, hb2⟩; have K2 : Hid (SKeep B g o cap n L p1 n1 c1 p2 n2 c2 w2) := hkr.out.next hb2; have q0 := K2.out.k0; have q1 := K2.out.k1; have q2 := K2.out.k2; have qk := K2.out.lay.kind (i := k) (by omega); rw [HQ.out] at qk; obtain ⟨fn, tmps, assign, body, hy, hR⟩ := hY pre k w2 (HA.out _ _ _ none hJ.out (grown_of_below hb2) (fun _ e => by cases e)) hpx; dsimp only [encK] at hy)
        refine hR.mono ?_
        rintro e W3 (⟨rfl, hJ3, _, hk3⟩ | ⟨rfl, hJx3⟩)
        · have r0 := hk3.k0
          have r1 := hk3.k1
          have r2 := hk3.k2
          have HK3 : Hid (SKeep B g o cap n L p1 n1 c1 p2 n2 c2 W3) := hk3
          clear hk3 q0 q1 q2 qk
          gi_wp2_with (refine ⟨trivial, ?_⟩; gi_at_call 58; refine (callsIn_wide.2 (C2.out W3 HK3.out.lay)).mono ?_; rintro e w4 ⟨rfl, hb4⟩)
          exact ⟨⟨pre ++ [k], endOf L k, rfl, by omega, f1, HGo, HA.out _ _ _ none hJ3 (grown_of_below hb4) (fun _ e => by cases e), HK3.out.next hb4⟩, by simp [intOf]; omega⟩
        · gi_wp2
          refine bodyPost_ret (results_none rfl _ _ _) rfl ?_
          exact ⟨⟨_, rfl⟩, .inr ⟨_, hJx3⟩⟩
    · obtain rfl : k = E := by omega
      have hlt' : ¬ (k : Int) < (k : Int) := by omega
      have hxe : pre = xs := by rw [hx.out, stm_end L k k (Nat.le_refl _), List.append_nil]
      gi_wp2_with (refine ⟨trivial, ?_⟩; gi_at_call 58; refine (callsIn_wide.2 C1.out).mono ?_; rintro e w2 ⟨rfl, hb2⟩)
      refine bodyPost_end (results_none rfl _ _ _) rfl ?_
      exact ⟨⟨_, rfl⟩, .inl ⟨pre, hxe, HA.out _ _ _ none hJ.out (grown_of_below hb2) (fun _ e => by cases e)⟩⟩

end Go.Proofs.YtlocaalipjjnpaaDoor

namespace Go.Proofs.YtlocaalipjjnpaaDoor
open Go.RowKit Go.Shelf

/-- The two rows of a table. -/
structure Tb (w : World) (gr ge N : Nat) (T : WT) : Prop where
  lr : gr < w.heap.size
  le : ge < w.heap.size
  r : ∀ i, i < N → w.cell? ⟨gr, i, none⟩ = some (.bool (T i).1)
  e : ∀ i, i < N → w.cell? ⟨ge, i, none⟩ = some (.bool (T i).2)
theorem Tb.below {w w' : World} {gr ge N C : Nat} {T : WT} (h : Tb w gr ge N T) (hb : Below C w w') (h1 : gr < C) (h2 : ge < C) : Tb w' gr ge N T :=
  ⟨Nat.lt_of_lt_of_le h.lr hb.size, Nat.lt_of_lt_of_le h.le hb.size, fun i hi => (hb.cell (p := ⟨gr, i, none⟩) h1).trans (h.r i hi), fun i hi => (hb.cell (p := ⟨ge, i, none⟩) h2).trans (h.e i hi)⟩
theorem Tb.next {w w' : World} {gr ge N : Nat} {T : WT} (h : Tb w gr ge N T) (hb : Below w.heap.size w w') : Tb w' gr ge N T := h.below hb h.lr h.le

theorem way_12 {L : List Nd} {T : WT} {n : Nat} (h : (nd L n).kind = 12) : wayAt L T n = (true, false) := by unfold wayAt; rw [if_pos h]
theorem way_1011 {L : List Nd} {T : WT} {n : Nat} (h : (nd L n).kind = 10 ∨ (nd L n).kind = 11) : wayAt L T n = (false, false) := by unfold wayAt; rw [if_neg (by omega), if_pos h]
theorem way_4 {L : List Nd} {T : WT} {n : Nat} (h : (nd L n).kind = 4) : wayAt L T n = (retL T (stmS L (n + 1) (endOf L n)) false, endL T (stmS L (n + 1) (endOf L n))) := by unfold wayAt; rw [if_neg (by omega), if_neg (by omega), if_pos h]
theorem way_7 {L : List Nd} {T : WT} {n : Nat} (h : (nd L n).kind = 7) : wayAt L T n = (if endOf L n ≤ endOf L (endOf L (n + 1)) then (false, true)
     else ((T (endOf L (n + 1))).1 && (T (endOf L (endOf L (n + 1)))).1, (T (endOf L (n + 1))).2 || (T (endOf L (endOf L (n + 1)))).2)) := by unfold wayAt; rw [if_neg (by omega), if_neg (by omega), if_neg (by omega), if_pos h]
theorem way_any {L : List Nd} {T : WT} {n : Nat} (h1 : (nd L n).kind ≠ 12) (h2 : (nd L n).kind ≠ 10) (h3 : (nd L n).kind ≠ 11) (h4 : (nd L n).kind ≠ 4) (h5 : (nd L n).kind ≠ 7) : wayAt L T n = (false, decide (5 ≤ (nd L n).kind) && decide ((nd L n).kind ≤ 16)) := by unfold wayAt; rw [if_neg h1, if_neg (by omega), if_neg h4, if_neg h5]

/-- The world in which findReturns begins: the struct, and a cell for the answer. -/
theorem two_world (w : World) (g o cap N : Nat) (gr ge : Nat) : ∃ w2, (w.alloc (.cells #[.slice (some ⟨g, o, none⟩) N cap, .slice (some ⟨gr, 0, none⟩) N N, .slice (some ⟨ge, 0, none⟩) N N] 51)).alloc (.cells #[.bool false] 4) = w2 ∧ w2.heap.size = w.heap.size + 2 ∧ Below w.heap.size w w2 ∧ w2.cell? ⟨w.heap.size, 0, none⟩ = some (.slice (some ⟨g, o, none⟩) N cap) ∧ w2.cell? ⟨w.heap.size, 1, none⟩ = some (.slice (some ⟨gr, 0, none⟩) N N) ∧ w2.cell? ⟨w.heap.size, 2, none⟩ = some (.slice (some ⟨ge, 0, none⟩) N N) ∧
    w2.cell? ⟨w.heap.size + 1, 0, none⟩ = some (.bool false) ∧ w2.frozen? ⟨w.heap.size + 1, 0, none⟩ = false := by
  refine ⟨_, rfl, by simp, ((Below.refl _ w).alloc (Nat.le_refl _) _).alloc (by simp) _, cell_old _ (cell_new _ _ _ _ _ rfl), cell_old _ (cell_new _ _ _ _ _ rfl), cell_old _ (cell_new _ _ _ _ _ rfl), ?_⟩
  have := new_cell (w.alloc (.cells #[.slice (some ⟨g, o, none⟩) N cap, .slice (some ⟨gr, 0, none⟩) N N, .slice (some ⟨ge, 0, none⟩) N N] 51)) (.bool false) 4
  rwa [World.size_alloc] at this

set_option maxRecDepth 100000 in
set_option maxHeartbeats 1000000 in
theorem fr_plain (w : World) (g o cap : Nat) (L : List Nd) (gr ge n : Nat) (hn : n < L.length) (h : Hid (Lay w g o L)) (h4 : (nd L n).kind ≠ 4) (h7 : (nd L n).kind ≠ 7) :
    Calls Tryd.prog 36 #[.agg #[.slice (some ⟨g, o, none⟩) L.length cap, .slice (some ⟨gr, 0, none⟩) L.length L.length, .slice (some ⟨ge, 0, none⟩) L.length L.length], .int .i64 (n : Int)] w fun e w' => e = .returned (.bool (decide ((nd L n).kind = 12))) ∧ Below w.heap.size w w' := by
  obtain ⟨w2, hw2, z2, B2, c0, c1, c2, c3, f3⟩ := two_world w g o cap L.length gr ge
  have BB : Hid (Below w.heap.size w w2) := B2
  have hkd := (h.out.next B2).kind hn
  have i0 : (0 : Int) ≤ (n : Int) := by omega
  have i1 : (n : Int) < (L.length : Int) := by omega
  have hq : ∀ b : Bool, (w2.setCell ⟨w.heap.size + 1, 0, none⟩ (.bool b)).cell? ⟨w.heap.size + 1, 0, none⟩ = some (.bool b) := fun b => World.cell?_setCell_same' _ _ _ (by rw [c3]; rfl)
  have hk : ∀ b : Bool, (w2.setCell ⟨w.heap.size + 1, 0, none⟩ (.bool b)).cell? ⟨g, o + n * 9, none⟩ = some (.int .i64 (nd L n).kind) := fun b => (cell_set _ (a := ⟨g, o + n * 9, none⟩) (by show g ≠ _; have := h.out.lt; omega)).trans hkd
  have hs0 : ∀ b : Bool, (w2.setCell ⟨w.heap.size + 1, 0, none⟩ (.bool b)).cell? ⟨w.heap.size, 0, none⟩ = some (.slice (some ⟨g, o, none⟩) L.length cap) := fun b => (cell_set _ (a := ⟨w.heap.size, 0, none⟩) (by show w.heap.size ≠ _; omega)).trans c0
  have hf : ∀ b : Bool, (w2.setCell ⟨w.heap.size + 1, 0, none⟩ (.bool b)).frozen? ⟨w.heap.size + 1, 0, none⟩ = false := fun b => by rw [World.frozen?_setCell]; exact f3
  have hq2 : ∀ b b' : Bool, ((w2.setCell ⟨w.heap.size + 1, 0, none⟩ (.bool b)).setCell ⟨w.heap.size + 1, 0, none⟩ (.bool b')).cell? ⟨w.heap.size + 1, 0, none⟩ = some (.bool b') := fun b b' => World.cell?_setCell_same' _ _ _ (by rw [hq b]; rfl)
  generalize (nd L n).kind = q at *
  clear h B2
  by_cases h12 : q = 12
  · subst h12
    go_enter Tryd.func36, Tryd.ntmps36
    go_wp2
    go_ret
    exact ⟨by simp, (BB.out.setCell (p := ⟨w.heap.size + 1, 0, none⟩) (by show w.heap.size ≤ w.heap.size + 1; omega) _).setCell (p := ⟨w.heap.size + 1, 0, none⟩) (by show w.heap.size ≤ w.heap.size + 1; omega) _⟩
  · have q1 : (q == 12) = false := by simpa using h12
    have q2 : (q == 4) = false := by simpa using h4
    have q3 : (q == 7) = false := by simpa using h7
    go_enter Tryd.func36, Tryd.ntmps36
    go_wp2
    go_ret
    exact ⟨by simp [h12], BB.out.setCell (p := ⟨w.heap.size + 1, 0, none⟩) (by show w.heap.size ≤ w.heap.size + 1; omega) _⟩

/-- The world behind 'returns := false'. -/
structure W3 (w w3 : World) (g o cap : Nat) (L : List Nd) (gr ge : Nat) (T : WT) : Prop where
  z : w3.heap.size = w.heap.size + 2
  b : Below w.heap.size w w3
  c0 : w3.cell? ⟨w.heap.size, 0, none⟩ = some (.slice (some ⟨g, o, none⟩) L.length cap)
  c1 : w3.cell? ⟨w.heap.size, 1, none⟩ = some (.slice (some ⟨gr, 0, none⟩) L.length L.length)
  c2 : w3.cell? ⟨w.heap.size, 2, none⟩ = some (.slice (some ⟨ge, 0, none⟩) L.length L.length)
  c3 : w3.cell? ⟨w.heap.size + 1, 0, none⟩ = some (.bool false)
  f3 : w3.frozen? ⟨w.heap.size + 1, 0, none⟩ = false
  lay : Lay w3 g o L
  tb : Tb w3 gr ge L.length T

theorem w3_of (w : World) (g o cap : Nat) (L : List Nd) (gr ge : Nat) (T : WT) (h : Lay w g o L) (ht : Tb w gr ge L.length T) : ∃ w2, (w.alloc (.cells #[.slice (some ⟨g, o, none⟩) L.length cap, .slice (some ⟨gr, 0, none⟩) L.length L.length, .slice (some ⟨ge, 0, none⟩) L.length L.length] 51)).alloc (.cells #[.bool false] 4) = w2 ∧
    w2.cell? ⟨w.heap.size + 1, 0, none⟩ = some (.bool false) ∧ w2.frozen? ⟨w.heap.size + 1, 0, none⟩ = false ∧ W3 w w2 g o cap L gr ge T ∧ ∃ w3, w2.setCell ⟨w.heap.size + 1, 0, none⟩ (.bool false) = w3 ∧ W3 w w3 g o cap L gr ge T := by
  obtain ⟨w2, hw2, z2, B2, c0, c1, c2, c3, f3⟩ := two_world w g o cap L.length gr ge
  have B3 : Below (w.heap.size + 1) w2 (w2.setCell ⟨w.heap.size + 1, 0, none⟩ (.bool false)) := (Below.refl _ w2).setCell (p := ⟨w.heap.size + 1, 0, none⟩) (Nat.le_refl _) _
  have := h.lt
  refine ⟨w2, hw2, c3, f3, ⟨z2, B2, c0, c1, c2, c3, f3, h.next B2, ht.next B2⟩, _, rfl, by rw [size_set]; exact z2, B2.setCell (p := ⟨w.heap.size + 1, 0, none⟩) (by show w.heap.size ≤ w.heap.size + 1; omega) _, ?_, ?_, ?_, World.cell?_setCell_same' _ _ _ (by rw [c3]; rfl), by rw [World.frozen?_setCell]; exact f3, ?_, ?_⟩
  · exact (cell_set _ (a := ⟨w.heap.size, 0, none⟩) (by show w.heap.size ≠ _; omega)).trans c0
  · exact (cell_set _ (a := ⟨w.heap.size, 1, none⟩) (by show w.heap.size ≠ _; omega)).trans c1
  · exact (cell_set _ (a := ⟨w.heap.size, 2, none⟩) (by show w.heap.size ≠ _; omega)).trans c2
  · exact (h.next B2).below B3 (by omega) B3.size
  · have := ht.lr; have := ht.le; exact (ht.next B2).below B3 (by omega) (by omega)

theorem set_same {w : World} {a : Addr} {v : Value} (h : w.cell? a = some v) (u : Value) : (w.setCell a u).cell? a = some u := World.cell?_setCell_same' _ _ _ (by rw [h]; rfl)

set_option maxRecDepth 100000 in
set_option maxHeartbeats 1000000 in
theorem fr_if (w : World) (g o cap : Nat) (L : List Nd) (gr ge n : Nat) (T : WT) (hL : L.length ≤ 1353245080300) (hn : n < L.length) (hw : Wy L) (h : Hid (Lay w g o L)) (ht : Hid (Tb w gr ge L.length T)) (h7 : (nd L n).kind = 7) :
    Calls Tryd.prog 36 #[.agg #[.slice (some ⟨g, o, none⟩) L.length cap, .slice (some ⟨gr, 0, none⟩) L.length L.length, .slice (some ⟨ge, 0, none⟩) L.length L.length], .int .i64 (n : Int)] w fun e w' => e = .returned (.bool (wayAt L T n).1) ∧ Below w.heap.size w w' := by
  obtain ⟨w2, hw2, c3, f3, _, w3, hw3, k3⟩ := w3_of w g o cap L gr ge T h.out ht.out
  have K3 : Hid (W3 w w3 g o cap L gr ge T) := k3
  have hkd := k3.lay.kind hn
  rw [h7] at hkd
  have d0 := k3.c0
  have d1 := k3.c1
  have d2 := k3.c2
  have i0 : (0 : Int) ≤ (n : Int) := by omega
  have i1 : (n : Int) < (L.length : Int) := by omega
  obtain ⟨a1, a2⟩ := hw.iff n hn h7
  obtain ⟨-, e1, e2⟩ := end_int (hw.good n hn)
  obtain ⟨-, e3, e4⟩ := end_int (hw.good (n + 1) (by omega))
  obtain ⟨-, e5, e6⟩ := end_int (hw.good (endOf L (n + 1)) (by omega))
  have e7 := hw.nest n (endOf L (n + 1)) hn (by omega) a2
  have HC1 : Hid (Calls Tryd.prog 57 #[.agg #[.slice (some ⟨g, o, none⟩) L.length cap, .slice (some ⟨gr, 0, none⟩) L.length L.length, .slice (some ⟨ge, 0, none⟩) L.length L.length], .int .i64 (n : Int)] w3 fun e w' => e = .returned (.tuple #[.int .i64 (endOf L (n + 1) : Int), .int .i64 (endOf L (endOf L (n + 1)) : Int)]) ∧ Below w3.heap.size w3 w') :=
    branches_any w3 g o cap L _ _ _ _ _ _ n hL (by omega) (hw.good _ (by omega)) (by omega) (hw.good _ (by omega)) k3.lay
  have HC2 : Hid (∀ w', Below w3.heap.size w3 w' → Calls Tryd.prog 58 #[.agg #[.slice (some ⟨g, o, none⟩) L.length cap, .slice (some ⟨gr, 0, none⟩) L.length L.length, .slice (some ⟨ge, 0, none⟩) L.length L.length], .int .i64 (n : Int)] w' fun e w'' => e = .returned (.int .i64 (endOf L n : Int)) ∧ Below w'.heap.size w' w'') := fun w' hb =>
    behind_any w' g o cap L _ _ _ _ _ _ n hL hn (hw.good n hn) (k3.lay.next hb)
  rw [way_7 h7]
  clear hw h7 h ht
  generalize endOf L (endOf L (n + 1)) = E2 at *
  generalize endOf L (n + 1) = E1 at *
  generalize endOf L n = E at *
  have hE1 : E1 < L.length := by omega
  have j0 : (0 : Int) ≤ (E1 : Int) := by omega
  have j1 : (E1 : Int) < (L.length : Int) := by omega
  have z3 := k3.z
  obtain ⟨r, hr⟩ : ∃ r, (if E ≤ E2 then (false, true) else ((T E1).1 && (T E2).1, (T E1).2 || (T E2).2)).1 = r := ⟨_, rfl⟩
  have HR : Hid ((if E ≤ E2 then (false, true) else ((T E1).1 && (T E2).1, (T E1).2 || (T E2).2)).1 = r) := hr
  rw [hr]
  clear hr
  clear k3
  have fin : ∀ (wx : World) (b : Bool), Below w3.heap.size w3 wx → Below w.heap.size w (wx.setCell ⟨w.heap.size + 1, 0, none⟩ (.bool b)) := fun wx b hb => ((K3.out.b.trans (hb.mono (by omega))).setCell (p := ⟨w.heap.size + 1, 0, none⟩) (by show w.heap.size ≤ w.heap.size + 1; omega) _)
  have FIN : Hid (∀ (wx : World) (b : Bool), Below w3.heap.size w3 wx → Below w.heap.size w (wx.setCell ⟨w.heap.size + 1, 0, none⟩ (.bool b))) := fin
  clear fin
  have hc : ∀ wx, Below w3.heap.size w3 wx → (wx.cell? ⟨w.heap.size, 0, none⟩ = some (.slice (some ⟨g, o, none⟩) L.length cap) ∧ wx.cell? ⟨w.heap.size, 1, none⟩ = some (.slice (some ⟨gr, 0, none⟩) L.length L.length) ∧ wx.cell? ⟨w.heap.size, 2, none⟩ = some (.slice (some ⟨ge, 0, none⟩) L.length L.length) ∧ wx.cell? ⟨w.heap.size + 1, 0, none⟩ = some (.bool false) ∧ wx.frozen? ⟨w.heap.size + 1, 0, none⟩ = false ∧ Tb wx gr ge L.length T) := fun wx hb =>
    ⟨(hb.cell (p := ⟨w.heap.size, 0, none⟩) (by show w.heap.size < _; omega)).trans K3.out.c0, (hb.cell (p := ⟨w.heap.size, 1, none⟩) (by show w.heap.size < _; omega)).trans K3.out.c1, (hb.cell (p := ⟨w.heap.size, 2, none⟩) (by show w.heap.size < _; omega)).trans K3.out.c2, (hb.cell (p := ⟨w.heap.size + 1, 0, none⟩) (by show w.heap.size + 1 < _; omega)).trans K3.out.c3, (hb.frozen (p := ⟨w.heap.size + 1, 0, none⟩) (by show w.heap.size + 1 < _; omega)).trans K3.out.f3, K3.out.tb.next hb⟩
  have HC : Hid (∀ wx, Below w3.heap.size w3 wx → (wx.cell? ⟨w.heap.size, 0, none⟩ = some (.slice (some ⟨g, o, none⟩) L.length cap) ∧ wx.cell? ⟨w.heap.size, 1, none⟩ = some (.slice (some ⟨gr, 0, none⟩) L.length L.length) ∧ wx.cell? ⟨w.heap.size, 2, none⟩ = some (.slice (some ⟨ge, 0, none⟩) L.length L.length) ∧ wx.cell? ⟨w.heap.size + 1, 0, none⟩ = some (.bool false) ∧ wx.frozen? ⟨w.heap.size + 1, 0, none⟩ = false ∧ Tb wx gr ge L.length T)) := hc
  clear hc
  cases t1 : (T E1).1 with
  | false =>
    have hr : r = false := by rw [← HR.out]; split <;> simp [t1]
    subst hr
    go_enter Tryd.func36, Tryd.ntmps36
    go_wp2_with (first
      | (go_at_call 57; refine HC1.out.mono ?_; rintro e w4 ⟨rfl, hb4⟩; obtain ⟨x0, x1, x2, x3, x4, x5⟩ := HC.out w4 hb4; have y1 := x5.r E1 hE1; rw [t1] at y1; have hq := set_same x3)
      | go_in)
    go_ret
    exact ⟨rfl, FIN.out w4 false hb4⟩
  | true =>
    by_cases hlt : E2 < E
    · have hlt' : (E2 : Int) < (E : Int) := by omega
      have hE2 : E2 < L.length := by omega
      have k0 : (0 : Int) ≤ (E2 : Int) := by omega
      have k1 : (E2 : Int) < (L.length : Int) := by omega
      obtain ⟨b, t2⟩ : ∃ b, (T E2).1 = b := ⟨_, rfl⟩
      have hr : r = b := by rw [← HR.out, if_neg (by omega)]; simp [t1, t2]
      subst hr
      go_enter Tryd.func36, Tryd.ntmps36
      go_wp2_with (first
        | (go_at_call 57; refine HC1.out.mono ?_; rintro e w4 ⟨rfl, hb4⟩; obtain ⟨x0, x1, x2, x3, x4, x5⟩ := HC.out w4 hb4; have y1 := x5.r E1 hE1; rw [t1] at y1)
        | (go_at_call 58; refine (HC2.out w4 hb4).mono ?_; rintro e w5 ⟨rfl, hb5⟩; have hb6 := hb4.trans (hb5.mono hb4.size); obtain ⟨x0', x1', x2', x3', x4', x5'⟩ := HC.out w5 hb6; have y2 := x5'.r E2 hE2; rw [t2] at y2; have hq := set_same x3')
        | go_in)
      go_ret
      exact ⟨rfl, FIN.out w5 r hb6⟩
    · have hlt' : ¬ (E2 : Int) < (E : Int) := by omega
      have hr : r = false := by rw [← HR.out, if_pos (by omega)]
      subst hr
      go_enter Tryd.func36, Tryd.ntmps36
      go_wp2_with (first
        | (go_at_call 57; refine HC1.out.mono ?_; rintro e w4 ⟨rfl, hb4⟩; obtain ⟨x0, x1, x2, x3, x4, x5⟩ := HC.out w4 hb4; have y1 := x5.r E1 hE1; rw [t1] at y1)
        | (go_at_call 58; refine (HC2.out w4 hb4).mono ?_; rintro e w5 ⟨rfl, hb5⟩; have hb6 := hb4.trans (hb5.mono hb4.size); obtain ⟨x0', x1', x2', x3', x4', x5'⟩ := HC.out w5 hb6; have hq := set_same x3')
        | go_in)
      go_ret
      exact ⟨rfl, FIN.out w5 false hb6⟩

end Go.Proofs.YtlocaalipjjnpaaDoor

namespace Go.Proofs.YtlocaalipjjnpaaDoor
open Go.RowKit Go.Shelf
attribute [local go_sem] Oper.semAt_some

theorem skeep_own {β : Type} (B g o cap n : Nat) (L : List Nd) (p1 : Option Addr) (n1 c1 : Nat) (p2 : Option Addr) (n2 c2 : Nat) : Own (fun (_ : β) W => SKeep B g o cap n L p1 n1 c1 p2 n2 c2 W) := fun s W W' row hs hg hr =>
  ⟨lay_own g o L s W W' row hs.lay hg hr, cell_kept hs.k0 hg hr, cell_kept hs.k1 hg hr, cell_kept hs.k2 hg hr, cell_kept hs.nn hg hr⟩
theorem SKeep.set {B g o cap n C : Nat} {L : List Nd} {p1 p2 : Option Addr} {n1 c1 n2 c2 : Nat} {w : World} (h : SKeep B g o cap n L p1 n1 c1 p2 n2 c2 w) (v : Value) (hg : g ≠ C) (h1 : B ≠ C) (h2 : B + 1 ≠ C) : SKeep B g o cap n L p1 n1 c1 p2 n2 c2 (w.setCell ⟨C, 0, none⟩ v) :=
  ⟨h.lay.set v hg, (cell_set v (a := ⟨B, 0, none⟩) h1).trans h.k0, (cell_set v (a := ⟨B, 1, none⟩) h1).trans h.k1, (cell_set v (a := ⟨B, 2, none⟩) h1).trans h.k2, (cell_set v (a := ⟨B + 1, 0, none⟩) h2).trans h.nn⟩

theorem retL_snoc (T : WT) (pre : List Nat) (x : Nat) : retL T (pre ++ [x]) false = (T x).1 := by simp [retL]
theorem mem_stm {L : List Nd} {e : Nat} : ∀ (f k x : Nat), x ∈ stm L e f k → x < e
  | 0, _, _, h => by cases h
  | f + 1, k, x, h => by
    unfold stm at h
    split at h
    · cases h
    · split at h
      · exact mem_stm f _ _ h
      · rcases List.mem_cons.1 h with rfl | h
        · omega
        · exact mem_stm f _ _ h

theorem ret36 {tm : Array Value} {D : Nat} {W : World} {b : Bool} {R : Ending → World → Prop} (h6 : tm[4]?.getD undef = .bool b) (hK : W.heap[D]? = some (.deferred (some [])))
    (hR : R (.returned (.bool b)) (W.putObj D (.deferred none))) : bodyPostM Fence.wide 6 Tryd.prog Tryd.f36 R Exit.ret { tmps := tm, defers := [{ target := .collected D, args := #[] }] } W := by
  refine ⟨by simp, .inl ⟨_, _, rfl, run_takeDeferred hK, ?_⟩⟩
  refine ⟨.bool b, ?_, hR⟩
  simp [results, Tryd.results36, go_sem, h6]

set_option maxRecDepth 100000 in
set_option maxHeartbeats 4000000 in
theorem fr_blk (w : World) (g o cap : Nat) (L : List Nd) (gr ge n : Nat) (T : WT) (hL : L.length ≤ 1353245080300) (hn : n < L.length) (hw : Wy L) (h : Hid (Lay w g o L)) (ht : Hid (Tb w gr ge L.length T)) (h4 : (nd L n).kind = 4) :
    Calls Tryd.prog 36 #[.agg #[.slice (some ⟨g, o, none⟩) L.length cap, .slice (some ⟨gr, 0, none⟩) L.length L.length, .slice (some ⟨ge, 0, none⟩) L.length L.length], .int .i64 (n : Int)] w fun e w' => e = .returned (.bool (wayAt L T n).1) ∧ Below w.heap.size w w' := by
  obtain ⟨w2, hw2, c3, f3, -, w3, hw3, k3⟩ := w3_of w g o cap L gr ge T h.out ht.out
  have K3 : Hid (W3 w w3 g o cap L gr ge T) := k3
  have hkd := k3.lay.kind hn
  rw [h4] at hkd
  have d0 := k3.c0
  have d1 := k3.c1
  have d2 := k3.c2
  have i0 : (0 : Int) ≤ (n : Int) := by omega
  have i1 : (n : Int) < (L.length : Int) := by omega
  obtain ⟨-, e1, e2⟩ := end_int (hw.good n hn)
  rw [way_4 h4]
  obtain ⟨r, hr⟩ : ∃ r, retL T (stmS L (n + 1) (endOf L n)) false = r := ⟨_, rfl⟩
  have HR : Hid (retL T (stmS L (n + 1) (endOf L n)) false = r) := hr
  rw [hr]
  have HW : Hid (Wy L) := hw
  have hgw := h.out.lt
  have htr := ht.out.lr
  have hte := ht.out.le
  clear h4 h ht hr hw
  refine (callsIn_wide (n := 6)).1 ?_
  refine callsIn_of_wp_marks Tryd.func36 rfl trivial ?_ rfl
  simp only [Tryd.ntmps36, List.size_toArray, List.length_cons, List.length_nil, Nat.reduceAdd, Nat.reduceSub, Array.replicate_succ, Array.replicate_zero, List.push_toArray, List.append_toArray, List.nil_append, List.cons_append]
  gi_wp2_with (refine ⟨trivial, ?_⟩; gi_at_call 52; refine (callsIn_wide.2 (statements_any _ _ _ _ _ _ _ _ _ _ _)).mono ?_; rintro e w' ⟨rfl, rfl⟩)
  have zw := k3.z
  have bw : Below w.heap.size w ((w3.alloc (.cells #[.slice (some ⟨g, o, none⟩) L.length cap, .slice (some ⟨gr, 0, none⟩) L.length L.length, .slice (some ⟨ge, 0, none⟩) L.length L.length] 51)).alloc (.cells #[.int .i64 (n : Int)] 3)) := (k3.b.alloc (by omega) _).alloc (by simp; omega) _
  have bc : Below w3.heap.size w3 ((w3.alloc (.cells #[.slice (some ⟨g, o, none⟩) L.length cap, .slice (some ⟨gr, 0, none⟩) L.length L.length, .slice (some ⟨ge, 0, none⟩) L.length L.length] 51)).alloc (.cells #[.int .i64 (n : Int)] 3)) := ((Below.refl _ w3).alloc (Nat.le_refl _) _).alloc (by simp) _
  have zc : ((w3.alloc (.cells #[.slice (some ⟨g, o, none⟩) L.length cap, .slice (some ⟨gr, 0, none⟩) L.length L.length, .slice (some ⟨ge, 0, none⟩) L.length L.length] 51)).alloc (.cells #[.int .i64 (n : Int)] 3)).heap.size = w.heap.size + 4 := by simp [zw]
  have kc : SKeep w3.heap.size g o cap n L (some ⟨gr, 0, none⟩) L.length L.length (some ⟨ge, 0, none⟩) L.length L.length ((w3.alloc (.cells #[.slice (some ⟨g, o, none⟩) L.length cap, .slice (some ⟨gr, 0, none⟩) L.length L.length, .slice (some ⟨ge, 0, none⟩) L.length L.length] 51)).alloc (.cells #[.int .i64 (n : Int)] 3)) :=
    ⟨k3.lay.next bc, cell_old _ (cell_new _ _ _ _ _ rfl), cell_old _ (cell_new _ _ _ _ _ rfl), cell_old _ (cell_new _ _ _ _ _ rfl), new_cells _ _ _ _ _ _ (by simp) rfl⟩
  have q3 := (bc.cell (p := ⟨w.heap.size + 1, 0, none⟩) (by show w.heap.size + 1 < _; omega)).trans k3.c3
  have q4 := (bc.frozen (p := ⟨w.heap.size + 1, 0, none⟩) (by show w.heap.size + 1 < _; omega)).trans k3.f3
  have q1 := (bc.cell (p := ⟨w.heap.size, 1, none⟩) (by show w.heap.size < _; omega)).trans k3.c1
  have qt := k3.tb.next bc
  clear hw3 hkd d0 d1 d2 k3 c3 f3 hw2 bc K3
  generalize (w3.alloc (.cells #[.slice (some ⟨g, o, none⟩) L.length cap, .slice (some ⟨gr, 0, none⟩) L.length L.length, .slice (some ⟨ge, 0, none⟩) L.length L.length] 51)).alloc (.cells #[.int .i64 (n : Int)] 3) = wc at *
  generalize w3.heap.size = C at *
  subst zw
  refine wpIn_range_guard rfl (by omega) (gf := 61) (lb := #[.pointer (some ⟨w.heap.size + 2 + 1, 0, none⟩), .pointer (some ⟨w.heap.size + 2, 0, none⟩)]) rfl trivial (enters_of Tryd.func61 (by kernel_rfl) rfl)
    (stm_seq 5 (by omega) (w.heap.size + 2) g o cap n L _ _ _ _ _ _ wc hL hn HW.out kc (by omega)) (Below.refl _ _) (fun _ => rfl)
    (fun pre W => ((W.cell? ⟨w.heap.size + 1, 0, none⟩ = some (.bool (retL T pre false)) ∧ W.frozen? ⟨w.heap.size + 1, 0, none⟩ = false) ∧ SKeep (w.heap.size + 2) g o cap n L (some ⟨gr, 0, none⟩) L.length L.length (some ⟨ge, 0, none⟩) L.length L.length W) ∧ Below (w.heap.size + 1) wc W)
    (fun _ _ _ => False)
    (OwnFrom.and (Own.from (fun s A B row hs hg hr => ⟨cell_own _ (fun s : List Nat => .bool (retL T s false)) s A B row hs.1 hg hr, skeep_own _ _ _ _ _ _ _ _ _ _ _ _ s A B row hs.2 hg hr⟩) _) (ownFrom_below (by omega) (by omega)))
    (fun c => (fun s A B row hs hg hr => hs))
    ⟨⟨⟨q3, q4⟩, kc⟩, Below.refl _ _⟩ (fun pre W hI => hI.1.2) (fun pre x W hI => trivial)
    (fun x => { tmps := #[.agg #[.slice (some ⟨g, o, none⟩) L.length cap, .slice (some ⟨gr, 0, none⟩) L.length L.length, .slice (some ⟨ge, 0, none⟩) L.length L.length], .int .i64 (n : Int), .pointer (some ⟨w.heap.size, 0, none⟩), undef, .bool false, .pointer (some ⟨w.heap.size + 1, 0, none⟩), .int .i64 (x : Int), undef, undef, .pointer (some ⟨w.heap.size, 0, none⟩), .slice (some ⟨g, o, none⟩) L.length cap, .int .i64 (n : Int), .pointer (some ⟨g, o + n * 9, none⟩), .pointer (some ⟨g, o + n * 9, none⟩), .int .i64 4, .bool false, .bool false, .bool true, .bool true, .agg #[.slice (some ⟨g, o, none⟩) L.length cap, .slice (some ⟨gr, 0, none⟩) L.length L.length, .slice (some ⟨ge, 0, none⟩) L.length L.length], .int .i64 (n : Int), .func (.func 61) #[] #[.pointer (some ⟨w.heap.size + 2 + 1, 0, none⟩), .pointer (some ⟨w.heap.size + 2, 0, none⟩)], .int .i64 (x : Int), undef, undef, undef, undef, undef, undef, undef, undef, undef, undef, undef, undef, undef, undef, undef, undef, undef, undef, undef, undef, undef, undef, undef, undef, undef, undef, undef, undef, undef, undef, undef, undef, undef], defers := [] }) ?assign ?body ?done ?stop
  case assign =>
    intro l x W K hK
    gi_wp2
    simpa [encK] using hK
  case body =>
    rintro l pre x W ⟨⟨⟨hc, hf⟩, hk⟩, hB⟩ hx
    have hxl : x < L.length := by
      obtain ⟨rest, hrest⟩ := hx
      have : x ∈ stmS L (n + 1) (endOf L n) := by rw [← hrest]; simp
      have := mem_stm _ _ _ this
      omega
    have p1 := (hB.cell (p := ⟨w.heap.size, 1, none⟩) (by show w.heap.size < _; omega)).trans q1
    have p2 := (qt.below hB (by omega) (by omega)).r x hxl
    have j0 : (0 : Int) ≤ (x : Int) := by omega
    have j1 : (x : Int) < (L.length : Int) := by omega
    have HFin : Hid (KeepsOthers W (W.setCell ⟨w.heap.size + 1, 0, none⟩ (.bool (T x).1)) ∧ (((W.setCell ⟨w.heap.size + 1, 0, none⟩ (.bool (T x).1)).cell? ⟨w.heap.size + 1, 0, none⟩ = some (.bool (retL T (pre ++ [x]) false)) ∧ (W.setCell ⟨w.heap.size + 1, 0, none⟩ (.bool (T x).1)).frozen? ⟨w.heap.size + 1, 0, none⟩ = false) ∧ SKeep (w.heap.size + 2) g o cap n L (some ⟨gr, 0, none⟩) L.length L.length (some ⟨ge, 0, none⟩) L.length L.length (W.setCell ⟨w.heap.size + 1, 0, none⟩ (.bool (T x).1))) ∧ Below (w.heap.size + 1) wc (W.setCell ⟨w.heap.size + 1, 0, none⟩ (.bool (T x).1))) :=
      ⟨KeepsOthers.setCell _ _ _, ⟨⟨by rw [retL_snoc]; exact set_same hc _, by rw [World.frozen?_setCell]; exact hf⟩, hk.set _ (by omega) (by omega) (by omega)⟩, hB.setCell (p := ⟨w.heap.size + 1, 0, none⟩) (Nat.le_refl _) _⟩
    clear hk hB q1 q3 q4 qt kc bw
    generalize (T x).1 = b at *
    gi_wp2
    exact HFin.out
  case done =>
    rintro D ys W hD rfl ⟨⟨⟨hc, hf⟩, hk⟩, hB⟩ hK
    rw [HR.out] at hc
    have HBW : Hid (Below w.heap.size w W) := bw.trans (hB.mono (by omega))
    clear hk hB bw q1 q3 q4 qt kc
    gi_wp2
    exact ret36 rfl hK ⟨rfl, HBW.out.trans (belowK_b (w := w) (Nat.le_refl _) _ D _ _ (by omega) hK rfl rfl)⟩
  case stop =>
    rintro D c pre W hD hF
    exact hF.elim

end Go.Proofs.YtlocaalipjjnpaaDoor

namespace Go.Proofs.YtlocaalipjjnpaaDoor
open Go.RowKit Go.Shelf

set_option maxRecDepth 100000 in
set_option maxHeartbeats 1000000 in
theorem fe_plain (w : World) (g o cap : Nat) (L : List Nd) (gr ge n : Nat) (T : WT) (hn : n < L.length) (h : Hid (Lay w g o L)) (h4 : (nd L n).kind ≠ 4) (h7 : (nd L n).kind ≠ 7) :
    Calls Tryd.prog 37 #[.agg #[.slice (some ⟨g, o, none⟩) L.length cap, .slice (some ⟨gr, 0, none⟩) L.length L.length, .slice (some ⟨ge, 0, none⟩) L.length L.length], .int .i64 (n : Int)] w fun e w' => e = .returned (.bool (wayAt L T n).2) ∧ Below w.heap.size w w' := by
  obtain ⟨w2, hw2, z2, B2, c0, c1, c2, c3, f3⟩ := two_world w g o cap L.length gr ge
  have BB : Hid (∀ b : Bool, Below w.heap.size w (w2.setCell ⟨w.heap.size + 1, 0, none⟩ (.bool b))) := fun b => B2.setCell (p := ⟨w.heap.size + 1, 0, none⟩) (by show w.heap.size ≤ w.heap.size + 1; omega) _
  have hkd := (h.out.next B2).kind hn
  have i0 : (0 : Int) ≤ (n : Int) := by omega
  have i1 : (n : Int) < (L.length : Int) := by omega
  have hq := fun b : Bool => set_same c3 (.bool b)
  obtain ⟨r, hr⟩ : ∃ r, (wayAt L T n).2 = r := ⟨_, rfl⟩
  have HR : Hid (r = if (nd L n).kind = 12 ∨ (nd L n).kind = 10 ∨ (nd L n).kind = 11 then false else (decide (5 ≤ (nd L n).kind) && decide ((nd L n).kind ≤ 16))) := by
    show r = _
    rw [← hr]
    by_cases a : (nd L n).kind = 12
    · rw [way_12 a, if_pos (.inl a)]
    · by_cases b : (nd L n).kind = 10 ∨ (nd L n).kind = 11
      · rw [way_1011 b, if_pos (.inr b)]
      · rw [way_any a (by omega) (by omega) h4 h7, if_neg (by omega)]
  rw [hr]
  generalize (nd L n).kind = q at *
  clear h B2 hr
  by_cases h12 : q = 12
  · subst h12
    have hr : r = false := by rw [HR.out]; rfl
    subst hr
    go_enter Tryd.func37, Tryd.ntmps37
    go_wp2
    exact bodyPost_ret (v := .bool false) (by simp [results, Tryd.results37, go_sem, hq]) rfl ⟨rfl, BB.out _⟩
  · have q1 : (q == 12) = false := by simpa using h12
    by_cases h10 : q = 10
    · subst h10
      have hr : r = false := by rw [HR.out]; rfl
      subst hr
      go_enter Tryd.func37, Tryd.ntmps37
      go_wp2
      exact bodyPost_ret (v := .bool false) (by simp [results, Tryd.results37, go_sem, hq]) rfl ⟨rfl, BB.out _⟩
    · have q4 : (q == 10) = false := by simpa using h10
      by_cases h11 : q = 11
      · subst h11
        have hr : r = false := by rw [HR.out]; rfl
        subst hr
        go_enter Tryd.func37, Tryd.ntmps37
        go_wp2
        exact bodyPost_ret (v := .bool false) (by simp [results, Tryd.results37, go_sem, hq]) rfl ⟨rfl, BB.out _⟩
      · have q5 : (q == 11) = false := by simpa using h11
        have q2 : (q == 4) = false := by simpa using h4
        have q3 : (q == 7) = false := by simpa using h7
        have hr : r = (decide (5 ≤ q) && decide (q ≤ 16)) := by rw [HR.out, if_neg (by omega)]
        clear HR
        by_cases h5 : 5 ≤ q
        · have hr' : r = decide (q ≤ 16) := by rw [hr]; simp [h5]
          clear hr
          subst hr'
          go_enter Tryd.func37, Tryd.ntmps37
          go_wp2
          exact bodyPost_ret (v := .bool (decide (q ≤ 16))) (by simp [results, Tryd.results37, go_sem, hq]) rfl ⟨rfl, BB.out _⟩
        · have hr' : r = false := by rw [hr]; simp [h5]
          clear hr
          subst hr'
          go_enter Tryd.func37, Tryd.ntmps37
          go_wp2
          exact bodyPost_ret (v := .bool false) (by simp [results, Tryd.results37, go_sem, hq]) rfl ⟨rfl, BB.out _⟩

set_option maxRecDepth 100000 in
set_option maxHeartbeats 1000000 in
theorem fe_if (w : World) (g o cap : Nat) (L : List Nd) (gr ge n : Nat) (T : WT) (hL : L.length ≤ 1353245080300) (hn : n < L.length) (hw : Wy L) (h : Hid (Lay w g o L)) (ht : Hid (Tb w gr ge L.length T)) (h7 : (nd L n).kind = 7) :
    Calls Tryd.prog 37 #[.agg #[.slice (some ⟨g, o, none⟩) L.length cap, .slice (some ⟨gr, 0, none⟩) L.length L.length, .slice (some ⟨ge, 0, none⟩) L.length L.length], .int .i64 (n : Int)] w fun e w' => e = .returned (.bool (wayAt L T n).2) ∧ Below w.heap.size w w' := by
  obtain ⟨w3, hw3, -, -, k3, -⟩ := w3_of w g o cap L gr ge T h.out ht.out
  have K3 : Hid (W3 w w3 g o cap L gr ge T) := k3
  have hkd := k3.lay.kind hn
  rw [h7] at hkd
  have d0 := k3.c0
  have d1 := k3.c1
  have d2 := k3.c2
  have i0 : (0 : Int) ≤ (n : Int) := by omega
  have i1 : (n : Int) < (L.length : Int) := by omega
  obtain ⟨a1, a2⟩ := hw.iff n hn h7
  obtain ⟨-, e1, e2⟩ := end_int (hw.good n hn)
  obtain ⟨-, e3, e4⟩ := end_int (hw.good (n + 1) (by omega))
  obtain ⟨-, e5, e6⟩ := end_int (hw.good (endOf L (n + 1)) (by omega))
  have e7 := hw.nest n (endOf L (n + 1)) hn (by omega) a2
  have HC1 : Hid (Calls Tryd.prog 57 #[.agg #[.slice (some ⟨g, o, none⟩) L.length cap, .slice (some ⟨gr, 0, none⟩) L.length L.length, .slice (some ⟨ge, 0, none⟩) L.length L.length], .int .i64 (n : Int)] w3 fun e w' => e = .returned (.tuple #[.int .i64 (endOf L (n + 1) : Int), .int .i64 (endOf L (endOf L (n + 1)) : Int)]) ∧ Below w3.heap.size w3 w') :=
    branches_any w3 g o cap L _ _ _ _ _ _ n hL (by omega) (hw.good _ (by omega)) (by omega) (hw.good _ (by omega)) k3.lay
  have HC2 : Hid (∀ w', Below w3.heap.size w3 w' → Calls Tryd.prog 58 #[.agg #[.slice (some ⟨g, o, none⟩) L.length cap, .slice (some ⟨gr, 0, none⟩) L.length L.length, .slice (some ⟨ge, 0, none⟩) L.length L.length], .int .i64 (n : Int)] w' fun e w'' => e = .returned (.int .i64 (endOf L n : Int)) ∧ Below w'.heap.size w' w'') := fun w' hb =>
    behind_any w' g o cap L _ _ _ _ _ _ n hL hn (hw.good n hn) (k3.lay.next hb)
  rw [way_7 h7]
  clear hw h7 h ht
  generalize endOf L (endOf L (n + 1)) = E2 at *
  generalize endOf L (n + 1) = E1 at *
  generalize endOf L n = E at *
  have hE1 : E1 < L.length := by omega
  have j0 : (0 : Int) ≤ (E1 : Int) := by omega
  have j1 : (E1 : Int) < (L.length : Int) := by omega
  have z3 := k3.z
  obtain ⟨r, hr⟩ : ∃ r, (if E ≤ E2 then (false, true) else ((T E1).1 && (T E2).1, (T E1).2 || (T E2).2)).2 = r := ⟨_, rfl⟩
  have HR : Hid ((if E ≤ E2 then (false, true) else ((T E1).1 && (T E2).1, (T E1).2 || (T E2).2)).2 = r) := hr
  rw [hr]
  clear hr
  clear k3
  have fin : ∀ (wx : World) (b : Bool), Below w3.heap.size w3 wx → Below w.heap.size w (wx.setCell ⟨w.heap.size + 1, 0, none⟩ (.bool b)) := fun wx b hb => ((K3.out.b.trans (hb.mono (by omega))).setCell (p := ⟨w.heap.size + 1, 0, none⟩) (by show w.heap.size ≤ w.heap.size + 1; omega) _)
  have FIN : Hid (∀ (wx : World) (b : Bool), Below w3.heap.size w3 wx → Below w.heap.size w (wx.setCell ⟨w.heap.size + 1, 0, none⟩ (.bool b))) := fin
  clear fin
  have hc : ∀ wx, Below w3.heap.size w3 wx → (wx.cell? ⟨w.heap.size, 0, none⟩ = some (.slice (some ⟨g, o, none⟩) L.length cap) ∧ wx.cell? ⟨w.heap.size, 1, none⟩ = some (.slice (some ⟨gr, 0, none⟩) L.length L.length) ∧ wx.cell? ⟨w.heap.size, 2, none⟩ = some (.slice (some ⟨ge, 0, none⟩) L.length L.length) ∧ wx.cell? ⟨w.heap.size + 1, 0, none⟩ = some (.bool false) ∧ wx.frozen? ⟨w.heap.size + 1, 0, none⟩ = false ∧ Tb wx gr ge L.length T) := fun wx hb =>
    ⟨(hb.cell (p := ⟨w.heap.size, 0, none⟩) (by show w.heap.size < _; omega)).trans K3.out.c0, (hb.cell (p := ⟨w.heap.size, 1, none⟩) (by show w.heap.size < _; omega)).trans K3.out.c1, (hb.cell (p := ⟨w.heap.size, 2, none⟩) (by show w.heap.size < _; omega)).trans K3.out.c2, (hb.cell (p := ⟨w.heap.size + 1, 0, none⟩) (by show w.heap.size + 1 < _; omega)).trans K3.out.c3, (hb.frozen (p := ⟨w.heap.size + 1, 0, none⟩) (by show w.heap.size + 1 < _; omega)).trans K3.out.f3, K3.out.tb.next hb⟩
  have HC : Hid (∀ wx, Below w3.heap.size w3 wx → (wx.cell? ⟨w.heap.size, 0, none⟩ = some (.slice (some ⟨g, o, none⟩) L.length cap) ∧ wx.cell? ⟨w.heap.size, 1, none⟩ = some (.slice (some ⟨gr, 0, none⟩) L.length L.length) ∧ wx.cell? ⟨w.heap.size, 2, none⟩ = some (.slice (some ⟨ge, 0, none⟩) L.length L.length) ∧ wx.cell? ⟨w.heap.size + 1, 0, none⟩ = some (.bool false) ∧ wx.frozen? ⟨w.heap.size + 1, 0, none⟩ = false ∧ Tb wx gr ge L.length T)) := hc
  clear hc
  cases t1 : (T E1).2 with
  | true =>
    have hr : r = true := by rw [← HR.out]; split <;> simp [t1]
    subst hr
    go_enter Tryd.func37, Tryd.ntmps37
    go_wp2_with (first
      | (go_at_call 57; refine HC1.out.mono ?_; rintro e w4 ⟨rfl, hb4⟩; obtain ⟨x0, x1, x2, x3, x4, x5⟩ := HC.out w4 hb4; have y1 := x5.e E1 hE1; rw [t1] at y1; have hq := set_same x3)
      | go_in)
    exact bodyPost_ret (v := .bool true) (by simp [results, Tryd.results37, go_sem, hq]) rfl ⟨rfl, FIN.out w4 true hb4⟩
  | false =>
    by_cases hlt : E2 = E
    · subst hlt
      have hr : r = true := by rw [← HR.out, if_pos (Nat.le_refl _)]
      subst hr
      go_enter Tryd.func37, Tryd.ntmps37
      go_wp2_with (first
        | (go_at_call 57; refine HC1.out.mono ?_; rintro e w4 ⟨rfl, hb4⟩; obtain ⟨x0, x1, x2, x3, x4, x5⟩ := HC.out w4 hb4; have y1 := x5.e E1 hE1; rw [t1] at y1)
        | (go_at_call 58; refine (HC2.out w4 hb4).mono ?_; rintro e w5 ⟨rfl, hb5⟩; have hb6 := hb4.trans (hb5.mono hb4.size); obtain ⟨x0', x1', x2', x3', x4', x5'⟩ := HC.out w5 hb6; have hq := set_same x3')
        | go_in)
      exact bodyPost_ret (v := .bool true) (by simp [results, Tryd.results37, go_sem, hq]) rfl ⟨rfl, FIN.out w5 true hb6⟩
    · have hlt' : ((E2 : Int) == (E : Int)) = false := by rw [beq_eq_false_iff_ne]; omega
      have hE2 : E2 < L.length := by omega
      have k0 : (0 : Int) ≤ (E2 : Int) := by omega
      have k1 : (E2 : Int) < (L.length : Int) := by omega
      obtain ⟨b, t2⟩ : ∃ b, (T E2).2 = b := ⟨_, rfl⟩
      have hr : r = b := by rw [← HR.out, if_neg (by omega)]; simp [t1, t2]
      subst hr
      go_enter Tryd.func37, Tryd.ntmps37
      go_wp2_with (first
        | (go_at_call 57; refine HC1.out.mono ?_; rintro e w4 ⟨rfl, hb4⟩; obtain ⟨x0, x1, x2, x3, x4, x5⟩ := HC.out w4 hb4; have y1 := x5.e E1 hE1; rw [t1] at y1)
        | (go_at_call 58; refine (HC2.out w4 hb4).mono ?_; rintro e w5 ⟨rfl, hb5⟩; have hb6 := hb4.trans (hb5.mono hb4.size); obtain ⟨x0', x1', x2', x3', x4', x5'⟩ := HC.out w5 hb6; have y2 := x5'.e E2 hE2; rw [t2] at y2; have hq := set_same x3')
        | go_in)
      exact bodyPost_ret (v := .bool r) (by simp [results, Tryd.results37, go_sem, hq]) rfl ⟨rfl, FIN.out w5 r hb6⟩

end Go.Proofs.YtlocaalipjjnpaaDoor

namespace Go.Proofs.YtlocaalipjjnpaaDoor
open Go.RowKit Go.Shelf
attribute [local go_sem] Oper.semAt_some

theorem ret37 {tm : Array Value} {B D : Nat} {W : World} {b : Bool} {R : Ending → World → Prop} (hc : W.cell? ⟨B, 0, none⟩ = some (.bool b)) (h6 : tm[4]?.getD undef = .pointer (some ⟨B, 0, none⟩)) (hK : W.heap[D]? = some (.deferred (some [])))
    (hR : R (.returned (.bool b)) (W.putObj D (.deferred none))) : bodyPostM Fence.wide 6 Tryd.prog Tryd.f37 R Exit.ret { tmps := tm, defers := [{ target := .collected D, args := #[] }] } W := by
  refine ⟨by simp, .inl ⟨_, _, rfl, run_takeDeferred hK, ?_⟩⟩
  have e0 := cell_kept hc (grownBy_putObj' _ D (.deferred none)) (fun r e => by cases e; exact ⟨_, hK, rfl⟩)
  refine ⟨.bool b, ?_, hR⟩
  simp [results, Tryd.results37, go_sem, h6, e0]

set_option maxRecDepth 100000 in
set_option maxHeartbeats 4000000 in
theorem fe_blk (w : World) (g o cap : Nat) (L : List Nd) (gr ge n : Nat) (T : WT) (hL : L.length ≤ 1353245080300) (hn : n < L.length) (hw : Wy L) (h : Hid (Lay w g o L)) (ht : Hid (Tb w gr ge L.length T)) (h4 : (nd L n).kind = 4) :
    Calls Tryd.prog 37 #[.agg #[.slice (some ⟨g, o, none⟩) L.length cap, .slice (some ⟨gr, 0, none⟩) L.length L.length, .slice (some ⟨ge, 0, none⟩) L.length L.length], .int .i64 (n : Int)] w fun e w' => e = .returned (.bool (wayAt L T n).2) ∧ Below w.heap.size w w' := by
  obtain ⟨w3, hw3, -, -, k3, -⟩ := w3_of w g o cap L gr ge T h.out ht.out
  have K3 : Hid (W3 w w3 g o cap L gr ge T) := k3
  have hkd := k3.lay.kind hn
  rw [h4] at hkd
  have d0 := k3.c0
  have d1 := k3.c1
  have d2 := k3.c2
  have i0 : (0 : Int) ≤ (n : Int) := by omega
  have i1 : (n : Int) < (L.length : Int) := by omega
  obtain ⟨-, e1, e2⟩ := end_int (hw.good n hn)
  rw [way_4 h4]
  obtain ⟨r, hr⟩ : ∃ r, endL T (stmS L (n + 1) (endOf L n)) = r := ⟨_, rfl⟩
  have HR : Hid (endL T (stmS L (n + 1) (endOf L n)) = r) := hr
  rw [hr]
  have HW : Hid (Wy L) := hw
  have hgw := h.out.lt
  have htr := ht.out.lr
  have hte := ht.out.le
  clear h4 h ht hr hw
  refine (callsIn_wide (n := 6)).1 ?_
  refine callsIn_of_wp_marks Tryd.func37 rfl trivial ?_ rfl
  simp only [Tryd.ntmps37, List.size_toArray, List.length_cons, List.length_nil, Nat.reduceAdd, Nat.reduceSub, Array.replicate_succ, Array.replicate_zero, List.push_toArray, List.append_toArray, List.nil_append, List.cons_append]
  gi_wp2_with (refine ⟨trivial, ?_⟩; gi_at_call 52; refine (callsIn_wide.2 (statements_any _ _ _ _ _ _ _ _ _ _ _)).mono ?_; rintro e w' ⟨rfl, rfl⟩)
  have zw := k3.z
  have bw : Below w.heap.size w ((w3.alloc (.cells #[.slice (some ⟨g, o, none⟩) L.length cap, .slice (some ⟨gr, 0, none⟩) L.length L.length, .slice (some ⟨ge, 0, none⟩) L.length L.length] 51)).alloc (.cells #[.int .i64 (n : Int)] 3)) := (k3.b.alloc (by omega) _).alloc (by simp; omega) _
  have bc : Below w3.heap.size w3 ((w3.alloc (.cells #[.slice (some ⟨g, o, none⟩) L.length cap, .slice (some ⟨gr, 0, none⟩) L.length L.length, .slice (some ⟨ge, 0, none⟩) L.length L.length] 51)).alloc (.cells #[.int .i64 (n : Int)] 3)) := ((Below.refl _ w3).alloc (Nat.le_refl _) _).alloc (by simp) _
  have zc : ((w3.alloc (.cells #[.slice (some ⟨g, o, none⟩) L.length cap, .slice (some ⟨gr, 0, none⟩) L.length L.length, .slice (some ⟨ge, 0, none⟩) L.length L.length] 51)).alloc (.cells #[.int .i64 (n : Int)] 3)).heap.size = w.heap.size + 4 := by simp [zw]
  have kc : SKeep w3.heap.size g o cap n L (some ⟨gr, 0, none⟩) L.length L.length (some ⟨ge, 0, none⟩) L.length L.length ((w3.alloc (.cells #[.slice (some ⟨g, o, none⟩) L.length cap, .slice (some ⟨gr, 0, none⟩) L.length L.length, .slice (some ⟨ge, 0, none⟩) L.length L.length] 51)).alloc (.cells #[.int .i64 (n : Int)] 3)) :=
    ⟨k3.lay.next bc, cell_old _ (cell_new _ _ _ _ _ rfl), cell_old _ (cell_new _ _ _ _ _ rfl), cell_old _ (cell_new _ _ _ _ _ rfl), new_cells _ _ _ _ _ _ (by simp) rfl⟩
  have q3 := (bc.cell (p := ⟨w.heap.size + 1, 0, none⟩) (by show w.heap.size + 1 < _; omega)).trans k3.c3
  have q4 := (bc.frozen (p := ⟨w.heap.size + 1, 0, none⟩) (by show w.heap.size + 1 < _; omega)).trans k3.f3
  have q1 := (bc.cell (p := ⟨w.heap.size, 2, none⟩) (by show w.heap.size < _; omega)).trans k3.c2
  have qt := k3.tb.next bc
  clear hw3 hkd d0 d1 d2 k3 bc K3
  generalize (w3.alloc (.cells #[.slice (some ⟨g, o, none⟩) L.length cap, .slice (some ⟨gr, 0, none⟩) L.length L.length, .slice (some ⟨ge, 0, none⟩) L.length L.length] 51)).alloc (.cells #[.int .i64 (n : Int)] 3) = wc at *
  generalize w3.heap.size = C at *
  subst zw
  refine wpIn_range_guard rfl (by omega) (gf := 61) (lb := #[.pointer (some ⟨w.heap.size + 2 + 1, 0, none⟩), .pointer (some ⟨w.heap.size + 2, 0, none⟩)]) rfl trivial (enters_of Tryd.func61 (by kernel_rfl) rfl)
    (stm_seq 5 (by omega) (w.heap.size + 2) g o cap n L _ _ _ _ _ _ wc hL hn HW.out kc (by omega)) (Below.refl _ _) (fun _ => rfl)
    (fun pre W => ((endL T pre = true ∧ W.cell? ⟨w.heap.size + 1, 0, none⟩ = some (.bool false) ∧ W.frozen? ⟨w.heap.size + 1, 0, none⟩ = false) ∧ SKeep (w.heap.size + 2) g o cap n L (some ⟨gr, 0, none⟩) L.length L.length (some ⟨ge, 0, none⟩) L.length L.length W) ∧ Below (w.heap.size + 1) wc W)
    (fun c _ W => ((c = .ret ∧ r = false) ∧ (W.cell? ⟨w.heap.size + 1, 0, none⟩ = some (.bool false) ∧ W.frozen? ⟨w.heap.size + 1, 0, none⟩ = false)) ∧ Below (w.heap.size + 1) wc W)
    (OwnFrom.and (Own.from (fun s A B row hs hg hr => ⟨⟨hs.1.1, cell_own _ (fun _ : List Nat => .bool false) s A B row hs.1.2 hg hr⟩, skeep_own _ _ _ _ _ _ _ _ _ _ _ _ s A B row hs.2 hg hr⟩) _) (ownFrom_below (by omega) (by omega)))
    (fun c => OwnFrom.and (Own.from (fun s A B row hs hg hr => ⟨hs.1, cell_own _ (fun _ : List Nat => .bool false) s A B row hs.2 hg hr⟩) _) (ownFrom_below (by omega) (by omega)))
    ⟨⟨⟨rfl, q3, q4⟩, kc⟩, Below.refl _ _⟩ (fun pre W hI => hI.1.2) (fun pre x W hI => trivial)
    (fun x => { tmps := #[.agg #[.slice (some ⟨g, o, none⟩) L.length cap, .slice (some ⟨gr, 0, none⟩) L.length L.length, .slice (some ⟨ge, 0, none⟩) L.length L.length], .int .i64 (n : Int), .pointer (some ⟨w.heap.size, 0, none⟩), undef, .pointer (some ⟨w.heap.size + 1, 0, none⟩), .int .i64 4, .int .i64 (x : Int), undef, undef, .pointer (some ⟨w.heap.size, 0, none⟩), .slice (some ⟨g, o, none⟩) L.length cap, .int .i64 (n : Int), .pointer (some ⟨g, o + n * 9, none⟩), .pointer (some ⟨g, o + n * 9, none⟩), .int .i64 4, .int .i64 4, undef, undef, undef, undef, undef, undef, .bool false, .bool false, .bool false, .bool false, .bool true, .bool true, .agg #[.slice (some ⟨g, o, none⟩) L.length cap, .slice (some ⟨gr, 0, none⟩) L.length L.length, .slice (some ⟨ge, 0, none⟩) L.length L.length], .int .i64 (n : Int), .func (.func 61) #[] #[.pointer (some ⟨w.heap.size + 2 + 1, 0, none⟩), .pointer (some ⟨w.heap.size + 2, 0, none⟩)], .int .i64 (x : Int), undef, undef, undef, undef, undef, undef, undef, undef, undef, undef, undef, undef, undef, undef, undef, undef, undef, undef, undef, undef, undef, undef, undef, undef, undef, undef, undef, undef, undef, undef, undef, undef, undef], defers := [] }) ?assign ?body ?done ?stop
  case assign =>
    intro l x W K hK
    gi_wp2
    simpa [encK] using hK
  case body =>
    rintro l pre x W ⟨⟨⟨he, hc, hf⟩, hk⟩, hB⟩ hx
    obtain ⟨rest, hrest⟩ := hx
    have hxm : x ∈ stmS L (n + 1) (endOf L n) := by rw [← hrest]; simp
    have hxl : x < L.length := by
      have := mem_stm _ _ _ hxm
      omega
    have p1 := (hB.cell (p := ⟨w.heap.size, 2, none⟩) (by show w.heap.size < _; omega)).trans q1
    have p2 := (qt.below hB (by omega) (by omega)).e x hxl
    have j0 : (0 : Int) ≤ (x : Int) := by omega
    have j1 : (x : Int) < (L.length : Int) := by omega
    have HKK : Hid (SKeep (w.heap.size + 2) g o cap n L (some ⟨gr, 0, none⟩) L.length L.length (some ⟨ge, 0, none⟩) L.length L.length W) := hk
    have HBB : Hid (Below (w.heap.size + 1) wc W) := hB
    have HE : Hid (endL T pre = true) := he
    have HXM : Hid (x ∈ stmS L (n + 1) (endOf L n)) := hxm
    clear hk hB q1 q3 q4 qt kc bw he hxm hrest
    cases hb : (T x).2 with
    | true =>
      rw [hb] at p2
      have hsn : endL T (pre ++ [x]) = true := by
        have := HE.out
        unfold endL at this ⊢
        rw [List.all_append, this]
        simp [hb]
      gi_wp2
      exact ⟨KeepsOthers.refl _, ⟨⟨hsn, hc, hf⟩, HKK.out⟩, HBB.out⟩
    | false =>
      rw [hb] at p2
      have HRF : Hid (r = false) := by
        show r = false
        rw [← HR.out]
        unfold endL
        rw [List.all_eq_false]
        exact ⟨x, HXM.out, by simp [hb]⟩
      gi_wp2
      exact ⟨KeepsOthers.setCell _ _ _, ⟨⟨rfl, HRF.out⟩, set_same hc _, by rw [World.frozen?_setCell]; exact hf⟩, HBB.out.setCell (p := ⟨w.heap.size + 1, 0, none⟩) (Nat.le_refl _) _⟩
  case done =>
    rintro D ys W hD rfl ⟨⟨⟨he, hc, hf⟩, hk⟩, hB⟩ hK
    have hr : r = true := by rw [← HR.out]; exact he
    subst hr
    have HBW : Hid (Below w.heap.size w W) := bw.trans (hB.mono (by omega))
    clear hk hB bw q1 q3 q4 qt kc he
    have hK' : (W.setCell ⟨w.heap.size + 1, 0, none⟩ (.bool true)).heap[D]? = some (.deferred (some [])) := (KeepsOthers.setCell W ⟨w.heap.size + 1, 0, none⟩ (.bool true)).same D _ hK rfl
    have HK' : Hid ((W.setCell ⟨w.heap.size + 1, 0, none⟩ (.bool true)).heap[D]? = some (.deferred (some []))) := hK'
    clear hK'
    gi_wp2
    exact ret37 (set_same hc _) rfl HK'.out ⟨rfl, (HBW.out.setCell (p := ⟨w.heap.size + 1, 0, none⟩) (by show w.heap.size ≤ w.heap.size + 1; omega) _).trans (belowK_b (w := w) (Nat.le_refl _) _ D _ _ (by omega) HK'.out rfl rfl)⟩
  case stop =>
    rintro D c pre W hD ⟨⟨⟨rfl, hr⟩, hc, hf⟩, hB⟩ hK
    subst hr
    gi_wp2
    exact ret37 hc rfl hK ⟨rfl, (bw.trans (hB.mono (by omega))).trans (belowK_b (w := w) (Nat.le_refl _) _ D _ _ (by omega) hK rfl rfl)⟩

theorem findReturns_any (w : World) (g o cap : Nat) (L : List Nd) (gr ge n : Nat) (T : WT) (hL : L.length ≤ 1353245080300) (hn : n < L.length) (hw : Wy L) (h : Hid (Lay w g o L)) (ht : Hid (Tb w gr ge L.length T)) :
    Calls Tryd.prog 36 #[.agg #[.slice (some ⟨g, o, none⟩) L.length cap, .slice (some ⟨gr, 0, none⟩) L.length L.length, .slice (some ⟨ge, 0, none⟩) L.length L.length], .int .i64 (n : Int)] w fun e w' => e = .returned (.bool (wayAt L T n).1) ∧ Below w.heap.size w w' := by
  by_cases h4 : (nd L n).kind = 4
  · exact fr_blk w g o cap L gr ge n T hL hn hw h ht h4
  · by_cases h7 : (nd L n).kind = 7
    · exact fr_if w g o cap L gr ge n T hL hn hw h ht h7
    · refine (fr_plain w g o cap L gr ge n hn h h4 h7).mono fun e w' he => ⟨?_, he.2⟩
      rw [he.1]
      congr 2
      by_cases a : (nd L n).kind = 12
      · rw [way_12 a, decide_eq_true a]
      · by_cases b : (nd L n).kind = 10 ∨ (nd L n).kind = 11
        · rw [way_1011 b, decide_eq_false a]
        · rw [way_any a (by omega) (by omega) h4 h7, decide_eq_false a]

theorem findEnds_any (w : World) (g o cap : Nat) (L : List Nd) (gr ge n : Nat) (T : WT) (hL : L.length ≤ 1353245080300) (hn : n < L.length) (hw : Wy L) (h : Hid (Lay w g o L)) (ht : Hid (Tb w gr ge L.length T)) :
    Calls Tryd.prog 37 #[.agg #[.slice (some ⟨g, o, none⟩) L.length cap, .slice (some ⟨gr, 0, none⟩) L.length L.length, .slice (some ⟨ge, 0, none⟩) L.length L.length], .int .i64 (n : Int)] w fun e w' => e = .returned (.bool (wayAt L T n).2) ∧ Below w.heap.size w w' := by
  by_cases h4 : (nd L n).kind = 4
  · exact fe_blk w g o cap L gr ge n T hL hn hw h ht h4
  · by_cases h7 : (nd L n).kind = 7
    · exact fe_if w g o cap L gr ge n T hL hn hw h ht h7
    · exact fe_plain w g o cap L gr ge n T hn h h4 h7

end Go.Proofs.YtlocaalipjjnpaaDoor

namespace Go.Proofs.YtlocaalipjjnpaaDoor
open Go.RowKit Go.Shelf
attribute [local go_sem] Oper.semAt_some

/-- A node and its number, as the iterator hands them to a round. -/
abbrev encB (L : List Nd) (x : Nat) : Array Value := #[.int .i64 (x : Int), .agg (ndV (nd L x))]
structure BKeep (B g o cap : Nat) (L : List Nd) (w : World) : Prop where
  lay : Lay w g o L
  ns : w.cell? ⟨B, 0, none⟩ = some (.slice (some ⟨g, o, none⟩) L.length cap)
theorem BKeep.below {B g o cap C : Nat} {L : List Nd} {w w' : World} (h : BKeep B g o cap L w) (hb : Below C w w') (hB : B < C) (hg : g < C) : BKeep B g o cap L w' :=
  ⟨h.lay.below hb hg hb.size, (hb.cell (p := ⟨B, 0, none⟩) hB).trans h.ns⟩
theorem bkeep_own {β : Type} (B g o cap : Nat) (L : List Nd) : Own (fun (_ : β) W => BKeep B g o cap L W) := fun s W W' row hs hg hr =>
  ⟨lay_own g o L s W W' row hs.lay hg hr, cell_kept hs.ns hg hr⟩

set_option maxHeartbeats 400000 in
theorem backward_any (p : Option Addr) (len cap : Nat) (w : World) :
    Calls Tryd.prog 35 #[.slice p len cap] w fun e w' => e = .returned (.func (.func 56) #[] #[.pointer (some ⟨w.heap.size, 0, none⟩)]) ∧ w' = w.alloc (.cells #[.slice p len cap] 22) := by
  go_enter Tryd.func35, Tryd.ntmps35
  go_wp2
  go_ret
  exact ⟨rfl, rfl⟩

set_option maxRecDepth 100000 in
set_option maxHeartbeats 2000000 in
theorem back_seq (m : Nat) (hm : 1 ≤ m) (B g o cap : Nat) (L : List Nd) (w : World) (hL : L.length ≤ 1353245080300) (h : BKeep B g o cap L w) (hB : B < w.heap.size) :
    SeqG Fence.wide m Tryd.prog 56 #[.pointer (some ⟨B, 0, none⟩)] (encB L) (BKeep B g o cap L)
      (fun pre x => x + pre.length + 1 = L.length) (fun _ _ => True) (fun xs => xs.length = L.length) w := fun l J Jx W hW hA _ hY h0 => by
  have hk : BKeep B g o cap L W := h.below hW hB h.lay.lt
  have HK : Hid (BKeep B g o cap L W) := hk
  have hnn := hk.ns
  have i3 : IntKind.i64.wrap ((L.length : Int) - 1) = (L.length : Int) - 1 := by rw [IntKind.wrap_i64]; omega
  clear hW hk h hA
  refine callsIn_of_wp Tryd.func56 rfl trivial ?_ rfl
  simp only [Tryd.ntmps56, List.size_toArray, List.length_cons, List.length_nil, Nat.reduceAdd, Nat.reduceSub, Array.replicate_succ, Array.replicate_zero, List.push_toArray, List.append_toArray, List.nil_append, List.cons_append]
  gi_wp2
  clear hnn i3
  gi_loopw [3] (fun v wr => ∃ (pre : List Nat), v = .int .i64 ((L.length : Int) - pre.length - 1) ∧ pre.length ≤ L.length ∧ Hid (J pre wr) ∧ Hid (BKeep B g o cap L wr)) (fun v _ => ((intOf v) + 1).toNat)
  case atStart => exact ⟨[], by simp, by simp, h0, HK⟩
  case round =>
    obtain ⟨pre, rfl, hpl, hJ, hkr⟩ := hrel
    clear HK h0
    have c0 := hkr.out.ns
    by_cases hlt : pre.length < L.length
    · obtain ⟨k, hk⟩ : ∃ k : Nat, k + pre.length + 1 = L.length := ⟨L.length - pre.length - 1, by omega⟩
      have hkk : (L.length : Int) - pre.length - 1 = (k : Int) := by omega
      rw [hkk]
      have hge : (0 : Int) ≤ (k : Int) := by omega
      have hge' : (k : Int) ≥ 0 := hge
      have j1 : (k : Int) < (L.length : Int) := by omega
      have i4 : IntKind.i64.wrap ((k : Int) - 1) = (k : Int) - 1 := by rw [IntKind.wrap_i64]; omega
      obtain ⟨fn, tmps, assign, body, hy, hR⟩ := hY pre k wr hJ.out hk
      have cs := hkr.out.lay.c k (by omega)
      dsimp only [encB] at hy
      obtain ⟨y, hy'⟩ : ∃ y, nd L k = y := ⟨_, rfl⟩
      rw [hy'] at hy cs
      obtain ⟨k0, k1, k2, k3, k4, k5, k6, k7, k8⟩ := y
      have d0 : wr.cell? ⟨g, o + k * 9 + 0, none⟩ = some (.int .i64 k0) := cs 0 _ rfl
      have d1 : wr.cell? ⟨g, o + k * 9 + 1, none⟩ = some (.int .i64 k1) := cs 1 _ rfl
      have d2 : wr.cell? ⟨g, o + k * 9 + 2, none⟩ = some (.string k2) := cs 2 _ rfl
      have d3 : wr.cell? ⟨g, o + k * 9 + 3, none⟩ = some (.string k3) := cs 3 _ rfl
      have d4 : wr.cell? ⟨g, o + k * 9 + 4, none⟩ = some (.string k4) := cs 4 _ rfl
      have d5 : wr.cell? ⟨g, o + k * 9 + 5, none⟩ = some (.int .i64 k5) := cs 5 _ rfl
      have d6 : wr.cell? ⟨g, o + k * 9 + 6, none⟩ = some (.int .i64 k6) := cs 6 _ rfl
      have d7 : wr.cell? ⟨g, o + k * 9 + 7, none⟩ = some (.string k7) := cs 7 _ rfl
      have d8 : wr.cell? ⟨g, o + k * 9 + 8, none⟩ = some (.int .i64 k8) := cs 8 _ rfl
      rw [Nat.add_zero] at d0
      simp only [ndV] at hy
      clear cs hy' hkk
      gi_wp2
      refine hR.mono ?_
      rintro e W3 (⟨rfl, hJ3, _, hk3⟩ | ⟨rfl, hJx3⟩)
      · gi_wp2
        refine ⟨⟨pre ++ [k], ?_, by simp; omega, hJ3, hk3⟩, by simp [intOf]⟩
        simp only [List.length_append, List.length_cons, List.length_nil]
        congr 1
        push_cast
        omega
      · gi_wp2
        refine bodyPost_ret (results_none rfl _ _ _) rfl ?_
        exact ⟨⟨_, rfl⟩, .inr ⟨_, hJx3⟩⟩
    · have hll : pre.length = L.length := by omega
      have hkk : (L.length : Int) - pre.length - 1 = -1 := by omega
      rw [hkk]
      gi_wp2
      refine bodyPost_end (results_none rfl _ _ _) rfl ?_
      exact ⟨⟨_, rfl⟩, .inl ⟨pre, hll, hJ.out⟩⟩

end Go.Proofs.YtlocaalipjjnpaaDoor

namespace Go.Proofs.YtlocaalipjjnpaaDoor
open Go.RowKit

/-- Is it the number of a node of a tree? -/
def hasS (L : List Nd) (N : Int) : Bool := decide (0 ≤ N) && decide (N < (L.length : Int)) && treeS nameS typeS L
theorem has_tree {L : List Nd} {N : Int} (h : hasS L N = true) : ∃ k : Nat, N = (k : Int) ∧ k < L.length ∧ treeS nameS typeS L = true := by
  unfold hasS at h
  simp only [Bool.and_eq_true, decide_eq_true_eq] at h
  exact ⟨N.toNat, by omega, by omega, h.2⟩

/-- The last node of a subtree. -/
def lastS (L : List Nd) (N : Int) : Int := if hasS L N then N + sz L N.toNat - 1 else -1

/-- The parent of a node. -/
def parS (L : List Nd) (N : Int) : Int := if hasS L N then par L N.toNat N.toNat else -1
theorem par_bounds (L : List Nd) (n : Nat) : ∀ q : Nat, -1 ≤ par L n q ∧ par L n q < q
  | 0 => by unfold par; omega
  | q + 1 => by
    have := par_bounds L n q
    unfold par
    split <;> omega

end Go.Proofs.YtlocaalipjjnpaaDoor
