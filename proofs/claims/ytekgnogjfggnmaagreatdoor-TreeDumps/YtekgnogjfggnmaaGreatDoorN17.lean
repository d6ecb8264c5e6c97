import Derived.BigGuardIn
import Derived.Test.YtekgnogjfggnmaaGreatDoorN15
namespace Go.Proofs.YtekgnogjfggnmaaGreatDoor
open Go.RowKit Go.Shelf
set_option maxRecDepth 100000
set_option maxHeartbeats 4000000
attribute [local go_sem] Oper.semAt_some
theorem box_cell {W : World} {B : Nat} {v : Value} {t : TypeId} (h : W.heap[B]? = some (.cells #[v] t (0, 0))) : W.cell? ⟨B, 0, none⟩ = some v ∧ W.frozen? ⟨B, 0, none⟩ = false :=
 ⟨by simp [World.cell?, h], by simp [World.frozen?, h]⟩
theorem new_cell (W : World) (v : Value) (t : TypeId) : (W.alloc (.cells #[v] t)).cell? ⟨W.heap.size, 0, none⟩ = some v ∧ (W.alloc (.cells #[v] t)).frozen? ⟨W.heap.size, 0, none⟩ = false := box_cell (World.alloc_heap_new W _)
theorem new_cells (W : World) (cs : Array Value) (t : TypeId) (k : Nat) (v : Value) (B : Nat) (hB : B = W.heap.size) (hv : cs[k]? = some v) : (W.alloc (.cells cs t)).cell? ⟨B, k, none⟩ = some v := by
 subst hB
 exact cell_new W cs t k v hv
theorem keeps_below {W W' : World} (h : Below W.heap.size W W') : KeepsOthers W W' :=
 ⟨h.size, fun k o hk _ => by have hl := (Array.getElem?_eq_some_iff.1 hk).1; exact (h.block k hl).trans hk⟩
theorem lay_own {β : Type} (g o : Nat) (L : List Nd) : Own (fun (_ : β) W => Lay W g o L) := fun _ _ _ _ hs hg hr =>
 ⟨Nat.lt_of_lt_of_le hs.lt hg.size, fun i hi j v hv => cell_kept (hs.c i hi j v hv) hg hr⟩
theorem kkeep_own {β : Type} (B g o cap n : Nat) (L : List Nd) : Own (fun (_ : β) W => KKeep B g o cap n L W) := fun s W W' row hs hg hr =>
 ⟨lay_own g o L s W W' row hs.lay hg hr, cell_kept hs.ns hg hr, cell_kept hs.nn hg hr⟩
theorem cell_own {β : Type} (B : Nat) (v : β → Value) : Own (fun (s : β) W => W.cell? ⟨B, 0, none⟩ = some (v s) ∧ W.frozen? ⟨B, 0, none⟩ = false) := fun _ _ _ _ hs hg hr =>
 ⟨cell_kept hs.1 hg hr, (frozen_kept hs.1 hg hr).trans hs.2⟩
theorem cell_set {w : World} {C : Nat} (v : Value) {a : Addr} (h : a.block ≠ C) : (w.setCell ⟨C, 0, none⟩ v).cell? a = w.cell? a :=
 World.cell?_setCell_other _ _ _ _ (fun e => h (by cases e; rfl))
theorem size_set (w : World) (a : Addr) (v : Value) : (w.setCell a v).heap.size = w.heap.size := by show (w.heap.modify _ _).size = _; rw [Array.size_modify]
theorem Lay.set {w : World} {g o C : Nat} {L : List Nd} (h : Lay w g o L) (v : Value) (hg : g ≠ C) : Lay (w.setCell ⟨C, 0, none⟩ v) g o L :=
 ⟨by rw [size_set]; exact h.lt, fun i hi j u hu => (cell_set v (a := ⟨g, o + i * 9 + j, none⟩) hg).trans (h.c i hi j u hu)⟩
theorem KKeep.set {B g o cap n C : Nat} {L : List Nd} {w : World} (h : KKeep B g o cap n L w) (v : Value) (hg : g ≠ C) (h1 : B ≠ C) (h2 : B + 1 ≠ C) : KKeep B g o cap n L (w.setCell ⟨C, 0, none⟩ v) :=
 ⟨h.lay.set v hg, (cell_set v (a := ⟨B, 0, none⟩) h1).trans h.ns, (cell_set v (a := ⟨B + 1, 0, none⟩) h2).trans h.nn⟩
theorem ret51 {tm : Array Value} {B D : Nat} {W : World} {b : Bool} {R : Ending → World → Prop} (hc : W.cell? ⟨B, 0, none⟩ = some (.bool b)) (h6 : tm[6]?.getD undef = .pointer (some ⟨B, 0, none⟩)) (hK : W.heap[D]? = some (.deferred (some [])))
 (hR : R (.returned (.bool b)) (W.putObj D (.deferred none))) : bodyPostM Fence.wide 6 Tryz.prog Tryz.f30 R Exit.ret { tmps := tm, defers := [{ target := .collected D, args := #[] }] } W := by
 refine ⟨by simp, .inl ⟨_, _, rfl, run_takeDeferred hK, ?_⟩⟩
 have e0 := cell_kept hc (grownBy_putObj' _ D (.deferred none)) (fun r e => by cases e; exact ⟨_, hK, rfl⟩)
 refine ⟨.bool b, ?_, hR⟩
 simp [results, Tryz.results30, go_sem, h6, e0]
structure KPre (L : List Nd) (n E : Nat) (pre : List Nat) : Prop where
 len : pre.length + n + 1 ≤ posK L n pre
 le : posK L n pre ≤ E
 cnt : kidw L n E (L.length + 1) (n + 1) 0 = kidw L n E (L.length + 1 - pre.length) (posK L n pre) pre.length
 last : ∀ q x, pre = q ++ [x] → 1 ≤ sz L x ∧ (x : Int) + sz L x ≤ (E : Int)
theorem KPre.nil (L : List Nd) (n E : Nat) (h : n < E) : KPre L n E [] := ⟨by simp [posK], by simp [posK]; omega, by simp [posK], fun q x e => by simp at e⟩
theorem KPre.snoc {L : List Nd} {n E : Nat} {pre : List Nat} (h : KPre L n E pre) (hE : E ≤ L.length) (hlt : posK L n pre < E) (h1 : 1 ≤ sz L (posK L n pre)) (h2 : (posK L n pre : Int) + sz L (posK L n pre) ≤ (E : Int)) (hm : may L n (posK L n pre) pre.length = true) : KPre L n E (pre ++ [posK L n pre]) := by
 have := h.len
 refine ⟨by rw [posK_snoc]; simp; omega, by rw [posK_snoc]; omega, ?_, fun q x e => ?_⟩
 ·rw [h.cnt, show L.length + 1 - pre.length = (L.length - pre.length) + 1 by omega]
  show (if E ≤ posK L n pre then _ else _) = _
  rw [if_neg (by omega), if_neg (by rw [hm]; simp; omega), posK_snoc]
  simp only [List.length_append, List.length_cons, List.length_nil]
  congr 1
  omega
 ·obtain ⟨rfl, rfl⟩ : pre = q ∧ posK L n pre = x := by
   have := List.append_inj' e rfl
   exact ⟨this.1, by simpa using this.2⟩
  exact ⟨h1, h2⟩
theorem KPre.stop {L : List Nd} {n E : Nat} {pre : List Nat} (h : KPre L n E pre) (hE : E ≤ L.length) (hlt : posK L n pre < E) (hb : sz L (posK L n pre) < 1 ∨ (E : Int) - posK L n pre < sz L (posK L n pre) ∨ may L n (posK L n pre) pre.length = false) : kidw L n E (L.length + 1) (n + 1) 0 = none := by
 have := h.len
 rw [h.cnt, show L.length + 1 - pre.length = (L.length - pre.length) + 1 by omega]
 show (if E ≤ posK L n pre then _ else _) = _
 rw [if_neg (by omega), if_pos hb]
theorem KPre.done {L : List Nd} {n E : Nat} {pre : List Nat} (h : KPre L n E pre) (hE : E ≤ L.length) (hd : E ≤ posK L n pre) : kidw L n E (L.length + 1) (n + 1) 0 = some pre.length := by
 have := h.len
 have := h.le
 rw [h.cnt, show L.length + 1 - pre.length = (L.length - pre.length) + 1 by omega]
 show (if E ≤ posK L n pre then _ else _) = _
 rw [if_pos hd]
theorem kidsFit_any (s : Shp) (w : World) (g o cap : Nat) (L : List Nd) (n : Nat) (hL : L.length ≤ 1353245080300) (hn : n < L.length) (hg : Good L n) (h : Hid (Lay w g o L)) :
 Calls Tryz.prog 30 #[.agg (shpV s), .slice (some ⟨g, o, none⟩) L.length cap, .int .i64 (n : Int)] w fun e w' => e = .returned (.bool (kidsS L s n)) ∧ Below w.heap.size w w' := by
 obtain ⟨r, hr⟩ : ∃ r, kidsS L s n = r := ⟨_, rfl⟩
 have HR : Hid (kidsS L s n = r) := hr
 rw [hr]
 clear hr
 obtain ⟨l1, n1, t1, li, mi, fo, lo, lg, fw, mo⟩ := s
 simp only [shpV]
 obtain ⟨g1, g2⟩ := hg
 have he : (endOf L n : Int) = n + sz L n := by unfold endOf; omega
 have hs := h.out.size hn
 have hlt := h.out.lt
 have i0 : (0 : Int) ≤ (n : Int) := by omega
 have i1 : (n : Int) < (L.length : Int) := by omega
 have hE : endOf L n ≤ L.length := by omega
 have hnE : n < endOf L n := by omega
 rw [show (nd L n).size = (endOf L n : Int) - n by show sz L n = _; omega] at hs
 have HEE : Hid (endOf L n = endOf L n) := rfl
 generalize hEq : endOf L n = E at *
 have HE : Hid (endOf L n = E) := hEq
 have HG : Hid (1 ≤ sz L n ∧ (n : Int) + sz L n ≤ (L.length : Int)) := ⟨g1, g2⟩
 clear HEE hEq he g1 g2
 obtain ⟨w4, hw4⟩ : ∃ w4, (((w.alloc (.cells #[.int .i64 l1, .int .i64 n1, .int .i64 t1, .int .i64 li, .int .i64 mi, .int .i64 fo, .int .i64 lo, .int .i64 lg, .int .i64 fw, .int .i64 mo] 62)).alloc (.cells #[.slice (some ⟨g, o, none⟩) L.length cap] 22)).alloc (.cells #[.int .i64 (n : Int)] 3)).alloc (.cells #[.bool false] 4) = w4 := ⟨_, rfl⟩
 have z4 : w4.heap.size = w.heap.size + 4 := by rw [← hw4]; simp
 have b4 : Below w.heap.size w w4 := by
  rw [← hw4]
  exact ((((Below.refl _ w).alloc (Nat.le_refl _) _).alloc (by simp) _).alloc (by simp; omega) _).alloc (by simp; omega) _
 have k8 : w4.cell? ⟨w.heap.size, 8, none⟩ = some (.int .i64 fw) := by
  rw [← hw4]
  exact cell_old _ (cell_old _ (cell_old _ (cell_new _ _ _ _ _ rfl)))
 have k9 : w4.cell? ⟨w.heap.size, 9, none⟩ = some (.int .i64 mo) := by
  rw [← hw4]
  exact cell_old _ (cell_old _ (cell_old _ (cell_new _ _ _ _ _ rfl)))
 have k1 : w4.cell? ⟨w.heap.size + 1, 0, none⟩ = some (.slice (some ⟨g, o, none⟩) L.length cap) := by
  rw [← hw4]
  refine cell_old _ (cell_old _ ?_)
  have := cell_new (w.alloc (.cells #[.int .i64 l1, .int .i64 n1, .int .i64 t1, .int .i64 li, .int .i64 mi, .int .i64 fo, .int .i64 lo, .int .i64 lg, .int .i64 fw, .int .i64 mo] 62)) #[.slice (some ⟨g, o, none⟩) L.length cap] 22 0 _ rfl
  rwa [World.size_alloc] at this
 have k2 : w4.cell? ⟨w.heap.size + 2, 0, none⟩ = some (.int .i64 (n : Int)) := by
  rw [← hw4]
  refine cell_old _ ?_
  have := cell_new ((w.alloc (.cells #[.int .i64 l1, .int .i64 n1, .int .i64 t1, .int .i64 li, .int .i64 mi, .int .i64 fo, .int .i64 lo, .int .i64 lg, .int .i64 fw, .int .i64 mo] 62)).alloc (.cells #[.slice (some ⟨g, o, none⟩) L.length cap] 22)) #[.int .i64 (n : Int)] 3 0 _ rfl
  rwa [World.size_alloc, World.size_alloc] at this
 have k3 : w4.cell? ⟨w.heap.size + 3, 0, none⟩ = some (.bool false) ∧ w4.frozen? ⟨w.heap.size + 3, 0, none⟩ = false := by
  rw [← hw4]
  have := new_cell (((w.alloc (.cells #[.int .i64 l1, .int .i64 n1, .int .i64 t1, .int .i64 li, .int .i64 mi, .int .i64 fo, .int .i64 lo, .int .i64 lg, .int .i64 fw, .int .i64 mo] 62)).alloc (.cells #[.slice (some ⟨g, o, none⟩) L.length cap] 22)).alloc (.cells #[.int .i64 (n : Int)] 3)) (.bool false) 4
  rwa [World.size_alloc, World.size_alloc, World.size_alloc] at this
 have hs4 := (b4.cell (p := ⟨g, o + n * 9 + 8, none⟩) hlt).trans hs
 have hg4 : g < w4.heap.size := by omega
 have hs5 : ∀ v, (w4.alloc (.cells #[v] 3)).drew.cell? ⟨g, o + n * 9 + 8, none⟩ = some (.int .i64 ((E : Int) - n)) := fun v => cell_old _ hs4
 have hs6 : ∀ v, (w4.alloc (.cells #[v] 3)).cell? ⟨g, o + n * 9 + 8, none⟩ = some (.int .i64 ((E : Int) - n)) := fun v => cell_old _ hs4
 refine (callsIn_wide (n := 6)).1 ?_
 refine callsIn_of_wp_marks Tryz.func30 rfl trivial ?_ rfl
 simp only [Tryz.ntmps30, List.size_toArray, List.length_cons, List.length_nil, Nat.reduceAdd, Nat.reduceSub, Array.replicate_succ, Array.replicate_zero, List.push_toArray, List.append_toArray, List.nil_append, List.cons_append]
 gi_wp2
 gi_region
 rw [show (n : Int) + ((E : Int) - n) = (E : Int) by omega]
 clear hw4
 obtain ⟨w5, hw5⟩ : ∃ w5, (w4.alloc (.cells #[.int .i64 (E : Int)] 3)).drew = w5 := ⟨_, rfl⟩
 have z5 : w5.heap.size = w.heap.size + 5 := by rw [← hw5]; show (w4.alloc _).heap.size = _; rw [World.size_alloc, z4]
 have b5 : Below w4.heap.size w4 w5 := by rw [← hw5]; exact ((Below.refl _ w4).alloc (Nat.le_refl _) _).drew
 have m4 : w5.cell? ⟨w.heap.size + 4, 0, none⟩ = some (.int .i64 (E : Int)) := by
  rw [← hw5, ← z4]
  exact (new_cell w4 (.int .i64 (E : Int)) 3).1
 have m1 := (b5.cell (p := ⟨w.heap.size + 1, 0, none⟩) (by show w.heap.size + 1 < _; omega)).trans k1
 have m2 := (b5.cell (p := ⟨w.heap.size + 2, 0, none⟩) (by show w.heap.size + 2 < _; omega)).trans k2
 rw [hw5]
 clear hw5 hs5 hs6 hs4 hs
 gi_wp2_with (refine ⟨trivial, ?_⟩; gi_at_call 56; refine (callsIn_wide.2 (kidsOf_any _ _ _ _ _)).mono ?_; rintro e w' ⟨rfl, rfl⟩)
 have zc : (((w5.alloc (.cells #[.int .i64 0] 3)).alloc (.cells #[.slice (some ⟨g, o, none⟩) L.length cap] 22)).alloc (.cells #[.int .i64 (n : Int)] 3)).heap.size = w.heap.size + 8 := by simp [z5]
 have bc : Below w5.heap.size w5 (((w5.alloc (.cells #[.int .i64 0] 3)).alloc (.cells #[.slice (some ⟨g, o, none⟩) L.length cap] 22)).alloc (.cells #[.int .i64 (n : Int)] 3)) :=
  (((Below.refl _ w5).alloc (Nat.le_refl _) _).alloc (by simp) _).alloc (by simp; omega) _
 have cc : (((w5.alloc (.cells #[.int .i64 0] 3)).alloc (.cells #[.slice (some ⟨g, o, none⟩) L.length cap] 22)).alloc (.cells #[.int .i64 (n : Int)] 3)).cell? ⟨w.heap.size + 5, 0, none⟩ = some (.int .i64 ((([] : List Nat).length : Nat) : Int)) ∧ (((w5.alloc (.cells #[.int .i64 0] 3)).alloc (.cells #[.slice (some ⟨g, o, none⟩) L.length cap] 22)).alloc (.cells #[.int .i64 (n : Int)] 3)).frozen? ⟨w.heap.size + 5, 0, none⟩ = false := by
  have := new_cell w5 (.int .i64 0) 3
  rw [z5] at this
  have b2 : Below (w.heap.size + 6) (w5.alloc (.cells #[.int .i64 0] 3)) (((w5.alloc (.cells #[.int .i64 0] 3)).alloc (.cells #[.slice (some ⟨g, o, none⟩) L.length cap] 22)).alloc (.cells #[.int .i64 (n : Int)] 3)) :=
   ((Below.refl _ _).alloc (by simp [z5]) _).alloc (by simp [z5]) _
  exact ⟨(b2.cell (p := ⟨w.heap.size + 5, 0, none⟩) (by show w.heap.size + 5 < _; omega)).trans this.1, (b2.frozen (p := ⟨w.heap.size + 5, 0, none⟩) (by show w.heap.size + 5 < _; omega)).trans this.2⟩
 have kc : KKeep (w.heap.size + 6) g o cap n L (((w5.alloc (.cells #[.int .i64 0] 3)).alloc (.cells #[.slice (some ⟨g, o, none⟩) L.length cap] 22)).alloc (.cells #[.int .i64 (n : Int)] 3)) :=
  ⟨((h.out.next b4).next b5).next bc, cell_old _ (new_cells _ _ _ _ _ _ (by simp [z5]) rfl), new_cells _ _ _ _ _ _ (by simp [z5]) rfl⟩
 have bw : Below w.heap.size w (((w5.alloc (.cells #[.int .i64 0] 3)).alloc (.cells #[.slice (some ⟨g, o, none⟩) L.length cap] 22)).alloc (.cells #[.int .i64 (n : Int)] 3)) := (b4.trans (b5.mono (by omega))).trans (bc.mono (by omega))
 have HM1 := (bc.cell (p := ⟨w.heap.size + 1, 0, none⟩) (by show w.heap.size + 1 < _; omega)).trans m1
 have HM2 := (bc.cell (p := ⟨w.heap.size + 2, 0, none⟩) (by show w.heap.size + 2 < _; omega)).trans m2
 have HM4 := (bc.cell (p := ⟨w.heap.size + 4, 0, none⟩) (by show w.heap.size + 4 < _; omega)).trans m4
 have HK3 := ((bc.cell (p := ⟨w.heap.size + 3, 0, none⟩) (by show w.heap.size + 3 < _; omega)).trans (b5.cell (p := ⟨w.heap.size + 3, 0, none⟩) (by show w.heap.size + 3 < _; omega))).trans k3.1
 have HF3 := ((bc.frozen (p := ⟨w.heap.size + 3, 0, none⟩) (by show w.heap.size + 3 < _; omega)).trans (b5.frozen (p := ⟨w.heap.size + 3, 0, none⟩) (by show w.heap.size + 3 < _; omega))).trans k3.2
 have HK8 := ((bc.cell (p := ⟨w.heap.size, 8, none⟩) (by show w.heap.size < _; omega)).trans (b5.cell (p := ⟨w.heap.size, 8, none⟩) (by show w.heap.size < _; omega))).trans k8
 have HK9 := ((bc.cell (p := ⟨w.heap.size, 9, none⟩) (by show w.heap.size < _; omega)).trans (b5.cell (p := ⟨w.heap.size, 9, none⟩) (by show w.heap.size < _; omega))).trans k9
 clear m1 m2 m4 k1 k2 k3 k8 k9 b4 b5 bc hg4
 generalize hwc : ((w5.alloc (.cells #[.int .i64 0] 3)).alloc (.cells #[.slice (some ⟨g, o, none⟩) L.length cap] 22)).alloc (.cells #[.int .i64 (n : Int)] 3) = wc at *
 clear hwc z4 z5 w4 w5
 refine wpIn_range_guard rfl (by omega) (gf := 79) (lb := #[.pointer (some ⟨w.heap.size + 6 + 1, 0, none⟩), .pointer (some ⟨w.heap.size + 6, 0, none⟩)]) rfl trivial (enters_of Tryz.func79 (by kernel_rfl) rfl)
  (kids_seq 5 (by omega) (w.heap.size + 6) g o cap n L wc hL hn HG.out kc (by omega)) (Below.refl _ _) (fun _ => rfl)
  (fun pre W => ((W.cell? ⟨w.heap.size + 5, 0, none⟩ = some (.int .i64 (pre.length : Nat)) ∧ W.frozen? ⟨w.heap.size + 5, 0, none⟩ = false) ∧ KKeep (w.heap.size + 6) g o cap n L W ∧ KPre L n E pre) ∧ Below (w.heap.size + 5) wc W)
  (fun c pre W => ((c = .ret ∧ r = false) ∧ (W.cell? ⟨w.heap.size + 3, 0, none⟩ = some (.bool false) ∧ W.frozen? ⟨w.heap.size + 3, 0, none⟩ = false)) ∧ Below (w.heap.size + 3) wc W)
  (OwnFrom.and (Own.from (fun s A B row hs hg hr => ⟨cell_own _ (fun s : List Nat => .int .i64 (s.length : Nat)) s A B row hs.1 hg hr, kkeep_own _ _ _ _ _ _ s A B row hs.2.1 hg hr, hs.2.2⟩) _) (ownFrom_below (by omega) (by omega)))
  (fun c => OwnFrom.and (Own.from (fun s A B row hs hg hr => ⟨hs.1, cell_own _ (fun _ : List Nat => .bool false) s A B row hs.2 hg hr⟩) _) (ownFrom_below (by omega) (by omega)))
  ⟨⟨cc, kc, KPre.nil L n E hnE⟩, Below.refl _ _⟩ (fun pre W hI => hI.1.2.1) (fun pre x W hI => by rw [HE.out]; exact hI.1.2.2.last pre x rfl)
  (fun x => { tmps := #[.agg #[.int .i64 l1, .int .i64 n1, .int .i64 t1, .int .i64 li, .int .i64 mi, .int .i64 fo, .int .i64 lo, .int .i64 lg, .int .i64 fw, .int .i64 mo], .slice (some ⟨g, o, none⟩) L.length cap, .int .i64 (n : Int), .pointer (some ⟨w.heap.size, 0, none⟩), .pointer (some ⟨w.heap.size + 1, 0, none⟩), .pointer (some ⟨w.heap.size + 1 + 1, 0, none⟩), .pointer (some ⟨w.heap.size + 1 + 1 + 1, 0, none⟩), .pointer (some ⟨w.heap.size + 4, 0, none⟩), .pointer (some ⟨w.heap.size + 5, 0, none⟩), .int .i64 (x : Int), undef, .int .i64 (n : Int), .slice (some ⟨g, o, none⟩) L.length cap, .int .i64 (n : Int), .pointer (some ⟨g, o + n * 9, none⟩), .pointer (some ⟨g, o + n * 9 + 8, none⟩), .int .i64 ((E : Int) - n), .int .i64 (E : Int), .slice (some ⟨g, o, none⟩) L.length cap, .int .i64 (n : Int), .func (.func 79) #[] #[.pointer (some ⟨w.heap.size + 5 + 1 + 1, 0, none⟩), .pointer (some ⟨w.heap.size + 5 + 1, 0, none⟩)], .int .i64 (x : Int), undef, undef, undef, undef, undef, undef, undef, undef, undef, undef, undef, undef, undef, undef, undef, undef, undef, undef, undef, undef, undef, undef, undef, undef, undef, undef, undef, undef, undef, undef, undef, undef, undef, undef], defers := [] }) ?assign ?body ?done ?stop
 case assign =>
  intro l x W K hK
  gi_wp2
  simpa [encK] using hK
 case body =>
  rintro l pre x W ⟨⟨⟨hc, hf⟩, hk, hp⟩, hB⟩ ⟨hx, hxE⟩
  rw [HE.out] at hxE
  have hxl : x < L.length := by omega
  have hpl := hp.len
  have hple := hp.le
  have c1 := (hB.cell (p := ⟨w.heap.size + 1, 0, none⟩) (by show w.heap.size + 1 < _; omega)).trans HM1
  have c2 := (hB.cell (p := ⟨w.heap.size + 2, 0, none⟩) (by show w.heap.size + 2 < _; omega)).trans HM2
  have c3 := (hB.cell (p := ⟨w.heap.size + 3, 0, none⟩) (by show w.heap.size + 3 < _; omega)).trans HK3
  have f3 := (hB.frozen (p := ⟨w.heap.size + 3, 0, none⟩) (by show w.heap.size + 3 < _; omega)).trans HF3
  have c4 := (hB.cell (p := ⟨w.heap.size + 4, 0, none⟩) (by show w.heap.size + 4 < _; omega)).trans HM4
  have hsx := hk.lay.size hxl
  have HLay : Hid (Lay W g o L) := hk.lay
  have HKK : Hid (KKeep (w.heap.size + 6) g o cap n L W) := hk
  have HPP : Hid (KPre L n E pre) := hp
  have j0 : (0 : Int) ≤ (x : Int) := by omega
  have j1 : (x : Int) < (L.length : Int) := by omega
  have hstop : (sz L x < 1 ∨ (E : Int) - x < sz L x ∨ may L n x pre.length = false) → r = false := fun hb => by
   rw [← HR.out]
   unfold kidsS
   rw [HE.out, hp.stop hE (by omega) (by rw [← hx]; exact hb)]
  have HST : Hid ((sz L x < 1 ∨ (E : Int) - x < sz L x ∨ may L n x pre.length = false) → r = false) := hstop
  have HBB : Hid (Below (w.heap.size + 5) wc W) := hB
  have fin : ∀ W1 : World, Below W.heap.size W W1 → r = false → ownPost (fun pre W => ((W.cell? ⟨w.heap.size + 5, 0, none⟩ = some (.int .i64 (pre.length : Nat)) ∧ W.frozen? ⟨w.heap.size + 5, 0, none⟩ = false) ∧ KKeep (w.heap.size + 6) g o cap n L W ∧ KPre L n E pre) ∧ Below (w.heap.size + 5) wc W)
   (fun c pre W => ((c = .ret ∧ r = false) ∧ (W.cell? ⟨w.heap.size + 3, 0, none⟩ = some (.bool false) ∧ W.frozen? ⟨w.heap.size + 3, 0, none⟩ = false)) ∧ Below (w.heap.size + 3) wc W) (pre ++ [x]) W Exit.ret { tmps := #[], defers := [] } (W1.setCell ⟨w.heap.size + 3, 0, none⟩ (.bool false)) := fun W1 hb1 hr => by
   have hW : w.heap.size + 8 ≤ W.heap.size := by rw [← zc]; exact hB.size
   have q3 := (hb1.cell (p := ⟨w.heap.size + 3, 0, none⟩) (by show w.heap.size + 3 < _; omega)).trans c3
   have q4 := (hb1.frozen (p := ⟨w.heap.size + 3, 0, none⟩) (by show w.heap.size + 3 < _; omega)).trans f3
   exact ⟨(keeps_below hb1).trans (KeepsOthers.setCell _ _ _), ⟨⟨rfl, hr⟩, World.cell?_setCell_same' _ _ _ (by rw [q3]; rfl), by rw [World.frozen?_setCell]; exact q4⟩, ((hB.mono (show w.heap.size + 3 ≤ w.heap.size + 5 by omega)).trans (hb1.mono (show w.heap.size + 3 ≤ W.heap.size by omega))).setCell (p := ⟨w.heap.size + 3, 0, none⟩) (Nat.le_refl _) _⟩
  have FIN : Hid (∀ W1 : World, Below W.heap.size W W1 → r = false → ownPost (fun pre W => ((W.cell? ⟨w.heap.size + 5, 0, none⟩ = some (.int .i64 (pre.length : Nat)) ∧ W.frozen? ⟨w.heap.size + 5, 0, none⟩ = false) ∧ KKeep (w.heap.size + 6) g o cap n L W ∧ KPre L n E pre) ∧ Below (w.heap.size + 5) wc W)
   (fun c pre W => ((c = .ret ∧ r = false) ∧ (W.cell? ⟨w.heap.size + 3, 0, none⟩ = some (.bool false) ∧ W.frozen? ⟨w.heap.size + 3, 0, none⟩ = false)) ∧ Below (w.heap.size + 3) wc W) (pre ++ [x]) W Exit.ret { tmps := #[], defers := [] } (W1.setCell ⟨w.heap.size + 3, 0, none⟩ (.bool false))) := fin
  have HX : Hid (x = posK L n pre) := hx
  have HC : Hid (pre.length ≤ 1353245080300) := by show _ ≤ _; omega
  have hW8 : w.heap.size + 8 ≤ W.heap.size := by rw [← zc]; exact hB.size
  clear hp hk hB HM1 HM2 HM4 HK3 HF3 HK8 HK9 bw kc cc hstop fin hx hpl hple zc
  by_cases q1 : sz L x < 1
  ·have HRF : Hid (r = false) := HST.out (.inl q1)
   have q1' : (nd L x).size < 1 := q1
   clear HST q1
   generalize (nd L x).size = v at *
   gi_wp2_with (refine ⟨trivial, ?_⟩)
   exact FIN.out W (Below.refl _ _) HRF.out
  ·by_cases q2 : (E : Int) - x < sz L x
   ·have HRF : Hid (r = false) := HST.out (.inr (.inl q2))
    have q1' : ¬ (nd L x).size < 1 := q1
    have q2' : (E : Int) - x < (nd L x).size := q2
    clear HST q1 q2
    generalize (nd L x).size = v at *
    gi_wp2_with (refine ⟨trivial, ?_⟩)
    exact FIN.out W (Below.refl _ _) HRF.out
   ·have HMS := mayStand_any W g o cap L n x pre.length hL hn hxl HG.out ⟨by omega, by omega⟩ HC.out HLay
    have HGX : Hid (1 ≤ sz L x ∧ (x : Int) + sz L x ≤ (E : Int)) := ⟨by omega, by omega⟩
    have q1' : ¬ (nd L x).size < 1 := q1
    have q2' : ¬ (E : Int) - x < (nd L x).size := q2
    clear q1 q2
    obtain ⟨b, hb⟩ : ∃ b, may L n x pre.length = b := ⟨_, rfl⟩
    rw [hb] at HMS HST
    have HMB : Hid (may L n x pre.length = b) := hb
    have HMS' : Hid (Calls Tryz.prog 57 #[.slice (some ⟨g, o, none⟩) L.length cap, .int .i64 (n : Int), .int .i64 (x : Int), .int .i64 (pre.length : Int)] W fun e w' => e = .returned (.bool b) ∧ Below W.heap.size W w') := HMS
    clear hb HMS
    obtain ⟨v, hv⟩ : ∃ v, (nd L x).size = v := ⟨_, rfl⟩
    rw [hv] at hsx q1' q2'
    clear hv
    cases b with
    | false =>
     have HRF : Hid (r = false) := HST.out (.inr (.inr rfl))
     clear HST
     gi_wp2_with (refine ⟨trivial, ?_⟩; gi_at_call 57; refine (callsIn_wide.2 HMS'.out).mono ?_; rintro e W1 ⟨rfl, hb1⟩; have p3 := (hb1.cell (p := ⟨w.heap.size + 3, 0, none⟩) (by show w.heap.size + 3 < _; omega)).trans c3; have p4 := (hb1.frozen (p := ⟨w.heap.size + 3, 0, none⟩) (by show w.heap.size + 3 < _; omega)).trans f3)
     exact FIN.out W1 hb1 HRF.out
    | true =>
     gi_wp2_with (refine ⟨trivial, ?_⟩; gi_at_call 57; refine (callsIn_wide.2 HMS'.out).mono ?_; rintro e W1 ⟨rfl, hb1⟩; have p3 := (hb1.cell (p := ⟨w.heap.size + 5, 0, none⟩) (by show w.heap.size + 5 < _; omega)).trans hc; have p4 := (hb1.frozen (p := ⟨w.heap.size + 5, 0, none⟩) (by show w.heap.size + 5 < _; omega)).trans hf; have HC' := HC.out)
     have hb2 : Below (w.heap.size + 5) W (W1.setCell ⟨w.heap.size + 5, 0, none⟩ (.int .i64 ((pre.length : Int) + 1))) := (hb1.mono (show w.heap.size + 5 ≤ W.heap.size by omega)).setCell (p := ⟨w.heap.size + 5, 0, none⟩) (Nat.le_refl _) _
     have hlt := HLay.out.lt
     have hxx := HX.out
     refine ⟨(keeps_below hb1).trans (KeepsOthers.setCell _ _ _), ⟨⟨?_, by rw [World.frozen?_setCell]; exact p4⟩, ?_, ?_⟩, HBB.out.trans hb2⟩
     ·rw [show ((pre ++ [x]).length : Int) = (pre.length : Int) + 1 from by simp]
      exact World.cell?_setCell_same' _ _ _ (by rw [p3]; rfl)
     ·exact (HKK.out.below hb1 (by omega) hlt hb1.size).set _ (by omega) (by omega) (by omega)
     ·rw [hxx]
      refine HPP.out.snoc hE (by omega) ?_ ?_ ?_
      ·rw [← hxx]; exact HGX.out.1
      ·rw [← hxx]; exact HGX.out.2
      ·rw [← hxx]; exact HMB.out
 case done =>
  rintro D ys W hD hS ⟨⟨⟨hc, hf⟩, hk, hp⟩, hB⟩ hK
  rw [HE.out] at hS
  have hrr : r = (decide (fw ≤ (ys.length : Int)) && decide ((ys.length : Int) ≤ mo)) := by
   rw [← HR.out]
   unfold kidsS
   rw [HE.out, hp.done hE hS]
  have c3 := (hB.cell (p := ⟨w.heap.size + 3, 0, none⟩) (by show w.heap.size + 3 < _; omega)).trans HK3
  have f3 := (hB.frozen (p := ⟨w.heap.size + 3, 0, none⟩) (by show w.heap.size + 3 < _; omega)).trans HF3
  have c8 := (hB.cell (p := ⟨w.heap.size, 8, none⟩) (by show w.heap.size < _; omega)).trans HK8
  have c9 := (hB.cell (p := ⟨w.heap.size, 9, none⟩) (by show w.heap.size < _; omega)).trans HK9
  have HRR : Hid (r = (decide (fw ≤ (ys.length : Int)) && decide ((ys.length : Int) ≤ mo))) := hrr
  clear hrr hk hp
  have HBW : Hid (Below w.heap.size w W) := bw.trans (hB.mono (by omega))
  have hK' : ∀ b : Bool, (W.setCell ⟨w.heap.size + 3, 0, none⟩ (.bool b)).heap[D]? = some (.deferred (some [])) := fun b => (KeepsOthers.setCell W ⟨w.heap.size + 3, 0, none⟩ (.bool b)).same D _ hK rfl
  have hq' : ∀ b : Bool, (W.setCell ⟨w.heap.size + 3, 0, none⟩ (.bool b)).cell? ⟨w.heap.size + 3, 0, none⟩ = some (.bool b) := fun b => World.cell?_setCell_same' _ _ _ (by rw [c3]; rfl)
  have hR' : ∀ b : Bool, r = b → (Ending.returned (.bool b) = .returned (.bool r) ∧ Below w.heap.size w ((W.setCell ⟨w.heap.size + 3, 0, none⟩ (.bool b)).putObj D (.deferred none))) := fun b hb =>
   ⟨by rw [hb], (HBW.out.setCell (p := ⟨w.heap.size + 3, 0, none⟩) (by show w.heap.size ≤ w.heap.size + 3; omega) _).trans (belowK_b (w := w) (Nat.le_refl _) _ D _ _ (by omega) (hK' b) rfl rfl)⟩
  have HK' : Hid (∀ b : Bool, (W.setCell ⟨w.heap.size + 3, 0, none⟩ (.bool b)).heap[D]? = some (.deferred (some []))) := hK'
  have HQ' : Hid (∀ b : Bool, (W.setCell ⟨w.heap.size + 3, 0, none⟩ (.bool b)).cell? ⟨w.heap.size + 3, 0, none⟩ = some (.bool b)) := hq'
  have HR' : Hid (∀ b : Bool, r = b → (Ending.returned (.bool b) = .returned (.bool r) ∧ Below w.heap.size w ((W.setCell ⟨w.heap.size + 3, 0, none⟩ (.bool b)).putObj D (.deferred none)))) := hR'
  clear hK' hq' hR' hS hB bw
  gi_wp2
  ·exact ret51 (HQ'.out _) rfl (HK'.out _) (HR'.out _ (by rw [HRR.out]; simp_all))
  ·exact ret51 (HQ'.out _) rfl (HK'.out _) (HR'.out _ (by rw [HRR.out, decide_eq_false (by omega), Bool.false_and]))
 case stop =>
  rintro D c pre W hD ⟨⟨⟨rfl, hr⟩, hc, hf⟩, hB⟩ hK
  have HRF : Hid (r = false) := hr
  clear hr
  gi_wp2
  refine ret51 hc rfl hK ⟨by rw [HRF.out], (bw.trans (hB.mono (by omega))).trans (belowK_b (w := w) (Nat.le_refl _) _ D _ _ (by omega) hK rfl rfl)⟩
end Go.Proofs.YtekgnogjfggnmaaGreatDoor

namespace Go.Proofs.YtekgnogjfggnmaaGreatDoor
open Go.RowKit
set_option maxRecDepth 100000
set_option maxHeartbeats 1000000
def Rd (w : World) (p : Option Addr) (L : List Nd) : Prop := L ≠ [] → ∃ g o, p = some ⟨g, o, none⟩ ∧ Lay w g o L
theorem Rd.next {w w' : World} {p : Option Addr} {L : List Nd} (h : Rd w p L) (hb : Below w.heap.size w w') : Rd w' p L := fun hn => by
 obtain ⟨g, o, e, hl⟩ := h hn
 exact ⟨g, o, e, hl.next hb⟩
structure Fine (L : List Nd) : Prop where
 len : L.length ≤ 1353245080300
 txt : ∀ i, i < L.length → (nd L i).name.size ≤ 140737488355328 ∧ (nd L i).label.size ≤ 140737488355328 ∧ (nd L i).typ.size ≤ 140737488355328 ∧ (nd L i).text.size ≤ 140737488355328
theorem tree_false {L : List Nd} {k : Nat} (hk : k < L.length) (h : fit nameS typeS L k = false) : treeS nameS typeS L = false := by
 unfold treeS
 rw [Bool.and_eq_false_iff]
 right
 rw [List.all_eq_false]
 exact ⟨k, List.mem_range.2 hk, by simp [h]⟩
theorem tree_true {L : List Nd} (h0 : headS L = true) (h : ∀ m, m < L.length → fit nameS typeS L m = true) : treeS nameS typeS L = true := by
 unfold treeS
 rw [Bool.and_eq_true, List.all_eq_true]
 exact ⟨h0, fun x hx => h x (List.mem_range.1 hx)⟩
def KwAt (w : World) : Prop := w.rangeAt 3 0 kwCells ∧ 4 ≤ w.heap.size
theorem KwAt.next {w w' : World} (h : KwAt w) (hb : Below w.heap.size w w') : KwAt w' :=
 ⟨fun j v hv => (hb.cell (p := ⟨3, 0 + j, none⟩) (by show 3 < _; have := h.2; omega)).trans (h.1 j v hv), Nat.le_trans h.2 hb.size⟩
theorem shapeOf_lit (k : Int) (w : World) : ∃ (l1 n1 t1 li mi fo lo lg fw mo : Int) (kn : Bool), shp k = (⟨l1, n1, t1, li, mi, fo, lo, lg, fw, mo⟩, kn) ∧ Calls Tryz.prog 28 #[.int .i64 k] w fun e w' => e = .returned (.tuple #[.agg #[.int .i64 l1, .int .i64 n1, .int .i64 t1, .int .i64 li, .int .i64 mi, .int .i64 fo, .int .i64 lo, .int .i64 lg, .int .i64 fw, .int .i64 mo], .bool kn]) ∧ Below w.heap.size w w' := by
 have h := shapeOf_any k w
 obtain ⟨x, hx⟩ : ∃ x, shp k = x := ⟨_, rfl⟩
 rw [hx] at h
 obtain ⟨⟨l1, n1, t1, li, mi, fo, lo, lg, fw, mo⟩, kn⟩ := x
 exact ⟨l1, n1, t1, li, mi, fo, lo, lg, fw, mo, kn, hx, h⟩
theorem isTree_some (w : World) (g o cap : Nat) (L : List Nd) (hne : 0 < L.length) (hf : Fine L) (h : Hid (Lay w g o L)) (hk : Hid (KwAt w)) :
 Calls Tryz.prog 16 #[.slice (some ⟨g, o, none⟩) L.length cap] w fun e w' => e = .returned (.bool (treeS nameS typeS L)) ∧ Below w.heap.size w w' := by
 obtain ⟨r, hr⟩ : ∃ r, treeS nameS typeS L = r := ⟨_, rfl⟩
 have HR : Hid (treeS nameS typeS L = r) := hr
 rw [hr]
 clear hr
 have hL := hf.len
 have HF : Hid (Fine L) := hf
 clear hf
 have c0 : w.cell? ⟨g, o, none⟩ = some (.int .i64 (nd L 0).kind) := h.out.kind hne
 have c8 : w.cell? ⟨g, o + 8, none⟩ = some (.int .i64 (nd L 0).size) := h.out.size hne
 have i1 : (0 : Int) < (L.length : Int) := by omega
 have i2 : ¬ (L.length : Int) = 0 := by omega
 have i3 : ((L.length : Int) == 0) = false := by simpa using i2
 have HH : Hid (headS L = (((nd L 0).size == (L.length : Int)) && ((nd L 0).kind == 1 || isExpr (nd L 0).kind))) := by
  show _ = _
  unfold headS
  rw [decide_eq_true hne, Bool.true_and]
 have HRT : Hid (Calls Tryz.prog 27 #[.int .i64 (nd L 0).kind] w fun e w' => e = .returned (.bool ((nd L 0).kind == 1 || isExpr (nd L 0).kind)) ∧ w = w') := isRoot_any _ w
 have HND : Hid (headS L = false → r = false) := fun e => by rw [← HR.out]; unfold treeS; rw [e]; rfl
 obtain ⟨hb, hhb⟩ : ∃ hb, headS L = hb := ⟨_, rfl⟩
 have HHB : Hid (headS L = hb) := hhb
 rw [hhb] at HH HND
 clear hhb
 generalize ((nd L 0).kind == 1 || isExpr (nd L 0).kind) = rt at *
 generalize (nd L 0).size = s0 at *
 generalize (nd L 0).kind = k0 at *
 cases hb with
 | false =>
  have HRF : Hid (r = false) := HND.out rfl
  have hcase : (s0 == (L.length : Int)) = false ∨ ((s0 == (L.length : Int)) = true ∧ rt = false) := by
   have := HH.out
   cases h1 : (s0 == (L.length : Int)) with
   | false => exact .inl rfl
   | true =>
    right
    rw [h1] at this
    refine ⟨rfl, ?_⟩
    cases rt with
    | false => rfl
    | true => exact absurd this (by decide)
  clear HH HND HHB HR
  rcases hcase with hq | ⟨hq, rfl⟩
  ·have hq' : (s0 != (L.length : Int)) = true := by unfold bne; rw [hq]; rfl
   go_enter Tryz.func16, Tryz.ntmps16
   go_wp2
   rw [HRF.out]
   go_ret
   exact ⟨rfl, Below.refl _ _⟩
  ·have hq' : (s0 != (L.length : Int)) = false := by unfold bne; rw [hq]; rfl
   go_enter Tryz.func16, Tryz.ntmps16
   go_wp2_with (first
    | (go_at_call 27; refine HRT.out.mono ?_; rintro e w1 ⟨rfl, hw1⟩; subst hw1)
    | go_in)
   rw [HRF.out]
   go_ret
   exact ⟨rfl, Below.refl _ _⟩
 | true =>
  obtain ⟨hq, rfl⟩ : (s0 == (L.length : Int)) = true ∧ rt = true := by
   have := HH.out
   cases h1 : (s0 == (L.length : Int)) with
   | false => rw [h1] at this; exact absurd this (by simp)
   | true =>
    rw [h1] at this
    refine ⟨rfl, ?_⟩
    cases rt with
    | false => exact absurd this (by decide)
    | true => rfl
  have hq' : (s0 != (L.length : Int)) = false := by unfold bne; rw [hq]; rfl
  clear HH HND
  go_enter Tryz.func16, Tryz.ntmps16
  go_upto_region 3 with (first
   | (go_at_call 27; refine HRT.out.mono ?_; rintro e w1 ⟨rfl, hw1⟩; subst hw1)
   | go_in)
  clear HRT hq hq' c0 c8
  go_wp2
  go_loopw [29] (fun v wr => ∃ k : Nat, k ≤ L.length ∧ v = .int .i64 (k : Int) ∧ Hid (∀ m, m < k → fit nameS typeS L m = true) ∧ Hid (Below w.heap.size w wr)) (fun v _ => L.length - (intOf v).toNat)
  case atStart => exact ⟨0, by omega, rfl, fun m hm => by omega, Below.refl _ _⟩
  case round =>
   obtain ⟨k, hkl, rfl, hfit, hB⟩ := hrel
   by_cases hlt : k < L.length
   ·have j0 : (0 : Int) ≤ (k : Int) := by omega
    have j1 : (k : Int) < (L.length : Int) := by omega
    have hg := good_of HHB.out hfit.out hlt
    have HG : Hid (Good L k) := hg
    have hLr := h.out.next hB.out
    have HLr : Hid (Lay wr g o L) := hLr
    obtain ⟨x, hx⟩ : ∃ x, nd L k = x := ⟨_, rfl⟩
    have d := hLr.c k hlt
    have HT := HF.out.txt k hlt
    have HFT : Hid (fit nameS typeS L k = ((shp x.kind).2 && fieldsS nameS typeS (shp x.kind).1 x && kidsS L (shp x.kind).1 k)) := by rw [← hx]; rfl
    rw [hx] at d HT
    clear hx
    obtain ⟨kd, ps, nm, lb, ty, op, it, tx, zz⟩ := x
    have d0 : wr.cell? ⟨g, o + k * 9, none⟩ = some (.int .i64 kd) := d 0 _ rfl
    have d1 : wr.cell? ⟨g, o + k * 9 + 1, none⟩ = some (.int .i64 ps) := d 1 _ rfl
    have d2 : wr.cell? ⟨g, o + k * 9 + 2, none⟩ = some (.string nm) := d 2 _ rfl
    have d3 : wr.cell? ⟨g, o + k * 9 + 3, none⟩ = some (.string lb) := d 3 _ rfl
    have d4 : wr.cell? ⟨g, o + k * 9 + 4, none⟩ = some (.string ty) := d 4 _ rfl
    have d5 : wr.cell? ⟨g, o + k * 9 + 5, none⟩ = some (.int .i64 op) := d 5 _ rfl
    have d6 : wr.cell? ⟨g, o + k * 9 + 6, none⟩ = some (.int .i64 it) := d 6 _ rfl
    have d7 : wr.cell? ⟨g, o + k * 9 + 7, none⟩ = some (.string tx) := d 7 _ rfl
    have d8 : wr.cell? ⟨g, o + k * 9 + 8, none⟩ = some (.int .i64 zz) := d 8 _ rfl
    have HTx : Hid (nm.size ≤ 140737488355328 ∧ lb.size ≤ 140737488355328 ∧ ty.size ≤ 140737488355328 ∧ tx.size ≤ 140737488355328) := HT
    clear d HT hg hLr
    obtain ⟨wa, hwa⟩ : ∃ wa, wr.alloc (.cells #[.int .i64 kd, .int .i64 ps, .string nm, .string lb, .string ty, .int .i64 op, .int .i64 it, .string tx, .int .i64 zz] 42) = wa := ⟨_, rfl⟩
    have BA : Hid (Below wr.heap.size wr wa) := by rw [← hwa]; exact (Below.refl _ wr).alloc (Nat.le_refl _) _
    have NA : Hid (∀ (j : Nat) (v : Value), (ndV ⟨kd, ps, nm, lb, ty, op, it, tx, zz⟩)[j]? = some v → wa.cell? ⟨wr.heap.size, j, none⟩ = some v) := fun j v hv => by rw [← hwa]; exact cell_new _ _ _ _ _ hv
    have za : wr.heap.size < wa.heap.size := by rw [← hwa]; simp
    have a0 : wa.cell? ⟨wr.heap.size, 0, none⟩ = some (.int .i64 kd) := NA.out 0 _ rfl
    obtain ⟨l1, n1, t1, li, mi, fo, lo, lg, fw, mo, kn, hsh, HS0⟩ := shapeOf_lit kd wa
    have HS : Hid (Calls Tryz.prog 28 #[.int .i64 kd] wa fun e w' => e = .returned (.tuple #[.agg #[.int .i64 l1, .int .i64 n1, .int .i64 t1, .int .i64 li, .int .i64 mi, .int .i64 fo, .int .i64 lo, .int .i64 lg, .int .i64 fw, .int .i64 mo], .bool kn]) ∧ Below wa.heap.size wa w') := HS0
    dsimp only at HFT
    rw [hsh] at HFT
    clear hsh HS0
    go_upto_region 7 with (first
     | (go_at_call 28; refine HS.out.mono ?_; rintro e wb ⟨rfl, hbb⟩)
     | go_in)
    clear HS d0 d1 d2 d3 d4 d5 d6 d7 d8 a0 hwa
    obtain ⟨wc, hwc⟩ : ∃ wc, wb.alloc (.cells #[.int .i64 l1, .int .i64 n1, .int .i64 t1, .int .i64 li, .int .i64 mi, .int .i64 fo, .int .i64 lo, .int .i64 lg, .int .i64 fw, .int .i64 mo] 62) = wc := ⟨_, rfl⟩
    have zb := hbb.size
    have BC : Hid (Below wb.heap.size wb wc) := by rw [← hwc]; exact (Below.refl _ wb).alloc (Nat.le_refl _) _
    have zc : wb.heap.size < wc.heap.size := by rw [← hwc]; simp
    have NC : Hid (∀ (j : Nat) (v : Value), (ndV ⟨kd, ps, nm, lb, ty, op, it, tx, zz⟩)[j]? = some v → wc.cell? ⟨wr.heap.size, j, none⟩ = some v) := fun j v hv =>
     (BC.out.cell (p := ⟨wr.heap.size, j, none⟩) (by show wr.heap.size < _; omega)).trans ((hbb.cell (p := ⟨wr.heap.size, j, none⟩) za).trans (NA.out j v hv))
    have SC : Hid (∀ (j : Nat) (v : Value), (shpV ⟨l1, n1, t1, li, mi, fo, lo, lg, fw, mo⟩)[j]? = some v → wc.cell? ⟨wb.heap.size, j, none⟩ = some v) := fun j v hv => by rw [← hwc]; exact cell_new _ _ _ _ _ hv
    have BRC : Hid (Below wr.heap.size wr wc) := (BA.out.trans (hbb.mono (by omega))).trans (BC.out.mono (by omega))
    have BWC : Hid (Below w.heap.size w wc) := hB.out.trans (BRC.out.mono hB.out.size)
    have KC : Hid (KwAt wc) := hk.out.next BWC.out
    have LC : Hid (Lay wc g o L) := HLr.out.next BRC.out
    clear NA BA BC
    have e0 : wc.cell? ⟨wr.heap.size, 0, none⟩ = some (.int .i64 kd) := NC.out 0 _ rfl
    have e1 : wc.cell? ⟨wr.heap.size, 1, none⟩ = some (.int .i64 ps) := NC.out 1 _ rfl
    have e2 : wc.cell? ⟨wr.heap.size, 2, none⟩ = some (.string nm) := NC.out 2 _ rfl
    have e3 : wc.cell? ⟨wr.heap.size, 3, none⟩ = some (.string lb) := NC.out 3 _ rfl
    have e4 : wc.cell? ⟨wr.heap.size, 4, none⟩ = some (.string ty) := NC.out 4 _ rfl
    have e5 : wc.cell? ⟨wr.heap.size, 5, none⟩ = some (.int .i64 op) := NC.out 5 _ rfl
    have e6 : wc.cell? ⟨wr.heap.size, 6, none⟩ = some (.int .i64 it) := NC.out 6 _ rfl
    have e7 : wc.cell? ⟨wr.heap.size, 7, none⟩ = some (.string tx) := NC.out 7 _ rfl
    have e8 : wc.cell? ⟨wr.heap.size, 8, none⟩ = some (.int .i64 zz) := NC.out 8 _ rfl
    have s0' : wc.cell? ⟨wb.heap.size, 0, none⟩ = some (.int .i64 l1) := SC.out 0 _ rfl
    have s1 : wc.cell? ⟨wb.heap.size, 1, none⟩ = some (.int .i64 n1) := SC.out 1 _ rfl
    have s2 : wc.cell? ⟨wb.heap.size, 2, none⟩ = some (.int .i64 t1) := SC.out 2 _ rfl
    have s3 : wc.cell? ⟨wb.heap.size, 3, none⟩ = some (.int .i64 li) := SC.out 3 _ rfl
    have s4 : wc.cell? ⟨wb.heap.size, 4, none⟩ = some (.int .i64 mi) := SC.out 4 _ rfl
    have s5 : wc.cell? ⟨wb.heap.size, 5, none⟩ = some (.int .i64 fo) := SC.out 5 _ rfl
    have s6 : wc.cell? ⟨wb.heap.size, 6, none⟩ = some (.int .i64 lo) := SC.out 6 _ rfl
    have s7 : wc.cell? ⟨wb.heap.size, 7, none⟩ = some (.int .i64 lg) := SC.out 7 _ rfl
    have s8 : wc.cell? ⟨wb.heap.size, 8, none⟩ = some (.int .i64 fw) := SC.out 8 _ rfl
    have s9 : wc.cell? ⟨wb.heap.size, 9, none⟩ = some (.int .i64 mo) := SC.out 9 _ rfl
    cases kn with
    | false =>
     have HRF : Hid (r = false) := by
      show r = false
      rw [← HR.out]
      refine tree_false hlt ?_
      rw [HFT.out]
      rfl
     go_wp2
     rw [HRF.out]
     go_ret
     exact ⟨rfl, BWC.out⟩
    | true =>
     obtain ⟨fb, hfb⟩ : ∃ fb, fieldsS nameS typeS ⟨l1, n1, t1, li, mi, fo, lo, lg, fw, mo⟩ ⟨kd, ps, nm, lb, ty, op, it, tx, zz⟩ = fb := ⟨_, rfl⟩
     have HFI : Hid (Calls Tryz.prog 29 #[.agg #[.int .i64 l1, .int .i64 n1, .int .i64 t1, .int .i64 li, .int .i64 mi, .int .i64 fo, .int .i64 lo, .int .i64 lg, .int .i64 fw, .int .i64 mo], .agg #[.int .i64 kd, .int .i64 ps, .string nm, .string lb, .string ty, .int .i64 op, .int .i64 it, .string tx, .int .i64 zz]] wc fun e w' => e = .returned (.bool fb) ∧ Below wc.heap.size wc w') := by
      rw [← hfb]
      exact fieldsFit_any ⟨l1, n1, t1, li, mi, fo, lo, lg, fw, mo⟩ ⟨kd, ps, nm, lb, ty, op, it, tx, zz⟩ wc KC.out.1 KC.out.2 (Nat.le_trans HTx.out.1 (by decide)) (Nat.le_trans HTx.out.2.1 (by decide)) (Nat.le_trans HTx.out.2.2.1 (by decide)) (Nat.le_trans HTx.out.2.2.2 (by decide))
     rw [hfb] at HFT
     clear hfb
     cases fb with
     | false =>
      have HRF : Hid (r = false) := by
       show r = false
       rw [← HR.out]
       refine tree_false hlt ?_
       rw [HFT.out]
       rfl
      go_wp2_with (first
       | (go_at_call 29; refine HFI.out.mono ?_; rintro e wd ⟨rfl, hbd⟩)
       | go_in)
      rw [HRF.out]
      go_ret
      exact ⟨rfl, BWC.out.trans (hbd.mono BWC.out.size)⟩
     | true =>
      obtain ⟨kb, hkb⟩ : ∃ kb, kidsS L ⟨l1, n1, t1, li, mi, fo, lo, lg, fw, mo⟩ k = kb := ⟨_, rfl⟩
      have HKI : Hid (∀ wd : World, Below wc.heap.size wc wd → Calls Tryz.prog 30 #[.agg #[.int .i64 l1, .int .i64 n1, .int .i64 t1, .int .i64 li, .int .i64 mi, .int .i64 fo, .int .i64 lo, .int .i64 lg, .int .i64 fw, .int .i64 mo], .slice (some ⟨g, o, none⟩) L.length cap, .int .i64 (k : Int)] wd fun e w' => e = .returned (.bool kb) ∧ Below wd.heap.size wd w') := fun wd hd => by
       rw [← hkb]
       exact kidsFit_any ⟨l1, n1, t1, li, mi, fo, lo, lg, fw, mo⟩ wd g o cap L k hL hlt HG.out (LC.out.next hd)
      rw [hkb] at HFT
      clear hkb
      cases kb with
      | false =>
       have HRF : Hid (r = false) := by
        show r = false
        rw [← HR.out]
        refine tree_false hlt ?_
        rw [HFT.out]
        rfl
       go_wp2_with (first
        | (go_at_call 29; refine HFI.out.mono ?_; rintro e wd ⟨rfl, hbd⟩; have f0 := (hbd.cell (p := ⟨wb.heap.size, 0, none⟩) zc).trans s0'; have f1 := (hbd.cell (p := ⟨wb.heap.size, 1, none⟩) zc).trans s1; have f2 := (hbd.cell (p := ⟨wb.heap.size, 2, none⟩) zc).trans s2; have f3 := (hbd.cell (p := ⟨wb.heap.size, 3, none⟩) zc).trans s3; have f4 := (hbd.cell (p := ⟨wb.heap.size, 4, none⟩) zc).trans s4; have f5 := (hbd.cell (p := ⟨wb.heap.size, 5, none⟩) zc).trans s5; have f6 := (hbd.cell (p := ⟨wb.heap.size, 6, none⟩) zc).trans s6; have f7 := (hbd.cell (p := ⟨wb.heap.size, 7, none⟩) zc).trans s7; have f8 := (hbd.cell (p := ⟨wb.heap.size, 8, none⟩) zc).trans s8; have f9 := (hbd.cell (p := ⟨wb.heap.size, 9, none⟩) zc).trans s9)
        | (go_at_call 30; refine (HKI.out wd hbd).mono ?_; rintro e we ⟨rfl, hbe⟩)
        | go_in)
       rw [HRF.out]
       go_ret
       have hd := BWC.out.trans (hbd.mono BWC.out.size)
       exact ⟨rfl, hd.trans (hbe.mono hd.size)⟩
      | true =>
       go_wp2_with (first
        | (go_at_call 29; refine HFI.out.mono ?_; rintro e wd ⟨rfl, hbd⟩; have f0 := (hbd.cell (p := ⟨wb.heap.size, 0, none⟩) zc).trans s0'; have f1 := (hbd.cell (p := ⟨wb.heap.size, 1, none⟩) zc).trans s1; have f2 := (hbd.cell (p := ⟨wb.heap.size, 2, none⟩) zc).trans s2; have f3 := (hbd.cell (p := ⟨wb.heap.size, 3, none⟩) zc).trans s3; have f4 := (hbd.cell (p := ⟨wb.heap.size, 4, none⟩) zc).trans s4; have f5 := (hbd.cell (p := ⟨wb.heap.size, 5, none⟩) zc).trans s5; have f6 := (hbd.cell (p := ⟨wb.heap.size, 6, none⟩) zc).trans s6; have f7 := (hbd.cell (p := ⟨wb.heap.size, 7, none⟩) zc).trans s7; have f8 := (hbd.cell (p := ⟨wb.heap.size, 8, none⟩) zc).trans s8; have f9 := (hbd.cell (p := ⟨wb.heap.size, 9, none⟩) zc).trans s9)
        | (go_at_call 30; refine (HKI.out wd hbd).mono ?_; rintro e we ⟨rfl, hbe⟩)
        | go_in)
       have hd := BWC.out.trans (hbd.mono BWC.out.size)
       refine ⟨⟨k + 1, by omega, by go_num, fun m hm => ?_, hd.trans (hbe.mono hd.size)⟩, by simp [intOf]; omega⟩
       by_cases hmk : m < k
       ·exact hfit.out m hmk
       ·obtain rfl : m = k := by omega
        rw [HFT.out]
        rfl
   ·obtain rfl : k = L.length := by omega
    have HRF : Hid (r = true) := by
     show r = true
     rw [← HR.out]
     exact tree_true HHB.out hfit.out
    go_wp2
    rw [HRF.out]
    go_ret
    exact ⟨rfl, hB.out⟩
theorem isTree_any (w : World) (p : Option Addr) (cap : Nat) (L : List Nd) (hf : Fine L) (h : Rd w p L) (hk : KwAt w) :
 Calls Tryz.prog 16 #[.slice p L.length cap] w fun e w' => e = .returned (.bool (treeS nameS typeS L)) ∧ Below w.heap.size w w' := by
 cases L with
 | nil =>
  have e : treeS nameS typeS [] = false := rfl
  rw [e]
  clear h hk hf
  go_enter Tryz.func16, Tryz.ntmps16
  go_wp2
  go_ret
  exact ⟨rfl, Below.refl _ _⟩
 | cons x L =>
  obtain ⟨g, o, rfl, hl⟩ := h (by simp)
  exact isTree_some w g o cap (x :: L) (by simp) hf hl hk
def alikeB (x y : Nd) : Bool := (x.kind == y.kind) && (x.name.toList == y.name.toList) && (x.label.toList == y.label.toList) && (x.typ.toList == y.typ.toList) && (x.op == y.op) && (x.int == y.int) && (x.text.toList == y.text.toList) && (x.size == y.size)
theorem nd_ext {A B : List Nd} (hl : A.length = B.length) (h : ∀ i, i < A.length → nd A i = nd B i) : A = B := by
 apply List.ext_getElem hl
 intro i h1 h2
 have := h i h1
 simpa [nd, h1, h2] using this
def Reads (w : World) (p : Option Addr) (n : Nat) (L : List Nd) : Prop := Fine L ∧ L.length = n ∧ Rd w p L
theorem Reads.next {w w' : World} {p : Option Addr} {n : Nat} {L : List Nd} (h : Reads w p n L) (hb : Below w.heap.size w w') : Reads w' p n L := ⟨h.1, h.2.1, h.2.2.next hb⟩
end Go.Proofs.YtekgnogjfggnmaaGreatDoor
