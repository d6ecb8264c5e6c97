import Derived.Test.YtekgnogjfggnmaaGreatDoorN47
import Derived.Test.YtekgnogjfggnmaaGreatDoorN32
namespace Go.Proofs.YtekgnogjfggnmaaGreatDoor
open Go.RowKit
def KP (ds : List Nat) (m k : Nat) : Prop := m < k ∧ k ≤ ds.length ∧ (∀ j, m < j → j < k → ds.getD m 0 < ds.getD j 0) ∧ (k = ds.length ∨ ds.getD k 0 ≤ ds.getD m 0)
theorem KP.uniq {ds : List Nat} {m a b : Nat} (h : KP ds m a) (k : KP ds m b) : a = b := by
 obtain ⟨a1, a2, a3, a4⟩ := h
 obtain ⟨b1, b2, b3, b4⟩ := k
 rcases Nat.lt_trichotomy a b with q | q | q
 ·have := b3 a a1 q
  rcases a4 with e | e <;> omega
 ·exact q
 ·have := a3 b b1 q
  rcases b4 with e | e <;> omega
open Classical in
noncomputable def kF (ds : List Nat) (m : Nat) : Nat := if h : ∃ k, KP ds m k then h.choose else 0
theorem KP.kF {ds : List Nat} {m k : Nat} (h : KP ds m k) : kF ds m = k := by
 have hx : ∃ k, KP ds m k := ⟨k, h⟩
 unfold YtekgnogjfggnmaaGreatDoor.kF
 rw [dif_pos hx]
 exact hx.choose_spec.uniq h
theorem stk_pos {ds : List Nat} (hd : DOk ds) {m : Nat} (hm : m < ds.length) : ∀ d, m + d < ds.length → (∀ j, m < j → j ≤ m + d → ds.getD m 0 < ds.getD j 0) → (stk ds (m + d + 1))[ds.getD m 0]? = some m
 | 0, _, _ => by
  show ((stk ds m).take (ds.getD m 0) ++ [m])[ds.getD m 0]? = some m
  rw [List.getElem?_append_right (by rw [List.length_take]; omega), List.length_take, Nat.min_eq_left (hd m hm), Nat.sub_self]
  rfl
 | d + 1, h1, h2 => by
  have ih := stk_pos hd hm d (by omega) (fun j a b => h2 j a (by omega))
  have h3 := h2 (m + (d + 1)) (by omega) (by omega)
  show ((stk ds (m + (d + 1))).take (ds.getD (m + (d + 1)) 0) ++ [m + (d + 1)])[ds.getD m 0]? = some m
  have hl : ds.getD m 0 < (stk ds (m + (d + 1))).length := by
   have := (List.getElem?_eq_some_iff.1 ih).1
   exact this
  rw [List.getElem?_append_left (by rw [List.length_take]; omega), List.getElem?_take_of_lt h3]
  exact ih
theorem cls_KP {ds : List Nat} (hd : DOk ds) {m : Nat} (hm : m < ds.length) : KP ds m (cls ds m ds.length) := by
 have c1 := cls_gt (ds := ds) hm
 have c2 := cls_le (ds := ds) ds.length (Nat.le_of_lt hm)
 have key : ∀ d, m + d < cls ds m ds.length → ∀ j, m < j → j ≤ m + d → ds.getD m 0 < ds.getD j 0 := by
  intro d
  induction d with
  | zero => intro _ j h1 h2; omega
  | succ d ih =>
   intro h j h1 h2
   have ih' := ih (by omega)
   by_cases hj : j ≤ m + d
   ·exact ih' j h1 hj
   ·obtain rfl : j = m + (d + 1) := by omega
    have hp := stk_pos hd hm d (by omega) ih'
    have hmem := (cls_iff (ds := ds) (m := m) ds.length (m + (d + 1) + 1) (by omega) (by omega)).2 (by omega)
    apply Classical.byContradiction
    intro hn
    have e : stk ds (m + (d + 1) + 1) = (stk ds (m + d + 1)).take (ds.getD (m + (d + 1)) 0) ++ [m + (d + 1)] := rfl
    rw [e] at hmem
    rcases List.mem_append.1 hmem with q | q
    ·obtain ⟨i, hi, hie⟩ := List.mem_iff_getElem.1 q
     rw [List.length_take] at hi
     rw [List.getElem_take] at hie
     have hnd : (stk ds (m + d + 1)).Nodup := (stk_sub ds (m + d + 1)).nodup List.nodup_range
     have hp2 := List.getElem?_eq_some_iff.1 hp
     obtain ⟨hp3, hp4⟩ := hp2
     exact List.pairwise_iff_getElem.1 hnd i (ds.getD m 0) (by omega) hp3 (by omega) (hie.trans hp4.symm)
    ·have := List.mem_singleton.1 q
     omega
 refine ⟨c1, c2, fun j h1 h2 => key (j - m) (by omega) j h1 (by omega), ?_⟩
 by_cases h : cls ds m ds.length = ds.length
 ·exact Or.inl h
 ·right
  obtain ⟨d, hdd⟩ : ∃ d, cls ds m ds.length = m + d + 1 := ⟨cls ds m ds.length - m - 1, by omega⟩
  have hp := stk_pos hd hm d (by omega) (key d (by omega))
  have hnm := fun q => (cls_iff (ds := ds) (m := m) ds.length (m + d + 1 + 1) (by omega) (by omega)).1 q
  apply Classical.byContradiction
  intro hn
  rw [hdd] at hn
  have h3 : ds.getD m 0 < ds.getD (m + d + 1) 0 := by omega
  have hin : m ∈ stk ds (m + d + 1 + 1) := by
   show m ∈ (stk ds (m + d + 1)).take (ds.getD (m + d + 1) 0) ++ [m + d + 1]
   apply List.mem_append_left
   obtain ⟨hp3, hp4⟩ := List.getElem?_eq_some_iff.1 hp
   have hlt : ds.getD m 0 < ((stk ds (m + d + 1)).take (ds.getD (m + d + 1) 0)).length := by rw [List.length_take]; omega
   have hmm := List.getElem_mem hlt
   rw [List.getElem_take, hp4] at hmm
   exact hmm
  have := hnm hin
  omega
noncomputable def refL (acc : List (Nd × Nat)) : List Nd := (List.range acc.length).map fun m => { (acc.getD m default).1 with size := ((kF (dps acc) m : Nat) : Int) - (m : Int) }
theorem refL_len (acc : List (Nd × Nat)) : (refL acc).length = acc.length := by unfold refL; rw [List.length_map, List.length_range]
theorem refL_nd (acc : List (Nd × Nat)) {m : Nat} (hm : m < acc.length) : nd (refL acc) m = { (acc.getD m default).1 with size := ((kF (dps acc) m : Nat) : Int) - (m : Int) } := by
 unfold nd refL
 rw [List.getD_eq_getElem?_getD, List.getElem?_map, List.getElem?_range hm]
 rfl
def RowsR (LS : List (List UInt8)) (acc : List (Nd × Nat)) : Prop := acc.length ≤ LS.length ∧ ∀ j, j < acc.length → RowR (LS.getD j []) (acc.getD j default).1 (acc.getD j default).2
theorem good_lines {t : List UInt8} {L : List Nd} (h : readS t = some L) : (linF t).length = L.length ∧ ∀ j, j < L.length → SoundM (nd L j) ∧ (linF t).getD j [] = blk (dep L j) ++ (lnB (shp (nd L j).kind).1 (nd L j) ++ [32, 64] ++ Lib.itoa (nd L j).pos) := by
 obtain ⟨r1, r2, r3⟩ := read_sound h
 obtain ⟨g1, g2⟩ := read_rng h
 have hT := tr_of r1
 have hso : ∀ j, j < L.length → SoundM (nd L j) := fun j hj => soundM_of r1 g1 g2 hj
 rw [dmp_flat] at r2
 obtain ⟨ps, hps⟩ : ∃ ps, (List.range L.length).map (fun i => (nd L i, dep L i)) = ps := ⟨_, rfl⟩
 have hpl : ps.length = L.length := by rw [← hps, List.length_map, List.length_range]
 have hpi : ∀ i, i < L.length → ps[i]? = some (nd L i, dep L i) := fun i hi => by
  rw [← hps, List.getElem?_map, List.getElem?_range hi]
  rfl
 rw [hps] at r2
 have hsn : ∀ p ∈ ps, Sound p.1 := fun p hp => by
  rw [← hps] at hp
  obtain ⟨i, hi, rfl⟩ := List.mem_map.1 hp
  exact (hso i (List.mem_range.1 hi)).s
 have hne : ps ≠ [] := fun e => by
  have := hT.pos
  rw [e] at hpl
  simp at hpl
  omega
 have hl : linF t = ps.map fun p => blk p.2 ++ (lnB (shp p.1.kind).1 p.1 ++ [32, 64] ++ Lib.itoa p.1.pos) := by
  rw [← r2]
  unfold linF
  rw [if_pos (flat_last hne), lin_flat ps hsn]
 refine ⟨by rw [hl, List.length_map, hpl], fun j hj => ⟨hso j hj, ?_⟩⟩
 rw [hl, List.getD_eq_getElem?_getD, List.getElem?_map, hpi j hj]
 rfl
theorem good_refL {t : List UInt8} {L : List Nd} (h : readS t = some L) {acc : List (Nd × Nat)} (ha : acc.length = (linF t).length) (hr : RowsR (linF t) acc) : refL acc = L := by
 obtain ⟨h1, h2⟩ := good_lines h
 have hT := tr_of (read_sound h).1
 have hal : acc.length = L.length := by rw [ha, h1]
 have hrow : ∀ j, j < L.length → (acc.getD j default).1 = { nd L j with size := 0 } ∧ (acc.getD j default).2 = dep L j := fun j hj => by
  have h3 := hr.2 j (by omega)
  obtain ⟨s1, s2⟩ := h2 j hj
  rw [s2] at h3
  exact row_ok s1 h3
 have hds : ∀ j, j < L.length → (dps acc).getD j 0 = dep L j := fun j hj => by
  unfold dps
  rw [getD_map2 (·.2) acc j default 0 (by omega)]
  exact (hrow j hj).2
 have hdl : (dps acc).length = L.length := by rw [dps_len, hal]
 have hD : DOk (dps acc) := hT.dok _ hdl hds
 refine ext_nd (by rw [refL_len, hal]) fun m hm => ?_
 rw [refL_len] at hm
 have hk := (cls_KP hD (m := m) (by omega)).kF
 rw [refL_nd acc hm, hk, hdl, hT.cls_sz _ hds (by omega), (hrow m (by omega)).1]
 have : (m : Int) + sz L m - (m : Int) = (nd L m).size := by show (m : Int) + (nd L m).size - (m : Int) = _; omega
 rw [this]
theorem good_at {t : List UInt8} {L : List Nd} (h : readS t = some L) {j : Nat} (hj : j < (linF t).length) : 2 ≤ atF (strF ((linF t).getD j [])).2 (strF ((linF t).getD j [])).2.length := by
 obtain ⟨h1, h2⟩ := good_lines h
 obtain ⟨s1, s2⟩ := h2 j (by omega)
 generalize nd L j = y at s1 s2
 rw [s2]
 have e1 : lnB (shp y.kind).1 y ++ [32, 64] ++ Lib.itoa y.pos = (lnB (shp y.kind).1 y ++ [32]) ++ 64 :: Lib.itoa y.pos := by simp
 have e2 : ∀ r, (lnB (shp y.kind).1 y ++ [32]) ++ 64 :: Lib.itoa y.pos ≠ 32 :: r := by
  rw [List.append_assoc]
  exact lnB_head s1.s.kn _
 rw [e1, strF_blk e2]
 simp only
 rw [atF_last (itoa_no64 s1.s.p0) _ (by simp only [List.length_append, List.length_cons, List.length_nil]; omega) (by simp only [List.length_append, List.length_cons, List.length_nil]; omega)]
 simp only [List.length_append, List.length_cons, List.length_nil]
 omega
theorem bk_sz (l : List UInt8) (h : l.length ≤ 140737488355328) : (bk l).size ≤ 140737488355328 := by rw [bk_size]; exact h
theorem noneF_len (l : List UInt8) : (noneF l).length ≤ l.length := by unfold noneF; split <;> simp
theorem spl_len (l : List UInt8) (j : Nat) : ((splF l).getD j []).length ≤ l.length := by
 rw [List.getD_eq_getElem?_getD]
 cases hx : (splF l)[j]? with
 | none => simp
 | some y =>
  have := splA_mem l [] y (List.mem_of_getElem? hx)
  simpa using this
theorem seem_fine {l : List UInt8} {x : Nd} (hl : l.length ≤ 4194304) (h : SeemR l x) : FineN x ∧ x.int ≤ 9223372036854775807 ∧ x.size = 0 := by
 obtain ⟨k, _, h⟩ := h
 have o1 := spl_len l 1
 have o2 := spl_len l 2
 generalize (splF l).getD 1 [] = one at h o1
 generalize (splF l).getD 2 [] = two at h o2
 have n1 := noneF_len one
 have n2 := noneF_len two
 have b0 : (⟨#[]⟩ : ByteArray).size ≤ 140737488355328 := by decide
 have b1 := bk_sz one (by omega)
 have b2 := bk_sz two (by omega)
 have b3 := bk_sz (noneF one) (by omega)
 have b4 := bk_sz (noneF two) (by omega)
 have nr := (numF_rng one 0 (by omega)).2
 have i0 : (0 : Int) ≤ 9223372036854775807 := by decide
 unfold SeemK at h
 split at h
 ·subst h; exact ⟨⟨b1, b0, b4, b0⟩, i0, rfl⟩
 split at h
 ·subst h; exact ⟨⟨b0, b3, b0, b0⟩, i0, rfl⟩
 split at h
 ·subst h; exact ⟨⟨b2, b3, b0, b0⟩, i0, rfl⟩
 split at h
 ·subst h; exact ⟨⟨b0, b0, b0, b0⟩, nr, rfl⟩
 split at h
 ·subst h; exact ⟨⟨b4, b0, b0, b0⟩, nr, rfl⟩
 split at h
 ·subst h
  refine ⟨⟨b0, b0, b0, bk_sz _ ?_⟩, i0, rfl⟩
  split
  ·have := qF_len (l.drop 5)
   rw [List.length_drop] at this
   omega
  ·simp
 split at h
 ·subst h; exact ⟨⟨b1, b0, b0, b0⟩, i0, rfl⟩
 split at h
 ·obtain ⟨v, _, rfl⟩ := h; exact ⟨⟨b0, b0, b0, b0⟩, i0, rfl⟩
 split at h
 ·obtain ⟨v, _, rfl⟩ := h; exact ⟨⟨b0, b0, b0, b0⟩, i0, rfl⟩
 split at h
 ·subst h; exact ⟨⟨b0, b0, b1, b0⟩, i0, rfl⟩
 ·subst h; exact ⟨⟨b0, b0, b0, b0⟩, i0, rfl⟩
end Go.Proofs.YtekgnogjfggnmaaGreatDoor

namespace Go.Proofs.YtekgnogjfggnmaaGreatDoor
open Go.RowKit Go.Shelf
set_option maxRecDepth 100000
set_option maxHeartbeats 20000000
theorem ret14 {w : World} {B : Nat} {v d : Value} {tm : Array Value} (h : w.cell? ⟨B, 0, none⟩ = some v) (h2 : tm[2]?.getD undef = .pointer (some ⟨B, 0, none⟩)) (h3 : tm[3]?.getD undef = d) : (results Tryz.f14 tm).run Tryz.prog w = .ok (.tuple #[.agg #[v], d]) w := by
 simp [results, Tryz.results14, go_sem, h2, h3, h]
structure LSt (w wr : World) (A B0 : Nat) (nv : Value) (n : Nat) (M : List Nd) : Prop where
 cA : wr.cell? ⟨A, 0, none⟩ = some (.slice none 0 0)
 fA : wr.frozen? ⟨A, 0, none⟩ = false
 cT : wr.cell? ⟨A + 1, 0, none⟩ = some nv
 fT : wr.frozen? ⟨A + 1, 0, none⟩ = false
 own : wr.ownsRow B0 42 9 nv n (flat M)
 bel : Below w.heap.size w wr
 hA : w.heap.size ≤ A
 hB : A + 1 < B0
 sz : B0 ≤ wr.heap.size
theorem LSt.next {w wr w' : World} {A B0 : Nat} {nv : Value} {n : Nat} {M : List Nd} (h : LSt w wr A B0 nv n M) (hb : Below wr.heap.size wr w') : LSt w w' A B0 nv n M :=
 { h with
  cA := (hb.cell (p := ⟨A, 0, none⟩) (by show A < _; have := h.hB; have := h.sz; omega)).trans h.cA
  fA := (hb.frozen (p := ⟨A, 0, none⟩) (by show A < _; have := h.hB; have := h.sz; omega)).trans h.fA
  cT := (hb.cell (p := ⟨A + 1, 0, none⟩) (by show A + 1 < _; have := h.hB; have := h.sz; omega)).trans h.cT
  fT := (hb.frozen (p := ⟨A + 1, 0, none⟩) (by show A + 1 < _; have := h.hB; have := h.sz; omega)).trans h.fT
  own := own_stays h.own hb
  bel := h.bel.trans (hb.mono h.bel.size)
  sz := Nat.le_trans h.sz hb.size }
theorem LSt.nums {w wr w' : World} {A B0 : Nat} {nv : Value} {n : Nat} {M : List Nd} (h : LSt w wr A B0 nv n M) (hb : Below B0 wr w') (hk : Lib.OthersKept 3 none wr w') : LSt w w' A B0 nv n M :=
 { h with
  cA := (hb.cell (p := ⟨A, 0, none⟩) (by show A < _; have := h.hB; omega)).trans h.cA
  fA := (hb.frozen (p := ⟨A, 0, none⟩) (by show A < _; have := h.hB; omega)).trans h.fA
  cT := (hb.cell (p := ⟨A + 1, 0, none⟩) h.hB).trans h.cT
  fT := (hb.frozen (p := ⟨A + 1, 0, none⟩) h.hB).trans h.fT
  own := own_other hk h.own (by decide)
  bel := h.bel.trans (hb.mono (by have := h.hA; have := h.hB; omega))
  sz := Nat.le_trans h.sz hb.size }
def FAcc (acc : List (Nd × Nat)) : Prop := ∀ p ∈ acc, FineN p.1 ∧ p.1.int ≤ 9223372036854775807 ∧ p.1.pos ≤ 9223372036854775807
theorem rows_snoc {LS : List (List UInt8)} {acc : List (Nd × Nat)} {x : Nd} {d : Nat} (h : RowsR LS acc) (hl : acc.length < LS.length) (hr : RowR (LS.getD acc.length []) x d) : RowsR LS (acc ++ [(x, d)]) := by
 refine ⟨by rw [List.length_append, List.length_singleton]; omega, fun j hj => ?_⟩
 rw [List.length_append, List.length_singleton] at hj
 by_cases hk : j < acc.length
 ·have e : (acc ++ [(x, d)]).getD j default = acc.getD j default := by
   rw [List.getD_eq_getElem?_getD, List.getD_eq_getElem?_getD, List.getElem?_append_left hk]
  rw [e]
  exact h.2 j hk
 ·obtain rfl : j = acc.length := by omega
  have e : (acc ++ [(x, d)]).getD acc.length default = (x, d) := by
   rw [List.getD_eq_getElem?_getD, List.getElem?_append_right (Nat.le_refl _), Nat.sub_self]
   rfl
  rw [e]
  exact hr
theorem FAcc.snoc {acc : List (Nd × Nat)} {x : Nd} {d : Nat} (h : FAcc acc) (h1 : FineN x) (h2 : x.int ≤ 9223372036854775807) (h3 : x.pos ≤ 9223372036854775807) : FAcc (acc ++ [(x, d)]) := by
 intro p hp
 rcases List.mem_append.1 hp with q | q
 ·exact h p q
 ·rw [List.mem_singleton.1 q]
  exact ⟨h1, h2, h3⟩
noncomputable def midN (acc : List (Nd × Nat)) (m j : Nat) : Nd := if j < m then { (acc.getD j default).1 with size := ((kF (dps acc) j : Nat) : Int) - (j : Int) } else (acc.getD j default).1
noncomputable def midL (acc : List (Nd × Nat)) (m : Nat) : List Nd := (List.range acc.length).map (midN acc m)
theorem midL_len (acc : List (Nd × Nat)) (m : Nat) : (midL acc m).length = acc.length := by unfold midL; rw [List.length_map, List.length_range]
theorem midL_zero (acc : List (Nd × Nat)) : midL acc 0 = acc.map (·.1) := by
 refine List.ext_getElem? fun j => ?_
 unfold midL
 rw [List.getElem?_map, List.getElem?_map]
 by_cases h : j < acc.length
 ·rw [List.getElem?_range h, List.getElem?_eq_getElem h]
  simp [midN, List.getD_eq_getElem?_getD, List.getElem?_eq_getElem h]
 ·rw [List.getElem?_eq_none (by rw [List.length_range]; omega), List.getElem?_eq_none (by omega)]
  rfl
theorem midL_all (acc : List (Nd × Nat)) : midL acc acc.length = refL acc := by
 unfold midL refL
 refine List.map_congr_left fun j hj => ?_
 rw [List.mem_range] at hj
 unfold midN
 rw [if_pos hj]
theorem midL_step (acc : List (Nd × Nat)) (m : Nat) : midL acc (m + 1) = (midL acc m).modify m (fSize (((kF (dps acc) m : Nat) : Int) - (m : Int))) := by
 refine List.ext_getElem? fun j => ?_
 rw [List.getElem?_modify]
 unfold midL
 rw [List.getElem?_map, List.getElem?_map]
 by_cases h : j < acc.length
 ·rw [List.getElem?_range h]
  by_cases e : m = j
  ·subst e
   show some (midN acc (m + 1) m) = some (if m = m then fSize _ (midN acc m m) else midN acc m m)
   rw [if_pos rfl]
   unfold midN
   rw [if_pos (by omega), if_neg (by omega)]
   rfl
  ·show some (midN acc (m + 1) j) = some (if m = j then fSize _ (midN acc m j) else midN acc m j)
   rw [if_neg e]
   unfold midN
   by_cases q : j < m
   ·rw [if_pos (by omega), if_pos q]
   ·rw [if_neg (by omega), if_neg q]
 ·rw [List.getElem?_eq_none (l := List.range acc.length) (by rw [List.length_range]; omega)]
  simp
theorem FAcc.at' {acc : List (Nd × Nat)} (h : FAcc acc) {m : Nat} (hm : m < acc.length) : FineN (acc.getD m default).1 ∧ (acc.getD m default).1.int ≤ 9223372036854775807 ∧ (acc.getD m default).1.pos ≤ 9223372036854775807 := by
 refine h _ ?_
 rw [List.getD_eq_getElem?_getD, List.getElem?_eq_getElem hm]
 exact List.getElem_mem hm
theorem refL_fine {acc : List (Nd × Nat)} (h : FAcc acc) (hl : acc.length ≤ 4194304) : Fine (refL acc) := by
 refine ⟨by rw [refL_len]; omega, fun i hi => ?_⟩
 rw [refL_len] at hi
 rw [refL_nd acc hi]
 exact (h.at' hi).1
theorem refL_rng {acc : List (Nd × Nat)} (h : FAcc acc) : Rng (refL acc) ∧ RngP (refL acc) := by
 refine ⟨fun i hi => ?_, fun i hi => ?_⟩ <;>
 ·rw [refL_len] at hi
  rw [refL_nd acc hi]
  first
   | exact (h.at' hi).2.1
   | exact (h.at' hi).2.2
theorem ref_yes {t : List UInt8} {acc : List (Nd × Nat)} (h : FAcc acc) (hd : dumpS (refL acc) = (t, 0)) : readS t = some (refL acc) := by
 obtain ⟨r1, r2⟩ := refL_rng h
 rcases dump_tells (refL acc) r1 r2 with ⟨a, b, c⟩ | ⟨_, _, c⟩ | ⟨_, c⟩
 ·rw [c] at hd
  injection hd with e1 _
  rw [← e1]
  exact read_ok a (tr_of a) r1 r2 b
 ·rw [c] at hd
  injection hd with _ e
  exact absurd e (by decide)
 ·rw [c] at hd
  injection hd with _ e
  exact absurd e (by decide)
theorem ref_no {t : List UInt8} {acc : List (Nd × Nat)} (ha : acc.length = (linF t).length) (hr : RowsR (linF t) acc) (hd : dumpS (refL acc) ≠ (t, 0)) : readS t = none := by
 cases hR : readS t with
 | none => rfl
 | some L =>
  exfalso
  have e := good_refL hR ha hr
  obtain ⟨s1, s2, s3⟩ := read_sound hR
  apply hd
  rw [e, dump_ok s1 (by rw [s2]; exact s3), s2]
theorem below_dN (w : World) (n : Nat) : Below w.heap.size w (w.drewN n) := ⟨rfl, rfl, rfl, Nat.le_refl _, fun _ _ => rfl⟩
theorem LSt.size {w wr : World} {A B0 g c k : Nat} {M : List Nd} (h : LSt w wr A B0 (.slice (some ⟨g, 0, none⟩) k c) k M) (hM : M.length = k) {m : Nat} (hm : m < k) (z : Int) : LSt w (wr.setCell ⟨g, m * 9 + 8, none⟩ (.int .i64 z)) A B0 (.slice (some ⟨g, 0, none⟩) k c) k (M.modify m (fSize z)) := by
 have hge := own_ge h.own
 have hgB : B0 ≤ g := hge _ rfl
 have hA := h.hA
 have hB := h.hB
 have HS := h.own.stored (m * 9 + 8) (.int .i64 z)
 refine ⟨?_, ?_, ?_, ?_, ?_, ?_, hA, hB, ?_⟩
 ·rw [World.cell?_setCell_other _ _ _ _ (fun e => by have := congrArg Addr.block e; simp only at this; omega)]; exact h.cA
 ·rw [World.frozen?_setCell]; exact h.fA
 ·rw [World.cell?_setCell_other _ _ _ _ (fun e => by have := congrArg Addr.block e; simp only at this; omega)]; exact h.cT
 ·rw [World.frozen?_setCell]; exact h.fT
 ·rw [← flat_set _ m _ (by omega)]
  exact HS.1
 ·exact h.bel.setCell (p := ⟨g, m * 9 + 8, none⟩) (by show w.heap.size ≤ g; omega) _
 ·rw [size_set]; exact h.sz
theorem refLoad_big (s : ByteArray) (w : World) (hs : 4194304 < s.size) :
 Calls Tryz.prog 14 #[.string s] w fun e w' => e = .returned (.tuple #[.agg #[.slice none 0 0], .int .i64 31]) ∧ Below w.heap.size w w' := by
 have h1 : (4194304 : Int) < (s.size : Int) := by omega
 go_enter Tryz.func14, Tryz.ntmps14
 go_wp2
 refine bodyPost_ret (v := .tuple #[.agg #[.slice none 0 0], .int .i64 31]) (by simp [results, Tryz.results14, go_sem]) (by rfl) ?_
 exact ⟨rfl, ((Below.refl _ w).alloc (Nat.le_refl _) _).alloc (by simp) _⟩
theorem refLoad_any (s : ByteArray) (w : World) (T : TypeId) (p : Value) (hT : RTab w T p) (hk : RKw w) (hX : Lx.RTabs w) (hs : s.size ≤ 4194304) :
 Calls Tryz.prog 14 #[.string s] w fun e w' => Hid (LoadPost w.heap.size (readS s.data.toList) e w') ∧ Below w.heap.size w w' := by
 have h15 := hT.size
 have h1 : ¬ (4194304 : Int) < (s.size : Int) := by omega
 obtain ⟨t0, ht0⟩ : ∃ t0, s.data.toList = t0 := ⟨_, rfl⟩
 have HL : Hid (s.data.toList = t0) := ht0
 have HZ : Hid (s.size = t0.length) := by rw [← ht0]; exact Lib.size_eq s
 rw [ht0]
 clear ht0
 have HT : Hid (∀ w', Below w.heap.size w w' → Tab10 w' ∧ Lx.RTabs w' ∧ 15 ≤ w'.heap.size ∧ DTab w' ∧ RKw w') := fun w' hb => ⟨(hT.next hb).d.ten, hX.below hb (by omega), Nat.le_trans h15 hb.size, (hT.next hb).d, fun j hj => (hb.cell (p := ⟨5, j, none⟩) (by show 5 < w.heap.size; omega)).trans (hk j hj)⟩
 clear hT hk hX
 obtain ⟨w1, hw1⟩ : ∃ w1, (w.alloc (.cells #[.slice none 0 0] 24)).alloc (.cells #[.slice none 0 0] 24) = w1 := ⟨_, rfl⟩
 have B1 : Hid (Below w.heap.size w w1) := by rw [← hw1]; exact ((Below.refl _ w).alloc (Nat.le_refl _) _).alloc (by simp) _
 have z1 : w1.heap.size = w.heap.size + 2 := by rw [← hw1]; simp
 have S1 : Hid (LSt w w1 w.heap.size w1.heap.size (.slice none 0 0) 0 []) := by
  have g1 : (w.alloc (.cells #[.slice none 0 0] 24)).heap.size = w.heap.size + 1 := by simp
  have hh := heap_alloc_new (w.alloc (.cells #[.slice none 0 0] 24)) (.cells #[.slice none 0 0] 24)
  rw [g1, hw1] at hh
  have bb := (Below.refl (w.heap.size + 1) (w.alloc (.cells #[.slice none 0 0] 24))).alloc (by rw [g1]; exact Nat.le_refl _) (.cells #[.slice none 0 0] 24)
  rw [hw1] at bb
  refine ⟨(bb.cell (p := ⟨w.heap.size, 0, none⟩) (by show w.heap.size < _; omega)).trans (cell_new _ _ _ _ _ rfl), (bb.frozen (p := ⟨w.heap.size, 0, none⟩) (by show w.heap.size < _; omega)).trans ?_, ?_, ?_, World.ownsRow_nil _ _ _ _, B1.out, Nat.le_refl _, by omega, Nat.le_refl _⟩
  ·simp only [World.frozen?, heap_alloc_new w (.cells #[.slice none 0 0] 24)]
   simp
  ·simp only [World.cell?, hh]
   rfl
  ·simp only [World.frozen?, hh]
   simp
 obtain ⟨LS, hLS⟩ : ∃ LS, linF t0 = LS := ⟨_, rfl⟩
 have HLS : Hid (linF t0 = LS) := hLS
 have hLl : LS.length ≤ 4194304 := by have := linF_len t0; rw [hLS] at this; have := HZ.out; omega
 have HLM : Hid (∀ j, (LS.getD j []).length ≤ 4194304) := fun j => by
  rw [List.getD_eq_getElem?_getD]
  cases hx : LS[j]? with
  | none => simp
  | some y =>
   have := linF_mem t0 y (by rw [hLS]; exact List.mem_of_getElem? hx)
   have := HZ.out
   simp only [Option.getD_some]
   omega
 have HLN : Hid (Calls Tryz.prog 24 #[.string s] w1 fun e w' => (∃ q c, e = .returned (.slice q LS.length c) ∧ Hid (w'.ownsRow w1.heap.size 9 1 (.slice q LS.length c) LS.length (sv LS))) ∧ Below w1.heap.size w1 w') := by
  refine (refLines_any s w1 hs).mono ?_
  rintro e w' ⟨⟨v, rfl, ho⟩, hb⟩
  have ho := ho.out
  rw [HL.out, hLS] at ho
  obtain ⟨q, c, rfl⟩ := own_slice ho
  exact ⟨⟨q, c, rfl, ho⟩, hb⟩
 clear hLS
 obtain ⟨R, hR⟩ : ∃ R, readS t0 = R := ⟨_, rfl⟩
 have HR : Hid (readS t0 = R) := hR
 rw [hR]
 clear hR
 go_enter Tryz.func14, Tryz.ntmps14
 go_upto_region 7 with (first
  | (go_at_call 24; refine HLN.out.mono ?_; rintro e w2 ⟨⟨lq, lc, rfl, hln⟩, hb2⟩)
  | go_in)
 have S2 : Hid (LSt w w2 w.heap.size w1.heap.size (.slice none 0 0) 0 []) := S1.out.next hb2
 clear S1 HLN hb2 hw1
 go_loopw [5, 7] (fun u5 i wr => ∃ (acc : List (Nd × Nat)) (nvv : Value), acc.length ≤ LS.length ∧ i = .int .i64 (acc.length : Int) ∧ Hid (RowsR LS acc) ∧ Hid (FAcc acc) ∧ Hid (LSt w wr w.heap.size w1.heap.size nvv acc.length (acc.map (·.1))) ∧ Hid (wr.ownsRow w1.heap.size 3 1 u5 acc.length (iv (acc.map fun p => ((p.2 : Nat) : Int)))) ∧ Hid (wr.ownsRow w1.heap.size 9 1 (.slice lq LS.length lc) LS.length (sv LS))) (fun _ i _ => LS.length - (intOf i).toNat)
 case atStart => exact ⟨[], _, by simp, rfl, ⟨by simp, fun j hj => by simp at hj⟩, fun p hp => by simp at hp, S2, World.ownsRow_nil _ _ _ _, hln⟩
 case round =>
  clear S2 hln
  obtain ⟨acc, nvv, hal, rfl, hRR, hFA, hS, hDO, hLO⟩ := hrel
  obtain ⟨k, hk⟩ : ∃ k, acc.length = k := ⟨_, rfl⟩
  have HK : Hid (acc.length = k) := hk
  rw [hk] at hal hS hDO ⊢
  by_cases hlt : k < LS.length
  ·obtain ⟨gl, hgl⟩ : ∃ gl, lq = some ⟨gl, 0, none⟩ := by
    rcases hLO.out.2 with ⟨_, hn⟩ | ⟨g, cap, cur, hv, _⟩
    ·omega
    ·cases hv
     exact ⟨g, rfl⟩
   subst hgl
   have k0 : (0 : Int) ≤ (k : Int) := by omega
   have k1 : (k : Int) < (LS.length : Int) := by omega
   obtain ⟨line, hline⟩ : ∃ line, LS.getD k [] = line := ⟨_, rfl⟩
   have cl : wr.cell? ⟨gl, k, none⟩ = some (.string (bk line)) := by
    have := getD_cell hLO.out rfl k hlt
    rw [hline] at this
    exact this
   have hlm : line.length ≤ 4194304 := by have := HLM.out k; rw [hline] at this; exact this
   have HLI : Hid (LS.getD k [] = line) := hline
   clear hline
   go_upto_region 11 with go_in
   clear cl
   go_loop [8, 9] (fun v8 i9 => ∃ (t : List UInt8) (dd : Nat), v8 = .string (bk t) ∧ i9 = .int .i64 (dd : Int) ∧ t.length + dd ≤ 4194304 ∧ Hid (strF line = (dd + (strF t).1, (strF t).2))) (fun v8 _ => match v8 with | .string b => b.size | _ => 0)
   case atStart => exact ⟨line, 0, rfl, rfl, by omega, by show strF line = (0 + (strF line).1, (strF line).2); rw [Nat.zero_add]⟩
   case round =>
    obtain ⟨t, dd, rfl, rfl, htd, hst⟩ := hrel
    by_cases hpair : ∃ r, t = 32 :: 32 :: r
    ·obtain ⟨r, rfl⟩ := hpair
     have hz : (bk (32 :: 32 :: r)).size = r.length + 2 := by rw [bk_size]; rfl
     have HST : Hid (strF line = (dd + 1 + (strF r).1, (strF r).2)) := by
      show _ = _
      rw [hst.out, strF, if_pos ⟨rfl, rfl⟩]
      simp only [Prod.mk.injEq, and_true]
      omega
     have R1 : ∀ wx : World, (Instr.slice 9 (.string (bk (32 :: 32 :: r))) none (some (.int .i64 2)) none).run Tryz.prog wx = .ok (.string ⟨#[32, 32]⟩) wx := fun wx => by
      have e1 := ext_take (bk (32 :: 32 :: r)) 2
      have h2 : (2 : Int) ≤ ((bk (32 :: 32 :: r)).size : Int) := by omega
      have e2 : (bk (32 :: 32 :: r)).extract 0 2 = ⟨#[32, 32]⟩ := e1
      rw [← e2]
      simp [go_sem, Tryz.underlying9, h2]
     have R2 : ∀ wx : World, (Instr.slice 9 (.string (bk (32 :: 32 :: r))) (some (.int .i64 2)) none none).run Tryz.prog wx = .ok (.string (bk r)) wx := fun wx => by
      have e1 := ext_drop (bk (32 :: 32 :: r)) 2 (bk (32 :: 32 :: r)).size (Nat.le_refl _)
      have h2 : (2 : Int) ≤ ((bk (32 :: 32 :: r)).size : Int) := by omega
      have e2 : (bk (32 :: 32 :: r)).extract 2 (bk (32 :: 32 :: r)).size = bk r := e1
      rw [← e2]
      simp [go_sem, Tryz.underlying9, h2]
     have h2 : (1 : Int) < ((bk (32 :: 32 :: r)).size : Int) := by omega
     have HZR : Hid ((bk r).size < (bk (32 :: 32 :: r)).size) := by show _ < _; rw [hz, bk_size]; omega
     have hrl : r.length + (dd + 1) ≤ 4194304 := by rw [List.length_cons, List.length_cons] at htd; omega
     clear hst htd hz
     generalize bk (32 :: 32 :: r) = bt at *
     generalize hbr : bk r = br at *
     have HBR : Hid (bk r = br) := hbr
     clear hbr
     go_wp2
     exact ⟨⟨r, dd + 1, by rw [HBR.out], by go_num, hrl, HST⟩, HZR.out⟩
    ·have HST : Hid (strF line = (dd, t)) := by
      show _ = _
      rw [hst.out]
      match t, hpair with
      | [], _ => rfl
      | [a], _ => rfl
      | a :: b :: r, hp =>
       have hn : ¬ (a = 32 ∧ b = 32) := fun h => hp ⟨r, by rw [h.1, h.2]⟩
       rw [strF, if_neg hn]
       rfl
     clear hst
     have HEX : Hid ((bk t).size ≤ 1 ∨ ((1 : Int) < ((bk t).size : Int) ∧ ∃ x : ByteArray, (∀ wx : World, (Instr.slice 9 (.string (bk t)) none (some (.int .i64 2)) none).run Tryz.prog wx = .ok (.string x) wx) ∧ (x.toList == [32, 32]) = false)) := by
      match t, hpair with
      | [], _ => left; rw [bk_size]; simp
      | [a], _ => left; rw [bk_size]; simp
      | a :: b :: r, hp =>
       right
       have hz : (bk (a :: b :: r)).size = r.length + 2 := by rw [bk_size]; rfl
       have h2 : (2 : Int) ≤ ((bk (a :: b :: r)).size : Int) := by omega
       refine ⟨by omega, bk [a, b], fun wx => ?_, ?_⟩
       ·have e1 := ext_take (bk (a :: b :: r)) 2
        have e2 : (bk (a :: b :: r)).extract 0 2 = bk [a, b] := e1
        rw [← e2]
        simp [go_sem, Tryz.underlying9, h2]
       ·rw [toL, bk_list, beq_eq_false_iff_ne]
        intro e
        simp only [List.cons.injEq, and_true] at e
        exact hp ⟨r, by rw [e.1, e.2]⟩
     have HZT : Hid ((bk t).size = t.length) := bk_size t
     obtain ⟨bt, hbt⟩ : ∃ bt, bk t = bt := ⟨_, rfl⟩
     have HBT : Hid (bk t = bt) := hbt
     rw [hbt] at HEX HZT ⊢
     clear hbt hpair
     go_upto_region 11 with fail
     go_cut [39] (fun u39 wx => u39 = .bool false ∧ wx = wr)
     case first =>
      rcases HEX.out with h1' | ⟨h1', x, hx1, hx2⟩
      ·have h2 : ¬ (1 : Int) < (bt.size : Int) := by omega
       go_wp2
       go_meet
       case rel => exact ⟨rfl, rfl⟩
      ·go_wp2
       go_meet
       case rel => exact ⟨rfl, rfl⟩
     case rest =>
     obtain ⟨rfl, hwc⟩ := hcut
     subst hwc
     clear HEX
     go_upto_region 15 with go_in
     go_loop [10] (fun i10 => ∃ n : Nat, n ≤ t.length ∧ i10 = .int .i64 (n : Int) ∧ Hid (atF t t.length = atF t n)) (fun i10 => (intOf i10).toNat)
     case atStart => exact ⟨t.length, Nat.le_refl _, by rw [HZT.out], rfl⟩
     case round =>
      obtain ⟨n, hnl, rfl, hat⟩ := hrel
      by_cases hgo : ∃ m, n = m + 1 ∧ t.getD m 0 ≠ 64
      ·obtain ⟨m, rfl, hm64⟩ := hgo
       have hmlt : m < bt.size := by rw [HZT.out]; omega
       have m0 : (0 : Int) ≤ (m : Int) := by omega
       have m1 : (m : Int) < (bt.size : Int) := by omega
       have e1 : ((m + 1 : Nat) : Int) = (m : Int) + 1 := by omega
       have e2 : IntKind.i64.wrap ((m : Int) + 1 - 1) = (m : Int) := by rw [IntKind.wrap_i64]; omega
       have e3 : (0 : Int) < (m : Int) + 1 := by omega
       obtain ⟨c, hc⟩ : ∃ c, bt[m]'hmlt = c := ⟨_, rfl⟩
       have hcm : t.getD m 0 = c := by
        rw [← hc]
        have hb := HBT.out
        subst hb
        rw [List.getD_eq_getElem?_getD, List.getElem?_eq_getElem (by omega)]
        rfl
       have hcv : ((c.toNat : Int) != 64) = true := by
        rw [bne_iff_ne]
        intro e
        exact hm64 (by rw [hcm]; exact UInt8.toNat_inj.1 (by show c.toNat = 64; omega))
       have HAT : Hid (atF t t.length = atF t m) := by
        show _ = _
        rw [hat.out, atF, if_neg hm64]
       clear hat hm64 hcm
       rw [e1]
       go_wp2
       exact ⟨⟨m, by omega, rfl, HAT⟩, by simp [intOf]⟩
      ·have HAT : Hid (atF t t.length = n) := by
        show _ = _
        rw [hat.out]
        cases n with
        | zero => rfl
        | succ m =>
         have : t.getD m 0 = 64 := Classical.byContradiction fun q => hgo ⟨m, rfl, q⟩
         rw [atF, if_pos this]
       have HEX : Hid (n = 0 ∨ ∃ (m : Nat) (hm : m < bt.size), n = m + 1 ∧ bt[m]'hm = 64) := by
        cases n with
        | zero => exact Or.inl rfl
        | succ m =>
         have h64 : t.getD m 0 = 64 := Classical.byContradiction fun q => hgo ⟨m, rfl, q⟩
         have hmlt : m < bt.size := by rw [HZT.out]; omega
         refine Or.inr ⟨m, hmlt, rfl, ?_⟩
         rw [← h64]
         have hb := HBT.out
         subst hb
         rw [List.getD_eq_getElem?_getD, List.getElem?_eq_getElem (by omega)]
         rfl
       clear hat hgo
       go_upto_region 15 with fail
       go_cut [54] (fun u54 wx => u54 = .bool false ∧ wx = wc)
       case first =>
        rcases HEX.out with rfl | ⟨m, hm, rfl, h64⟩
        ·go_wp2
         go_meet
         case rel => exact ⟨rfl, rfl⟩
        ·have m0 : (0 : Int) ≤ (m : Int) := by omega
         have m1 : (m : Int) < (bt.size : Int) := by omega
         have e1 : ((m + 1 : Nat) : Int) = (m : Int) + 1 := by omega
         have e2 : IntKind.i64.wrap ((m : Int) + 1 - 1) = (m : Int) := by rw [IntKind.wrap_i64]; omega
         have e3 : (0 : Int) < (m : Int) + 1 := by omega
         rw [e1]
         go_wp2
         go_meet
         case rel => exact ⟨rfl, rfl⟩
       case rest =>
       obtain ⟨rfl, hwc⟩ := hcut
       clear HEX
       subst hwc
       have cA := hS.out.cA
       have fA := hS.out.fA
       by_cases hn2 : n < 2
       ·have hI : (n : Int) < 2 := by omega
        have HRN : Hid (R = none) := by
         show R = none
         cases hRc : R with
         | none => rfl
         | some L =>
          exfalso
          have hg := good_at (HR.out.trans hRc) (j := k) (by rw [HLS.out]; exact hlt)
          rw [HLS.out, HLI.out, HST.out, HAT.out] at hg
          omega
        go_wp2
        refine bodyPost_ret (v := .tuple #[.agg #[.slice none 0 0], .int .i64 31]) (by exact ret14 (World.cell?_setCell_same' _ _ _ (by rw [cA]; rfl)) rfl rfl) (by rfl) ?_
        refine ⟨?_, hS.out.bel.setCell (p := ⟨w.heap.size, 0, none⟩) (Nat.le_refl _) _⟩
        rw [HRN.out]
        exact (rfl : _ = _)
       ·have hI : ¬ (n : Int) < 2 := by omega
        have hnz : n ≤ bt.size := by rw [HZT.out]; exact hnl
        obtain ⟨n2, hn2'⟩ : ∃ n2, n = n2 + 2 := ⟨n - 2, by omega⟩
        have q0 : (0 : Int) ≤ (n2 : Int) := by omega
        have q1 : (n2 : Int) ≤ (bt.size : Int) := by omega
        have q2 : IntKind.i64.wrap ((n : Int) - 2) = (n2 : Int) := by rw [IntKind.wrap_i64]; have := HZT.out; omega
        have q3 : (0 : Int) ≤ (n : Int) := by omega
        have q4 : (n : Int) ≤ (bt.size : Int) := by omega
        have R1 : ∀ wx : World, (Instr.slice 9 (.string bt) none (some (.int .i64 (n2 : Int))) none).run Tryz.prog wx = .ok (.string (bk (t.take n2))) wx := fun wx => by
         have e1 := ext_take bt n2
         rw [← HBT.out, bk_list] at e1
         rw [← e1, HBT.out]
         simp [go_sem, Tryz.underlying9, q0, q1]
        have R2 : ∀ wx : World, (Instr.slice 9 (.string bt) (some (.int .i64 (n : Int))) none none).run Tryz.prog wx = .ok (.string (bk (t.drop n))) wx := fun wx => by
         have e1 := ext_drop bt n bt.size (Nat.le_refl _)
         rw [← HBT.out, bk_list] at e1
         rw [← e1, HBT.out]
         simp [go_sem, Tryz.underlying9, q3, q4]
        have HSM : Hid (∀ w', Below w.heap.size w w' → Calls Tryz.prog 25 #[.string (bk (t.take n2))] w' fun e w'' => (∃ x, e = .returned (.agg (ndV x)) ∧ Hid (SeemR (t.take n2) x)) ∧ Below w'.heap.size w' w'') := fun w' hb => by
         have := seems_any (bk (t.take n2)) w' (HT.out w' hb).1 (HT.out w' hb).2.1 (HT.out w' hb).2.2.1 (by rw [bk_size, List.length_take]; omega)
         rw [bk_list] at this
         exact this
        obtain ⟨v, hv⟩ : ∃ v, numF 0 (t.drop n) = v := ⟨_, rfl⟩
        have HNU : Hid (∀ w' : World, Calls Tryz.prog 26 #[.string (bk (t.drop n))] w' fun e w'' => e = .returned (.int .i64 v) ∧ w' = w'') := fun w' => by
         have := refNumber_any (bk (t.drop n)) w' (by rw [bk_size, List.length_drop]; omega)
         rw [bk_list, hv] at this
         exact this
        have HVR : Hid (v ≤ 9223372036854775807) := by rw [← hv]; exact (numF_rng _ 0 (by omega)).2
        have HROW : Hid (∀ x, SeemR (t.take n2) x → RowR (LS.getD k []) { x with pos := v } dd) := fun x hx => by
         unfold RowR
         rw [HLI.out, HST.out]
         simp only
         rw [HAT.out, hn2', Nat.add_sub_cancel, ← hn2']
         exact ⟨by omega, trivial, x, hx, by rw [hv]⟩
        have HTL : Hid ((t.take n2).length ≤ 4194304) := by show _ ≤ _; rw [List.length_take]; omega
        generalize t.take n2 = body at R1 HSM HROW HTL
        generalize bk body = bb at R1 HSM
        generalize bk (t.drop n) = bv at R2 HNU
        clear hv hn2' HLI HST HAT
        obtain ⟨pn, cn, hnv⟩ := own_slice hS.out.own
        subst hnv
        go_upto_region 21 with (first
         | (go_at_call 25; refine (HSM.out _ hS.out.bel).mono ?_; rintro e w5 ⟨⟨x, rfl, hsr⟩, hb5⟩; obtain ⟨kd, ps, nm, lb, ty, op, it, tx, zz⟩ := x; unfold ndV)
         | (go_at_call 26; refine (HNU.out _).mono ?_; rintro e wq ⟨rfl, hq⟩; subst hq)
         | go_in)
        obtain ⟨w7, hw7⟩ : ∃ w7, w5.alloc (.cells #[.int .i64 kd, .int .i64 v, .string nm, .string lb, .string ty, .int .i64 op, .int .i64 it, .string tx, .int .i64 zz] 42) = w7 := ⟨_, rfl⟩
        have B57 : Below w5.heap.size w5 w7 := by rw [← hw7]; exact (Below.refl _ w5).alloc (Nat.le_refl _) _
        have S7 : Hid (LSt w w7 w.heap.size w1.heap.size (.slice pn k cn) k (acc.map (·.1))) := (hS.out.next hb5).next B57
        have D7 : Hid (w7.ownsRow w1.heap.size 3 1 u5 k (iv (acc.map fun p => ((p.2 : Nat) : Int)))) := own_stays (own_stays hDO.out hb5) B57
        have L7 : Hid (w7.ownsRow w1.heap.size 9 1 (.slice (some ⟨gl, 0, none⟩) LS.length lc) LS.length (sv LS)) := own_stays (own_stays hLO.out hb5) B57
        have hzN : w1.heap.size ≤ w5.heap.size := (hS.out.next hb5).sz
        have n0 : w7.cell? ⟨w5.heap.size, 0, none⟩ = some (.int .i64 kd) := by rw [← hw7]; exact cell_new _ _ _ _ _ rfl
        have n1 : w7.cell? ⟨w5.heap.size, 1, none⟩ = some (.int .i64 v) := by rw [← hw7]; exact cell_new _ _ _ _ _ rfl
        have n2 : w7.cell? ⟨w5.heap.size, 2, none⟩ = some (.string nm) := by rw [← hw7]; exact cell_new _ _ _ _ _ rfl
        have n3 : w7.cell? ⟨w5.heap.size, 3, none⟩ = some (.string lb) := by rw [← hw7]; exact cell_new _ _ _ _ _ rfl
        have n4 : w7.cell? ⟨w5.heap.size, 4, none⟩ = some (.string ty) := by rw [← hw7]; exact cell_new _ _ _ _ _ rfl
        have n5 : w7.cell? ⟨w5.heap.size, 5, none⟩ = some (.int .i64 op) := by rw [← hw7]; exact cell_new _ _ _ _ _ rfl
        have n6 : w7.cell? ⟨w5.heap.size, 6, none⟩ = some (.int .i64 it) := by rw [← hw7]; exact cell_new _ _ _ _ _ rfl
        have n7 : w7.cell? ⟨w5.heap.size, 7, none⟩ = some (.string tx) := by rw [← hw7]; exact cell_new _ _ _ _ _ rfl
        have n8 : w7.cell? ⟨w5.heap.size, 8, none⟩ = some (.int .i64 zz) := by rw [← hw7]; exact cell_new _ _ _ _ _ rfl
        rw [hw7]
        clear hw7 B57 cA fA hS hDO hLO hb5 HNU HSM R1 R2
        have cT := S7.out.cT
        have hz7 := S7.out.sz
        have hml : (acc.map (·.1)).length = k := by rw [List.length_map]; exact HK.out
        have D7d : Hid (w7.ownsRow w1.heap.size 42 9 (.slice pn k cn) k (flat (acc.map (·.1)))) := S7.out.own
        have HB7 : Hid (w.heap.size + 1 < w1.heap.size) := S7.out.hB
        have HST8 : Hid (∀ w8, Below w1.heap.size w7 w8 ∧ Lib.OthersKept 42 none w7 w8 → w8.cell? ⟨w.heap.size + 1, 0, none⟩ = some (.slice pn k cn) ∧ w8.frozen? ⟨w.heap.size + 1, 0, none⟩ = false) := fun w8 hk8 => ⟨(hk8.1.cell (p := ⟨w.heap.size + 1, 0, none⟩) S7.out.hB).trans S7.out.cT, (hk8.1.frozen (p := ⟨w.heap.size + 1, 0, none⟩) S7.out.hB).trans S7.out.fT⟩
        go_upto_region 22 with (first
         | (at_builtin; refine wpList_appN (by rfl) _ _ (by rfl) w1.heap.size (.slice pn k cn) (acc.map (·.1)) k hml ⟨kd, v, nm, lb, ty, op, it, tx, zz⟩ _ (by rfl) (by rfl) (by rfl) D7d (by omega) hz7 ?_; intro v8 w8 ho8 hk8; obtain ⟨cT8, fT8⟩ := HST8.out w8 hk8.out; obtain ⟨p8, c8, hv8⟩ := own_slice ho8.out; subst hv8)
         | go_in)
        obtain ⟨w9, hw9⟩ : ∃ w9, w8.setCell ⟨w.heap.size + 1, 0, none⟩ (.slice p8 (k + 1) c8) = w9 := ⟨_, rfl⟩
        have S9 : Hid (LSt w w9 w.heap.size w1.heap.size (.slice p8 (k + 1) c8) (k + 1) ((acc ++ [((⟨kd, v, nm, lb, ty, op, it, tx, zz⟩ : Nd), dd)]).map (·.1))) := by
         rw [← hw9]
         have hA8 : w.heap.size < w1.heap.size := by have := S7.out.hB; omega
         refine ⟨?_, ?_, World.cell?_setCell_same' _ _ _ (by rw [cT8]; rfl), by rw [World.frozen?_setCell]; exact fT8, ?_, ?_, Nat.le_refl _, S7.out.hB, ?_⟩
         ·rw [World.cell?_setCell_other _ _ _ _ (fun e => by injection e with e; omega)]
          exact (hk8.out.1.cell (p := ⟨w.heap.size, 0, none⟩) hA8).trans S7.out.cA
         ·rw [World.frozen?_setCell]
          exact (hk8.out.1.frozen (p := ⟨w.heap.size, 0, none⟩) hA8).trans S7.out.fA
         ·rw [List.map_append]
          exact ownsRow_setCell_below ho8.out (a := ⟨w.heap.size + 1, 0, none⟩) S7.out.hB _
         ·exact (S7.out.bel.trans (hk8.out.1.mono (by omega))).setCell (p := ⟨w.heap.size + 1, 0, none⟩) (Nat.le_succ _) _
         ·show w1.heap.size ≤ (w8.setCell _ _).heap.size
          rw [size_set]
          exact Nat.le_trans hz7 hk8.out.1.size
        have D9 : Hid (w9.ownsRow w1.heap.size 3 1 u5 k (iv (acc.map fun p => ((p.2 : Nat) : Int)))) := by
         rw [← hw9]
         exact ownsRow_setCell_below (own_other hk8.out.2 D7.out (by decide)) (a := ⟨w.heap.size + 1, 0, none⟩) S7.out.hB _
        have L9 : Hid (w9.ownsRow w1.heap.size 9 1 (.slice (some ⟨gl, 0, none⟩) LS.length lc) LS.length (sv LS)) := by
         rw [← hw9]
         exact ownsRow_setCell_below (own_other hk8.out.2 L7.out (by decide)) (a := ⟨w.heap.size + 1, 0, none⟩) S7.out.hB _
        rw [hw9]
        clear hw9 S7 D7 L7 cT8 fT8 ho8 hk8 cT n0 n1 n2 n3 n4 n5 n6 n7 n8
        have hz9 := S9.out.sz
        have hdl : (acc.map fun p => ((p.2 : Nat) : Int)).length = k := by rw [List.length_map]; exact HK.out
        go_wp2_with (first
         | (at_builtin; refine wpList_appZ (by rfl) _ _ (by rfl) w1.heap.size _ (acc.map fun p => ((p.2 : Nat) : Int)) k hdl ((dd : Nat) : Int) (by rfl) (by rfl) D9 (by omega) hz9 ?_; intro v10 w10 ho10 hk10)
         | go_in)
        have hkl : (acc ++ [((⟨kd, v, nm, lb, ty, op, it, tx, zz⟩ : Nd), dd)]).length = k + 1 := by rw [List.length_append, HK.out]; rfl
        obtain ⟨f1, f2, f3⟩ := seem_fine HTL.out hsr.out
        refine ⟨⟨acc ++ [((⟨kd, v, nm, lb, ty, op, it, tx, zz⟩ : Nd), dd)], .slice p8 (k + 1) c8, by rw [hkl]; omega, by rw [hkl]; go_num, rows_snoc hRR.out (by rw [HK.out]; exact hlt) (by rw [HK.out]; exact HROW.out _ hsr.out), hFA.out.snoc f1 f2 HVR.out, by rw [hkl]; exact S9.out.nums hk10.out.1 hk10.out.2, by rw [hkl, List.map_append]; exact ho10, own_other hk10.out.2 L9.out (by decide)⟩, by simp [intOf]; omega⟩
  ·have hkL : k = LS.length := by omega
   have HKL : Hid (acc.length = (linF t0).length) := by show _ = _; rw [HLS.out, HK.out]; exact hkL
   have HRR : Hid (RowsR (linF t0) acc) := by rw [HLS.out]; exact hRR.out
   have hk4 : k ≤ 4194304 := by omega
   clear hRR hLO hlt hal HLM HLS
   obtain ⟨pn, cn, hnv⟩ := own_slice hS.out.own
   subst hnv
   obtain ⟨qd, cd, hqd⟩ := own_slice hDO.out
   subst hqd
   have hDO' : Hid (wr.ownsRow w1.heap.size 3 1 (.slice qd k cd) k (iv (acc.map fun p => ((p.2 : Nat) : Int)))) := hDO.out
   have S0 : Hid (LSt w wr w.heap.size w1.heap.size (.slice pn k cn) k (midL acc 0)) := by rw [midL_zero]; exact hS.out
   clear hDO hS
   go_upto_region 24 with go_in
   clear hkL
   go_loopw [12] (fun i wq => ∃ m : Nat, m ≤ k ∧ i = .int .i64 (m : Int) ∧ Hid (LSt w wq w.heap.size w1.heap.size (.slice pn k cn) k (midL acc m)) ∧ Hid (wq.ownsRow w1.heap.size 3 1 (.slice qd k cd) k (iv (acc.map fun p => ((p.2 : Nat) : Int))))) (fun i _ => k - (intOf i).toNat)
   case atStart => exact ⟨0, Nat.zero_le _, rfl, S0, hDO'⟩
   case round =>
    clear S0 hDO'
    obtain ⟨m, hm, rfl, hS, hDO⟩ := hrel
    by_cases hlt : m < k
    ·obtain ⟨gd, hgd⟩ : ∃ gd, qd = some ⟨gd, 0, none⟩ := by
      rcases hDO.out.2 with ⟨_, hn⟩ | ⟨g, cap, cur, hv, _⟩
      ·omega
      ·cases hv
       exact ⟨g, rfl⟩
     subst hgd
     obtain ⟨gn, hgn⟩ : ∃ gn, pn = some ⟨gn, 0, none⟩ := by
      rcases hS.out.own.2 with ⟨_, hn⟩ | ⟨g, cap, cur, hv, _⟩
      ·omega
      ·cases hv
       exact ⟨g, rfl⟩
     subst hgn
     have HDC : Hid (∀ wx : World, wx.ownsRow w1.heap.size 3 1 (.slice (some ⟨gd, 0, none⟩) k cd) k (iv (acc.map fun p => ((p.2 : Nat) : Int))) → ∀ j, j < k → wx.cell? ⟨gd, j, none⟩ = some (.int .i64 (((dps acc).getD j 0 : Nat) : Int))) := fun wx h j hj => by
      have hja : j < acc.length := by rw [HK.out]; exact hj
      have := h.cellAt j (by omega)
      rw [this]
      unfold iv dps
      simp [List.getElem?_eq_getElem hja]
     have HDL : Hid ((dps acc).length = k) := by show _ = _; unfold dps; rw [List.length_map]; exact HK.out
     have m0 : (0 : Int) ≤ (m : Int) := by omega
     have m1 : (m : Int) < (k : Int) := by omega
     have m2 : IntKind.i64.wrap ((m : Int) + 1) = (m : Int) + 1 := by rw [IntKind.wrap_i64]; omega
     go_upto_region 27 with go_in
     go_loopw [13] (fun i wq => ∃ q : Nat, m < q ∧ q ≤ k ∧ i = .int .i64 (q : Int) ∧ Hid (∀ j, m < j → j < q → (dps acc).getD m 0 < (dps acc).getD j 0) ∧ Hid (LSt w wq w.heap.size w1.heap.size (.slice (some ⟨gn, 0, none⟩) k cn) k (midL acc m)) ∧ Hid (wq.ownsRow w1.heap.size 3 1 (.slice (some ⟨gd, 0, none⟩) k cd) k (iv (acc.map fun p => ((p.2 : Nat) : Int))))) (fun i _ => k - (intOf i).toNat)
     case atStart => exact ⟨m + 1, by omega, by omega, by go_num, fun j h1 h2 => by omega, hS, hDO⟩
     case round =>
      clear hS hDO
      obtain ⟨q, hq1, hq2, rfl, hj, hS, hDO⟩ := hrel
      have q0 : (0 : Int) ≤ (q : Int) := by omega
      by_cases hgo : q < k ∧ (dps acc).getD m 0 < (dps acc).getD q 0
      ·have q1 : (q : Int) < (k : Int) := by omega
       have c1 := HDC.out _ hDO.out q hgo.1
       have c2 := HDC.out _ hDO.out m hlt
       have HJ : Hid (∀ j, m < j → j < q + 1 → (dps acc).getD m 0 < (dps acc).getD j 0) := fun j h1 h2 => by
        rcases Nat.lt_or_ge j q with h | h
        ·exact hj.out j h1 h
        ·obtain rfl : j = q := by omega
         exact hgo.2
       obtain ⟨dq, hdq⟩ : ∃ dq, (dps acc).getD q 0 = dq := ⟨_, rfl⟩
       obtain ⟨dm, hdm⟩ : ∃ dm, (dps acc).getD m 0 = dm := ⟨_, rfl⟩
       have hdd : (dm : Int) < (dq : Int) := by rw [← hdq, ← hdm]; have := hgo.2; omega
       rw [hdq] at c1
       rw [hdm] at c2
       clear hdq hdm hgo hj
       go_wp2_with fail
       go_quiet (fail)
       have hY := below_dN wr nq
       generalize wr.drewN nq = Y at hY ⊢
       have SY : Hid (LSt w Y w.heap.size w1.heap.size (.slice (some ⟨gn, 0, none⟩) k cn) k (midL acc m)) := hS.out.next hY
       have DY : Hid (Y.ownsRow w1.heap.size 3 1 (.slice (some ⟨gd, 0, none⟩) k cd) k (iv (acc.map fun p => ((p.2 : Nat) : Int)))) := own_stays hDO.out hY
       clear hS hDO c1 c2 hY
       go_wp2
       exact ⟨⟨q + 1, by omega, by omega, by go_num, HJ, SY, DY⟩, by simp [intOf]; omega⟩
      ·have HKP : Hid (kF (dps acc) m = q) := by
        refine KP.kF ⟨hq1, by rw [HDL.out]; exact hq2, hj.out, ?_⟩
        rw [HDL.out]
        by_cases h : q = k
        ·exact Or.inl h
        ·exact Or.inr (Nat.le_of_not_lt fun h2 => hgo ⟨by omega, h2⟩)
       go_upto_region 27 with fail
       go_cut [102] (fun u102 wx => u102 = .bool false ∧ Hid (LSt w wx w.heap.size w1.heap.size (.slice (some ⟨gn, 0, none⟩) k cn) k (midL acc m)) ∧ Hid (wx.ownsRow w1.heap.size 3 1 (.slice (some ⟨gd, 0, none⟩) k cd) k (iv (acc.map fun p => ((p.2 : Nat) : Int)))))
       case first =>
        by_cases hqk : q < k
        ·have q1 : (q : Int) < (k : Int) := by omega
         have c1 := HDC.out _ hDO.out q hqk
         have c2 := HDC.out _ hDO.out m hlt
         obtain ⟨dq, hdq⟩ : ∃ dq, (dps acc).getD q 0 = dq := ⟨_, rfl⟩
         obtain ⟨dm, hdm⟩ : ∃ dm, (dps acc).getD m 0 = dm := ⟨_, rfl⟩
         have hdd : ¬ (dm : Int) < (dq : Int) := by rw [← hdq, ← hdm]; intro h; exact hgo ⟨hqk, by omega⟩
         have HDD : Hid (decide (dm < dq) = false) := by show _ = _; rw [decide_eq_false_iff_not]; omega
         rw [hdq] at c1
         rw [hdm] at c2
         clear hdq hdm hgo hj
         go_wp2_with fail
         go_quiet (fail)
         have hY := below_dN wr nq
         generalize wr.drewN nq = Y at hY ⊢
         have SY : Hid (LSt w Y w.heap.size w1.heap.size (.slice (some ⟨gn, 0, none⟩) k cn) k (midL acc m)) := hS.out.next hY
         have DY : Hid (Y.ownsRow w1.heap.size 3 1 (.slice (some ⟨gd, 0, none⟩) k cd) k (iv (acc.map fun p => ((p.2 : Nat) : Int)))) := own_stays hDO.out hY
         go_wp2
         go_meet
         case rel => exact ⟨by rw [HDD.out], SY, DY⟩
        ·have q1 : ¬ (q : Int) < (k : Int) := by omega
         have q2 : decide ((q : Int) < (k : Int)) = false := by simpa using q1
         clear hgo hj
         go_wp2_with fail
         go_quiet (fail)
         have hY := below_dN wr nq
         generalize wr.drewN nq = Y at hY ⊢
         have SY : Hid (LSt w Y w.heap.size w1.heap.size (.slice (some ⟨gn, 0, none⟩) k cn) k (midL acc m)) := hS.out.next hY
         have DY : Hid (Y.ownsRow w1.heap.size 3 1 (.slice (some ⟨gd, 0, none⟩) k cd) k (iv (acc.map fun p => ((p.2 : Nat) : Int)))) := own_stays hDO.out hY
         go_wp2
         go_meet
         case rel => exact ⟨rfl, SY, DY⟩
       case rest =>
       clear hS hDO hj hgo
       obtain ⟨rfl, hS, hDO⟩ := hcut
       have hml : (midL acc m).length = k := by rw [midL_len]; exact HK.out
       have cT := hS.out.cT
       have c2 : ∃ v0, wc.cell? ⟨gn, m * 9 + 8, none⟩ = some v0 := by
        have := hS.out.own.cellAt (m * 9 + 8) (by omega)
        rw [flat_at _ m 8 (by omega) (by omega)] at this
        exact ⟨_, this.trans rfl⟩
       obtain ⟨v0, c2⟩ := c2
       have fz : wc.frozen? ⟨gn, m * 9 + 8, none⟩ = false := by
        have hth := (lay_of_own (L := midL acc m) (by rw [hml]; exact hS.out.own)).2.2
        have := (hth (m * 9 + 8) (by omega)).2
        simpa using this
       have hwr : IntKind.i64.wrap ((q : Int) - (m : Int)) = (q : Int) - (m : Int) := by rw [IntKind.wrap_i64]; omega
       have SZ : Hid (LSt w (wc.setCell ⟨gn, m * 9 + 8, none⟩ (.int .i64 ((q : Int) - (m : Int)))) w.heap.size w1.heap.size (.slice (some ⟨gn, 0, none⟩) k cn) k (midL acc (m + 1))) := by
        rw [midL_step, HKP.out]
        exact hS.out.size hml hlt _
       have DZ : Hid ((wc.setCell ⟨gn, m * 9 + 8, none⟩ (.int .i64 ((q : Int) - (m : Int)))).ownsRow w1.heap.size 3 1 (.slice (some ⟨gd, 0, none⟩) k cd) k (iv (acc.map fun p => ((p.2 : Nat) : Int)))) := by
        refine ownsRow_setCell_other hDO.out (a := ⟨gn, m * 9 + 8, none⟩) ?_ _
        have := rows_apart hS.out.own hDO.out
        intro e
        injection e with e
        exact this e
       clear hS hDO hml
       go_wp2
       exact ⟨⟨m + 1, by omega, by go_num, SZ, DZ⟩, by simp [intOf]; omega⟩
    ·obtain rfl : m = k := by omega
     have hmi : ¬ ((m : Int) < (m : Int)) := by omega
     have S3 : Hid (LSt w wr w.heap.size w1.heap.size (.slice pn m cn) m (refL acc)) := by
      have := hS.out
      rw [← HK.out, midL_all, HK.out] at this
      exact this
     have hrl : (refL acc).length = m := by rw [refL_len]; exact HK.out
     have hBe := S3.out.bel
     obtain ⟨T1, T2, T3, T4, T5⟩ := HT.out _ hBe
     obtain ⟨r1, r2⟩ := refL_rng hFA.out
     have RD : Reads wr pn m (refL acc) := by
      have := S3.out.own
      rw [← hrl] at this ⊢
      exact reads_own this (refL_fine hFA.out (by rw [HK.out]; exact hk4))
     obtain ⟨d1, d2, hD⟩ : ∃ d1 d2, dumpS (refL acc) = (d1, d2) := ⟨_, _, rfl⟩
     have HDU : Hid (Calls Tryz.prog 12 #[.agg #[.slice pn m cn]] wr fun e w' => e = .returned (.tuple #[.string (bk d1), .int .i64 d2]) ∧ Below wr.heap.size wr w') := by
      have := rdump_any wr pn m cn (refL acc) RD T5 T4 r1 r2 T3
      rw [hD] at this
      exact this
     have HYES : Hid (d1 = t0 → d2 = 0 → R = some (refL acc)) := fun e1 e2 => HR.out.symm.trans (ref_yes hFA.out (by rw [hD, e1, e2]))
     have HNO : Hid (¬ (d1 = t0 ∧ d2 = 0) → R = none) := fun hne => HR.out.symm.trans (ref_no HKL.out HRR.out (by rw [hD]; intro e; injection e with e1 e2; exact hne ⟨e1, e2⟩))
     clear hD RD r1 r2 T1 T2 T3 T4 T5 hBe hS hDO
     have cT := S3.out.cT
     go_upto_region 31 with (first
      | (go_at_call 12; refine HDU.out.mono ?_; rintro e w6 ⟨rfl, hb6⟩)
      | go_in)
     have S6 : Hid (LSt w w6 w.heap.size w1.heap.size (.slice pn m cn) m (refL acc)) := S3.out.next hb6
     clear S3 cT HDU hb6
     have cA := S6.out.cA
     have fA := S6.out.fA
     have cT := S6.out.cT
     have HA : Hid (w.heap.size < w1.heap.size) := by show _ < _; have := S6.out.hB; omega
     obtain ⟨bd, hbd⟩ : ∃ bd, bk d1 = bd := ⟨_, rfl⟩
     have HBD : Hid (bd = s ↔ d1 = t0) := by
      show _ ↔ _
      rw [← hbd, ← HL.out]
      constructor
      ·intro e
       rw [← e, bk_list]
      ·intro e
       rw [e]
       rfl
     rw [hbd]
     clear hbd
     by_cases hyes : bd = s ∧ d2 = 0
     ·obtain ⟨h1', h2'⟩ := hyes
      have HRS : Hid (R = some (refL acc)) := HYES.out (HBD.out.1 h1') h2'
      clear HBD HYES HNO
      subst h2'
      subst h1'
      go_wp2
      refine bodyPost_ret (v := .tuple #[.agg #[.slice pn m cn], .int .i64 0]) (by exact ret14 (World.cell?_setCell_same' _ _ _ (by rw [cA]; rfl)) rfl rfl) (by rfl) ?_
      refine ⟨?_, S6.out.bel.setCell (p := ⟨w.heap.size, 0, none⟩) (Nat.le_refl _) _⟩
      rw [HRS.out]
      refine ⟨_, rfl, own_base (b := w1.heap.size) ?_ (Nat.le_of_lt HA.out)⟩
      rw [hrl]
      exact ownsRow_setCell_below S6.out.own (a := ⟨w.heap.size, 0, none⟩) HA.out _
     ·have HRN : Hid (R = none) := HNO.out fun h => hyes ⟨HBD.out.2 h.1, h.2⟩
      clear HBD HYES HNO
      by_cases hd2 : d2 = 0
      ·have hns : ¬ bd = s := fun h => hyes ⟨h, hd2⟩
       subst hd2
       have hns2 : (bd.toList == s.toList) = false := by
        rw [toL, toL, beq_eq_false_iff_ne]
        intro e
        exact hns (ByteArray.ext (Array.toList_inj.1 e))
       clear hyes
       go_wp2
       refine bodyPost_ret (v := .tuple #[.agg #[.slice none 0 0], .int .i64 31]) (by exact ret14 (World.cell?_setCell_same' _ _ _ (by rw [cA]; rfl)) rfl rfl) (by rfl) ?_
       refine ⟨?_, S6.out.bel.setCell (p := ⟨w.heap.size, 0, none⟩) (Nat.le_refl _) _⟩
       rw [HRN.out]
       exact (rfl : _ = _)
      ·clear hyes
       have hd3 : (d2 == 0) = false := by rw [beq_eq_false_iff_ne]; exact hd2
       go_wp2
       refine bodyPost_ret (v := .tuple #[.agg #[.slice none 0 0], .int .i64 31]) (by exact ret14 (World.cell?_setCell_same' _ _ _ (by rw [cA]; rfl)) rfl rfl) (by rfl) ?_
       refine ⟨?_, S6.out.bel.setCell (p := ⟨w.heap.size, 0, none⟩) (Nat.le_refl _) _⟩
       rw [HRN.out]
       exact (rfl : _ = _)
theorem run_dup (w : World) (p : Option Addr) (n cap : Nat) (S : List Nd) (h : Reads w p n S) (hp : p = none → n = 0 ∧ cap = 0) :
 ∃ p' cap' w', (Builtin.append_ #[22, 22] 22 #[.slice none 0 0, .slice p n cap]).run Tryz.prog w = .ok (.slice p' n cap') w' ∧ Twn w w' S p' ∧ Below w.heap.size w w' := by
 obtain ⟨hf, rfl, hr⟩ := h
 have hL := hf.len
 cases p with
 | none =>
  obtain ⟨h0, rfl⟩ := hp rfl
  have hS : S = [] := List.length_eq_zero_iff.1 h0
  subst hS
  exact ⟨none, 0, w, by kernel_rfl, fun hne => absurd rfl hne, Below.refl _ _⟩
 | some a =>
  have hs : ∀ (j : Nat) (v : Value), (flat S)[j]? = some v → w.cell? (a.add j) = some v := by
   by_cases hne : S = []
   ·subst hne
    intro j v hv
    simp [flat] at hv
   ·obtain ⟨g, o, e, hl⟩ := hr hne
    cases e
    exact fun j v hv => (flat_src hl j v hv).1
  obtain ⟨i0, hi, hz0, hz1, hz2⟩ := info_parts info36
  obtain ⟨v', w2, hrun, h2, h3, _⟩ := run_append_own (P := Tryz.prog) w w.heap.size 22 22 42 i0 _ 9 104 Tryz.underlying22 hi hz0 hz1 hz2 rfl (by decide) (.slice none 0 0) 0 [] (World.ownsRow_nil _ _ _ _) a S.length cap (flat S) (flat_len S)
   hs (flat_one S) (by unfold maxLen; omega) (by omega) (Nat.le_refl _)
  rw [Nat.zero_add, List.nil_append] at h2
  have hb : Below w.heap.size w w2 := (Below.refl _ w).grown h3 (Nat.le_refl _) (own_ge (World.ownsRow_nil w w.heap.size 42 9))
  rcases h2.2 with ⟨rfl, h0⟩ | ⟨g, c, cur, rfl, _⟩
  ·have hS : S = [] := List.length_eq_zero_iff.1 h0
   subst hS
   exact ⟨none, 0, w2, hrun, fun hne => absurd rfl hne, hb⟩
  ·have hF := lay_of_own h2
   exact ⟨_, _, w2, hrun, fun _ => ⟨g, rfl, hF.1, hF.2.1, hF.2.2⟩, hb⟩
theorem reads_nil (w : World) (p : Option Addr) : Reads w p 0 [] := ⟨⟨by simp, fun i hi => by simp at hi⟩, rfl, fun h => absurd rfl h⟩
def TwA (w : World) (b0 : Nat) (p : Option Addr) (n : Nat) (L : List Nd) (pa : Option Addr) (ca : Nat) : Prop :=
 (p = none ∧ L = [] ∧ n = 0 ∧ pa = none ∧ ca = 0) ∨ ∃ B, p ≠ none ∧ pa = some ⟨B, 0, none⟩ ∧ ca = n + 2 ∧ b0 ≤ B ∧ B < w.heap.size ∧ Lay w B 0 (marked L) ∧ w.there B 0 ((L.length + 2) * 9)
theorem TwA.on {w w' : World} {b0 b : Nat} {p pa : Option Addr} {n ca : Nat} {L : List Nd} (h : TwA w b0 p n L pa ca) (hb : Below b w w') (hlt : w.heap.size ≤ b ∨ ∀ B, pa = some ⟨B, 0, none⟩ → B < b) : TwA w' b0 p n L pa ca := by
 rcases h with h | ⟨B, h1, h2, h3, h4, h5, h6, h7⟩
 ·exact .inl h
 ·have hB : B < b := hlt.elim (fun h => by omega) (fun h => h B h2)
  refine .inr ⟨B, h1, h2, h3, h4, Nat.lt_of_lt_of_le h5 hb.size, h6.below hb hB hb.size, fun j hj => ⟨?_, ?_⟩⟩
  ·rw [hb.cell (p := ⟨B, 0 + j, none⟩) hB]; exact (h7 j hj).1
  ·rw [hb.frozen (p := ⟨B, 0 + j, none⟩) hB]; exact (h7 j hj).2
theorem TwA.reads {w : World} {b0 : Nat} {p pa : Option Addr} {n ca : Nat} {L : List Nd} (h : TwA w b0 p n L pa ca) (hf : Fine L) (hn : L.length = n) : Reads w pa n L := by
 rcases h with ⟨_, rfl, rfl, rfl, _⟩ | ⟨B, h1, rfl, h3, h4, h5, h6, h7⟩
 ·exact reads_nil w none
 ·exact ⟨hf, hn, fun _ => ⟨B, 0, rfl, lay_marked h6⟩⟩
theorem TwA.lt {w : World} {b0 : Nat} {p pa : Option Addr} {n ca : Nat} {L : List Nd} (h : TwA w b0 p n L pa ca) : ∀ B, pa = some ⟨B, 0, none⟩ → B < w.heap.size := by
 intro B hB
 rcases h with ⟨_, _, _, h4, _⟩ | ⟨B', h1, h2, h3, h4, h5, h6, h7⟩
 ·rw [h4] at hB; cases hB
 ·rw [h2] at hB; cases hB; exact h5
theorem twinA_any (w : World) (p : Option Addr) (n cap : Nat) (L : List Nd) (h : Arg w p n cap L) :
 Calls Tryz.prog 7 #[.agg #[.slice p n cap]] w fun e w' => (∃ pa ca, e = .returned (.agg #[.slice pa n ca]) ∧ Hid (TwA w' w.heap.size p n L pa ca)) ∧ Below w.heap.size w w' := by
 refine (twinM_any w p n cap L h).mono ?_
 rintro e w' ⟨hc, hb⟩
 rcases hc with ⟨hp, hL, rfl⟩ | ⟨B, hp, rfl, ht⟩
 ·have hn := (h.nil hp).1
  subst hn
  exact ⟨⟨none, 0, rfl, .inl ⟨hp, hL, rfl, rfl, rfl⟩⟩, hb⟩
 ·exact ⟨⟨_, _, rfl, .inr ⟨B, hp, rfl, rfl, ht.out.new, ht.out.lay.lt, ht.out.lay, ht.out.there⟩⟩, hb⟩
theorem untA_any (w : World) (b0 : Nat) (p pa : Option Addr) (n cap ca : Nat) (L : List Nd) (h : TwA w b0 p n L pa ca) (ha : Arg w p n cap L) :
 Calls Tryz.prog 13 #[.agg #[.slice pa n ca], .agg #[.slice p n cap]] w fun e w' => e = .returned (.bool true) ∧ Below w.heap.size w w' := by
 rcases h with ⟨rfl, rfl, rfl, rfl, rfl⟩ | ⟨B, h1, rfl, rfl, h4, h5, h6, h7⟩
 ·obtain ⟨_, rfl⟩ := ha.nil rfl
  exact untouched_nil w
 ·cases p with
  | none => exact absurd rfl h1
  | some a => exact untouched_some w B a n cap L h6 ha.reads
structure NRowZ (w w' : World) (P : Option Addr) (c : Nat) (S : List Nd) : Prop where
 own : w'.ownsRow w.heap.size 42 9 (.slice P S.length c) S.length (flat S)
 nil : S.length = 0 → P = none ∧ c = 0
theorem NRowZ.next {w w' w'' : World} {P : Option Addr} {c : Nat} {S : List Nd} (h : NRowZ w w' P c S) (hb : Below w'.heap.size w' w'') : NRowZ w w'' P c S := ⟨own_stays h.own hb, h.nil⟩
theorem NRowZ.reads {w w' : World} {P : Option Addr} {c : Nat} {S : List Nd} (h : NRowZ w w' P c S) (hf : Fine S) : Reads w' P S.length S := by
 refine ⟨hf, rfl, fun hne => ?_⟩
 rcases h.own.2 with ⟨_, h0⟩ | ⟨g, cap, cur, hv, _⟩
 ·exact absurd (List.length_eq_zero_iff.1 h0) hne
 ·cases hv
  exact ⟨g, 0, rfl, (lay_of_own h.own).2.1⟩
theorem apart3 (w : World) (base O : Nat) (s t : Nat → Nat) (V : Nat → Value) (K : Nat → List Nd) (hO : w.heap[O]? = some (.cells #[V 0, V 1, V 2] 22 (0, 0))) (hb : ∀ k, k < 3 → base ≤ s k)
 (hown : ∀ k, k < 3 → w.ownsRow (s k) 42 9 (V k) (K k).length (flat (K k))) (hlt : ∀ k, k < 3 → ∀ g, (V k).ownBlock = some g → g < t k) (hst : ∀ a b, a < b → b < 3 → t a ≤ s b) (hz : ∀ k, k < 3 → (K k).length = 0 → V k = .slice none 0 0) (hl : ∀ k, k < 3 → (K k).length ≤ 1353245080300) (hbase : base ≤ w.heap.size) :
 Calls Tryz.prog 15 #[.slice (some ⟨O, 0, none⟩) 3 3] w fun e w' => e = .returned (.bool true) ∧ Below base w w' := by
 refine ApN.apart_walk w base O 3 V (fun k => (K k).length) (fun k => flat (K k)) (by omega) ⟨⟨_, hO, fun k hk => ?_⟩, fun k hk => own_base (hown k hk) (hb k hk)⟩ (fun k hk => flat_len _) hz ?_ hl hbase
 ·match k, hk with
  | 0, _ => rfl
  | 1, _ => rfl
  | 2, _ => rfl
 ·intro a b ha hb' hne
  cases e : (V a).ownBlock with
  | none => exact .inl rfl
  | some g =>
   right
   intro e2
   have g1 := ((hown a ha).lt g e).1
   have g2 := hlt a ha g e
   have g3 := ((hown b hb').lt g e2.symm).1
   have g4 := hlt b hb' g e2.symm
   rcases Nat.lt_or_ge a b with h | h
   ·have := hst a b h hb'; omega
   ·have := hst b a (by omega) ha; omega
theorem read_big {t : List UInt8} (h : 4194304 < t.length) : readS t = none := by unfold readS; rw [if_pos h]
theorem read_ne {t : List UInt8} : readS t ≠ some [] := fun h => by
 have := (read_sound h).1
 exact absurd this (by decide)
noncomputable def rdL (t : List UInt8) : List Nd := (readS t).getD []
noncomputable def rdE (t : List UInt8) : Int := if (readS t).isSome then 0 else 31
theorem rdL_fine (t : List UInt8) : Fine (rdL t) := by
 unfold rdL
 cases h : readS t with
 | none => exact ⟨by simp, fun i hi => by simp at hi⟩
 | some L => exact read_fine h
theorem post_row {w w' : World} {t : List UInt8} {e : Ending} (h : LoadPost w.heap.size (readS t) e w') : ∃ p c, e = .returned (.tuple #[.agg #[.slice p (rdL t).length c], .int .i64 (rdE t)]) ∧ Hid (NRowZ w w' p c (rdL t)) := by
 unfold rdL rdE
 have hne := read_ne (t := t)
 cases hR : readS t with
 | none =>
  rw [hR] at h
  exact ⟨none, 0, h, ⟨World.ownsRow_nil _ _ _ _, fun _ => ⟨rfl, rfl⟩⟩⟩
 | some L =>
  rw [hR] at h hne
  obtain ⟨v, rfl, ho⟩ := h
  obtain ⟨p, c, rfl⟩ := own_slice ho
  refine ⟨p, c, rfl, ⟨ho, fun h0 => ?_⟩⟩
  exact absurd (congrArg some (List.length_eq_zero_iff.1 h0)) hne
theorem loadK (s : ByteArray) (w : World) (q : Addr) (h : RTab w 169 (.pointer (some q))) (hk : KwAt w) (m : Int) (hm : w.cell? ⟨4, 0, none⟩ = some (.int .i64 m)) :
 Calls Tryz.prog 9 #[.string s] w fun e w' => (∃ p c, e = .returned (.tuple #[.agg #[.slice p (rdL s.data.toList).length c], .int .i64 (rdE s.data.toList)]) ∧ Hid (NRowZ w w' p c (rdL s.data.toList))) ∧ Below w.heap.size w w' := by
 refine (load_any s w q h hk m hm).mono ?_
 rintro e w' ⟨he, hb⟩
 exact ⟨post_row he.out, hb⟩
theorem refK (s : ByteArray) (w : World) (T : TypeId) (p : Value) (hT : RTab w T p) (hk : RKw w) (hX : Lx.RTabs w) :
 Calls Tryz.prog 14 #[.string s] w fun e w' => (∃ p c, e = .returned (.tuple #[.agg #[.slice p (rdL s.data.toList).length c], .int .i64 (rdE s.data.toList)]) ∧ Hid (NRowZ w w' p c (rdL s.data.toList))) ∧ Below w.heap.size w w' := by
 by_cases hs : s.size ≤ 4194304
 ·refine (refLoad_any s w T p hT hk hX hs).mono ?_
  rintro e w' ⟨he, hb⟩
  exact ⟨post_row he.out, hb⟩
 ·refine (refLoad_big s w (by omega)).mono ?_
  rintro e w' ⟨rfl, hb⟩
  refine ⟨post_row ?_, hb⟩
  rw [read_big (by have := Lib.size_eq s; omega)]
  exact (rfl : _ = _)
def oneT : ByteArray := ⟨#[105, 110, 116, 32, 53, 32, 64, 48, 10]⟩
theorem dmp_one : dmp [oneNd] 1 = oneT.data.toList := by kernel_rfl
theorem read_one : readS oneT.data.toList = some [oneNd] := by
 have := read_ok one_tree (tr_of one_tree) (fun n hn => by obtain rfl : n = 0 := by simpa using hn
                                                           decide) (fun n hn => by obtain rfl : n = 0 := by simpa using hn
                                                                                   decide) (by rw [show ([oneNd] : List Nd).length = 1 from rfl, dmp_one]; decide)
 rw [show ([oneNd] : List Nd).length = 1 from rfl, dmp_one] at this
 exact this
theorem rd_one : rdL oneT.data.toList = [oneNd] ∧ rdE oneT.data.toList = 0 := by
 unfold rdL rdE
 rw [read_one]
 exact ⟨rfl, rfl⟩
theorem fld24 (p : Option Addr) (n c : Nat) : ∀ w : World, (Instr.field 24 (.agg #[.slice p n c]) 0).run Tryz.prog w = .ok (.slice p n c) w := fun w => by kernel_rfl
theorem treeDumps_any (W : World) (p : Option Addr) (n cap : Nat) (L : List Nd) (q : Option Addr) (m cap2 : Nat) (N : Int) (Tx : ByteArray) (hA : Arg W p n cap L) (qa : Addr) (hT : RTab W 169 (.pointer (some qa))) (hk : KwAt W) (hkR : RKw W) (hX : Lx.RTabs W) (mx : Int) (hm : W.cell? ⟨4, 0, none⟩ = some (.int .i64 mx)) (hr : Rng L) (hp : RngP L) :
 Calls Tryz.prog 4 #[.agg #[.slice p n cap, .slice q m cap2, .int .i64 N, .string Tx]] W fun e W' => e = .returned (.bool true) ∧ Below W.heap.size W W' := by
 have h15 := hT.size
 obtain ⟨W1, hW1⟩ : ∃ W1, W.alloc (.cells #[.slice p n cap, .slice q m cap2, .int .i64 N, .string Tx] 26) = W1 := ⟨_, rfl⟩
 have B1 : Hid (Below W.heap.size W W1) := by rw [← hW1]; exact (Below.refl _ W).alloc (Nat.le_refl _) _
 have z1 : W1.heap.size = W.heap.size + 1 := by rw [← hW1]; simp
 have HC : Hid (∀ (w' : World) (j : Nat) (v : Value), Below W1.heap.size W1 w' → (#[.slice p n cap, .slice q m cap2, .int .i64 N, .string Tx] : Array Value)[j]? = some v → w'.cell? ⟨W.heap.size, j, none⟩ = some v) := fun w' j v hb hv => by
  rw [hb.cell (p := ⟨W.heap.size, j, none⟩) (by show W.heap.size < _; omega), ← hW1]; exact cell_new _ _ _ _ _ hv
 have HBW : Hid (∀ w', Below W1.heap.size W1 w' → Below W.heap.size W w') := fun w' hb => B1.out.trans (hb.mono B1.out.size)
 have HX : Hid (∀ w', Below W1.heap.size W1 w' → Arg w' p n cap L ∧ RTab w' 169 (.pointer (some qa)) ∧ KwAt w' ∧ w'.cell? ⟨4, 0, none⟩ = some (.int .i64 mx) ∧ RKw w' ∧ Lx.RTabs w') := fun w' hb =>
  ⟨(hA.next B1.out).next hb, (hT.next B1.out).next hb, (hk.next B1.out).next hb, ((HBW.out w' hb).cell (p := ⟨4, 0, none⟩) (by show 4 < W.heap.size; omega)).trans hm, fun j hj => ((HBW.out w' hb).cell (p := ⟨5, j, none⟩) (by show 5 < W.heap.size; omega)).trans (hkR j hj), hX.below (HBW.out w' hb) (by omega)⟩
 have HFA : Hid (Fine L ∧ L.length = n) := ⟨hA.reads.1, hA.reads.2.1⟩
 have HRG : Hid (Rng L ∧ RngP L) := ⟨hr, hp⟩
 have H5A : Hid (∀ w', Below W1.heap.size W1 w' → Calls Tryz.prog 5 #[.agg #[.slice p n cap]] w' fun e w'' => AnyB e ∧ Below w'.heap.size w' w'') := fun w' hb => deep_any w' p n cap L (HX.out w' hb).1.reads
 have H7A : Hid (∀ w', Below W1.heap.size W1 w' → Calls Tryz.prog 7 #[.agg #[.slice p n cap]] w' fun e w'' => (∃ pa ca, e = .returned (.agg #[.slice pa n ca]) ∧ Hid (TwA w'' w'.heap.size p n L pa ca)) ∧ Below w'.heap.size w' w'') := fun w' hb => twinA_any w' p n cap L (HX.out w' hb).1
 have HD6 : Hid (∀ (M : List Nd) w' pa k ca, Below W1.heap.size W1 w' → Reads w' pa k M → Rng M → RngP M → Calls Tryz.prog 6 #[.agg #[.slice pa k ca]] w' fun e w'' => e = .returned (.tuple #[.string (bk (dumpS M).1), .int .i64 (dumpS M).2]) ∧ Below w'.heap.size w' w'') := fun M w' pa k ca hb hrd h1 h2 =>
  dump_any w' pa k ca M hrd (HX.out w' hb).2.2.1 (HX.out w' hb).2.1.d h1 h2 (HX.out w' hb).2.1.size
 have HD12 : Hid (∀ (M : List Nd) w' pa k ca, Below W1.heap.size W1 w' → Reads w' pa k M → Rng M → RngP M → Calls Tryz.prog 12 #[.agg #[.slice pa k ca]] w' fun e w'' => e = .returned (.tuple #[.string (bk (dumpS M).1), .int .i64 (dumpS M).2]) ∧ Below w'.heap.size w' w'') := fun M w' pa k ca hb hrd h1 h2 =>
  rdump_any w' pa k ca M hrd (HX.out w' hb).2.2.2.2.1 (HX.out w' hb).2.1.d h1 h2 (HX.out w' hb).2.1.size
 obtain ⟨K, hK⟩ : ∃ K, rdL Tx.data.toList = K := ⟨_, rfl⟩
 obtain ⟨E, hE⟩ : ∃ E, rdE Tx.data.toList = E := ⟨_, rfl⟩
 have HFK : Hid (Fine K) := by rw [← hK]; exact rdL_fine _
 have HL9 : Hid (∀ w', Below W1.heap.size W1 w' → Calls Tryz.prog 9 #[.string Tx] w' fun e w'' => (∃ p c, e = .returned (.tuple #[.agg #[.slice p K.length c], .int .i64 E]) ∧ Hid (NRowZ w' w'' p c K)) ∧ Below w'.heap.size w' w'') := fun w' hb => by
  have := loadK Tx w' qa (HX.out w' hb).2.1 (HX.out w' hb).2.2.1 mx (HX.out w' hb).2.2.2.1
  rw [hK, hE] at this
  exact this
 have HL14 : Hid (∀ w', Below W1.heap.size W1 w' → Calls Tryz.prog 14 #[.string Tx] w' fun e w'' => (∃ p c, e = .returned (.tuple #[.agg #[.slice p K.length c], .int .i64 E]) ∧ Hid (NRowZ w' w'' p c K)) ∧ Below w'.heap.size w' w'') := fun w' hb => by
  have := refK Tx w' _ _ (HX.out w' hb).2.1 (HX.out w' hb).2.2.2.2.1 (HX.out w' hb).2.2.2.2.2
  rw [hK, hE] at this
  exact this
 have HLo : Hid (∀ w', Below W1.heap.size W1 w' → Calls Tryz.prog 9 #[.string ⟨#[105, 110, 116, 32, 53, 32, 64, 48, 10]⟩] w' fun e w'' => (∃ p c, e = .returned (.tuple #[.agg #[.slice p 1 c], .int .i64 0]) ∧ Hid (NRowZ w' w'' p c [oneNd])) ∧ Below w'.heap.size w' w'') := fun w' hb => by
  have := loadK oneT w' qa (HX.out w' hb).2.1 (HX.out w' hb).2.2.1 mx (HX.out w' hb).2.2.2.1
  rw [rd_one.1, rd_one.2] at this
  exact this
 have HS10 : Hid (∀ (M : List Nd) w' p1 c1 p2 c2 k, Reads w' p1 k M → Reads w' p2 k M → Calls Tryz.prog 10 #[.slice p1 k c1, .slice p2 k c2] w' fun e w'' => e = .returned (.bool true) ∧ Below w'.heap.size w' w'') := fun M w' p1 c1 p2 c2 k h1 h2 => by
  refine (sameG_any w' p1 p2 k k c1 c2 M M h1 h2).mono ?_
  rintro e w'' ⟨⟨b, rfl, hbb⟩, hb2⟩
  rw [hbb.2 rfl]
  exact ⟨rfl, hb2⟩
 clear hA hT hk hkR hX hm hr hp hK hE
 go_enter Tryz.func4, Tryz.ntmps4
 go_upto_region 1 with go_in
 clear hW1
 have e0 := HC.out W1 0 (.slice p n cap) (Below.refl _ _) rfl
 go_upto_region 3 with (first
  | (go_at_call 5; refine (H5A.out W1 (Below.refl _ _)).mono ?_; rintro e w2 ⟨⟨da, rfl⟩, hc2⟩)
  | go_in)
 all_goals try (go_ret; exact ⟨rfl, HBW.out _ hc2⟩)
 clear e0 H5A
 have e0 := HC.out w2 0 (.slice p n cap) hc2 rfl
 go_upto_region 4 with (first
  | (go_at_call 7; refine (H7A.out w2 hc2).mono ?_; rintro e w3 ⟨⟨pa, ca, rfl, ta3⟩, hb3⟩)
  | go_in)
 obtain ⟨w4, hw4⟩ : ∃ w4, w3.alloc (.cells #[.slice pa n ca] 24) = w4 := ⟨_, rfl⟩
 have b34 : Below w3.heap.size w3 w4 := by rw [← hw4]; exact (Below.refl _ w3).alloc (Nat.le_refl _) _
 have hc3 : Below W1.heap.size W1 w3 := hc2.trans (hb3.mono hc2.size)
 have hc4 : Below W1.heap.size W1 w4 := hc3.trans (b34.mono hc3.size)
 have g4 : w4.cell? ⟨w3.heap.size, 0, none⟩ = some (.slice pa n ca) := by rw [← hw4]; exact cell_new _ _ _ _ _ rfl
 have z4 : w4.heap.size = w3.heap.size + 1 := by rw [← hw4]; simp
 have ta4 : Hid (TwA w4 W1.heap.size p n L pa ca) := by
  have h := ta3.out.on b34 (.inl (Nat.le_refl _))
  have := hc2.size
  rcases h with h | ⟨B, h1, h2, h3, h4, h5⟩
  ·exact .inl h
  ·exact .inr ⟨B, h1, h2, h3, by omega, h5⟩
 have HPA : Hid (∀ B, pa = some ⟨B, 0, none⟩ → B < w3.heap.size) := ta3.out.lt
 have HG : Hid (∀ w', Below w4.heap.size w4 w' → w'.cell? ⟨w3.heap.size, 0, none⟩ = some (.slice pa n ca) ∧ TwA w' W1.heap.size p n L pa ca ∧ Below W1.heap.size W1 w') := fun w' hb => ⟨(hb.cell (p := ⟨w3.heap.size, 0, none⟩) (by show w3.heap.size < _; omega)).trans g4, ta4.out.on hb (.inl (Nat.le_refl _)), hc4.trans (hb.mono hc4.size)⟩
 obtain ⟨s1, hs1⟩ : ∃ s1, bk (dumpS L).1 = s1 := ⟨_, rfl⟩
 obtain ⟨e1, he1⟩ : ∃ e1, (dumpS L).2 = e1 := ⟨_, rfl⟩
 have H6A : Hid (∀ w', Below w4.heap.size w4 w' → Calls Tryz.prog 6 #[.agg #[.slice pa n ca]] w' fun e w'' => e = .returned (.tuple #[.string s1, .int .i64 e1]) ∧ Below w'.heap.size w' w'') := fun w' hb => by
  have := HD6.out L w' pa n ca (HG.out w' hb).2.2 ((HG.out w' hb).2.1.reads HFA.out.1 HFA.out.2) HRG.out.1 HRG.out.2
  rw [hs1, he1] at this
  exact this
 have H12A : Hid (∀ w', Below w4.heap.size w4 w' → Calls Tryz.prog 12 #[.agg #[.slice p n cap]] w' fun e w'' => e = .returned (.tuple #[.string s1, .int .i64 e1]) ∧ Below w'.heap.size w' w'') := fun w' hb => by
  have := HD12.out L w' p n cap (HG.out w' hb).2.2 (HX.out w' (HG.out w' hb).2.2).1.reads HRG.out.1 HRG.out.2
  rw [hs1, he1] at this
  exact this
 have H13A : Hid (∀ w', Below w4.heap.size w4 w' → Calls Tryz.prog 13 #[.agg #[.slice pa n ca], .agg #[.slice p n cap]] w' fun e w'' => e = .returned (.bool true) ∧ Below w'.heap.size w' w'') := fun w' hb => untA_any w' _ p pa n cap ca L (HG.out w' hb).2.1 (HX.out w' (HG.out w' hb).2.2).1
 rw [hw4]
 clear hw4 e0 ta3 ta4 hb3 b34 hc2 hc3 hs1 he1 H7A
 go_upto_region 9 with (first
  | (go_at_call 6; have hq := hc7; refine (H6A.out w7 hc7).mono ?_; rintro e w8 ⟨rfl, hb8⟩; have hc8 := hc7.trans (hb8.mono hc7.size))
  | (go_at_call 13; refine (H13A.out w6 hc6).mono ?_; rintro e w7 ⟨rfl, hb7⟩; have hc7 := hc6.trans (hb7.mono hc6.size); have g7 := (HG.out w7 hc7).1)
  | (go_at_call 12; refine (H12A.out w5 hc5).mono ?_; rintro e w6 ⟨rfl, hb6⟩; have hc6 := hc5.trans (hb6.mono hc5.size); have g6 := (HG.out w6 hc6).1; have f6 := HC.out w6 0 (.slice p n cap) (HG.out w6 hc6).2.2 rfl)
  | (go_at_call 6; refine (H6A.out w4 (Below.refl _ _)).mono ?_; rintro e w5 ⟨rfl, hc5⟩; have f5 := HC.out w5 0 (.slice p n cap) (HG.out w5 hc5).2.2 rfl)
  | go_in)
 have g8 := (HG.out w8 hc8).1
 have T8 : Hid (TwA w8 W1.heap.size p n L pa ca) := (HG.out w8 hc8).2.1
 have B8 : Hid (Below W1.heap.size W1 w8) := (HG.out w8 hc8).2.2
 have S8 : Hid (w3.heap.size < w8.heap.size) := by show _ < _; have := hc8.size; omega
 clear g4 g6 g7 f5 f6 hc5 hc6 hc7 hb6 hb7 hb8 hc8 H6A H12A H13A HG hc4
 go_upto_if 57 with go_in
 go_cut [67] (fun _ wx => ∃ M : List Nd, Hid (Reads wx pa n M ∧ Rng M ∧ RngP M ∧ wx.cell? ⟨w3.heap.size, 0, none⟩ = some (.slice pa n ca) ∧ Below W1.heap.size W1 wx ∧ (pa = none → n = 0 ∧ ca = 0) ∧ w3.heap.size < wx.heap.size))
 case first =>
  have HNC : Hid (pa = none → n = 0 ∧ ca = 0) := fun e => by
   rcases T8.out with ⟨_, _, h3, _, h5⟩ | ⟨B, h1, h2, _⟩
   ·exact ⟨h3, h5⟩
   ·rw [h2] at e; cases e
  by_cases hn : n = 0
  ·have hn0 : ¬ (0 : Int) < (n : Int) := by omega
   clear hn
   go_wp2
   go_meet
   case rel => exact ⟨L, T8.out.reads HFA.out.1 HFA.out.2, HRG.out.1, HRG.out.2, g8, B8.out, HNC.out, S8.out⟩
  ·obtain ⟨k, hk⟩ : ∃ k, n = k + 1 := ⟨n - 1, by omega⟩
   have hn0 : (0 : Int) < (n : Int) := by omega
   have hLn := HFA.out.2
   have hLb := HFA.out.1.len
   have hn1 : IntKind.i64.wrap ((n : Int) - 1) = (k : Int) := by rw [IntKind.wrap_i64]; omega
   have k0 : (0 : Int) ≤ (k : Int) := by omega
   have k1 : (k : Int) < (n : Int) := by omega
   rcases T8.out with ⟨_, _, h3, _⟩ | ⟨B, h1, h2, h3, h4, h5, h6, h7⟩
   ·exact absurd h3 hn
   ·subst h2
    have hBl := HPA.out B rfl
    have LM : Lay w8 B 0 L := lay_marked h6
    have c1 : w8.cell? ⟨B, k * 9 + 1, none⟩ = some (.int .i64 (nd L k).pos) := by
     have := LM.c k (by omega) 1 (.int .i64 (nd L k).pos) rfl
     simpa using this
    have fz : w8.frozen? ⟨B, k * 9 + 1, none⟩ = false := by
     have := (h7 (k * 9 + 1) (by omega)).2
     simpa using this
    obtain ⟨ps, hps⟩ : ∃ ps, (nd L k).pos = ps := ⟨_, rfl⟩
    rw [hps] at c1
    obtain ⟨v, hv⟩ : ∃ v, IntKind.i64.wrap (ps + 2) = v := ⟨_, rfl⟩
    have HVB : Hid (v ≤ 9223372036854775807) := by show _ ≤ _; rw [← hv, IntKind.wrap_i64]; omega
    have hput := lay_put LM (fun j hj => h7 j (by omega)) k 1 (.int .i64 v) (fPos v) (by omega) (by omega) (put_pos _ v)
    have HR9 : Hid (Reads (w8.setCell ⟨B, k * 9 + 1, none⟩ (.int .i64 v)) (some ⟨B, 0, none⟩) n (L.modify k (fPos v))) :=
     ⟨fine_put HFA.out.1 k (fPos v) (by omega) (fun x hx => hx), by rw [List.length_modify]; exact hLn, fun _ => ⟨B, 0, rfl, hput.1⟩⟩
    have HRM : Hid (Rng (L.modify k (fPos v)) ∧ RngP (L.modify k (fPos v))) := by
     refine ⟨fun i hi => ?_, fun i hi => ?_⟩
     ·rw [List.length_modify] at hi
      rw [nd_modify L k i (fPos v) (by omega)]
      split
      ·exact HRG.out.1 i hi
      ·exact HRG.out.1 i hi
     ·rw [List.length_modify] at hi
      rw [nd_modify L k i (fPos v) (by omega)]
      split
      ·exact HVB.out
      ·exact HRG.out.2 i hi
    have HC9 : Hid ((w8.setCell ⟨B, k * 9 + 1, none⟩ (.int .i64 v)).cell? ⟨w3.heap.size, 0, none⟩ = some (.slice (some ⟨B, 0, none⟩) n ca)) := by
     show _ = _
     rw [World.cell?_setCell_other _ _ _ _ (fun e => by have := congrArg Addr.block e; simp only at this; omega)]
     exact g8
    have HB9 : Hid (Below W1.heap.size W1 (w8.setCell ⟨B, k * 9 + 1, none⟩ (.int .i64 v))) := B8.out.setCell (p := ⟨B, k * 9 + 1, none⟩) h4 _
    have HZ9 : Hid (w3.heap.size < (w8.setCell ⟨B, k * 9 + 1, none⟩ (.int .i64 v)).heap.size) := by show _ < _; rw [size_set]; exact S8.out
    clear hput h6 h7 LM hLn hLb hk hn h3 hps
    go_wp2
    go_meet
    case rel => exact ⟨_, HR9.out, HRM.out.1, HRM.out.2, HC9.out, HB9.out, HNC.out, HZ9.out⟩
 case rest =>
 clear g8 T8 B8 S8 HPA
 obtain ⟨M, hM⟩ := hcut
 obtain ⟨RM, r1, r2, g9, B9, hnc, S9⟩ := hM.out
 clear hM
 obtain ⟨p', cq, wd, hrun, htw, hbd⟩ := run_dup wc pa n ca M RM hnc
 have hRd : Hid (∀ w', Below wd.heap.size wd w' → Reads w' p' n M) := fun w' hb => by
  have := htw.reads RM.1
  rw [RM.2.1] at this
  exact this.next hb
 have hRa : Hid (∀ w', Below wd.heap.size wd w' → Reads w' pa n M) := fun w' hb => (RM.next hbd).next hb
 have hBd : Below W1.heap.size W1 wd := B9.trans (hbd.mono B9.size)
 have gd : wd.cell? ⟨w3.heap.size, 0, none⟩ = some (.slice pa n ca) := (hbd.cell (p := ⟨w3.heap.size, 0, none⟩) S9).trans g9
 have hzd : w3.heap.size < wd.heap.size := by have := hbd.size; omega
 obtain ⟨s2, hs2⟩ : ∃ s2, bk (dumpS M).1 = s2 := ⟨_, rfl⟩
 obtain ⟨e2, he2⟩ : ∃ e2, (dumpS M).2 = e2 := ⟨_, rfl⟩
 have H6B : Hid (∀ w', Below wd.heap.size wd w' → Calls Tryz.prog 6 #[.agg #[.slice pa n ca]] w' fun e w'' => e = .returned (.tuple #[.string s2, .int .i64 e2]) ∧ Below w'.heap.size w' w'') := fun w' hb => by
  have := HD6.out M w' pa n ca (hBd.trans (hb.mono hBd.size)) (hRa.out w' hb) r1 r2
  rw [hs2, he2] at this
  exact this
 have H12B : Hid (∀ w', Below wd.heap.size wd w' → Calls Tryz.prog 12 #[.agg #[.slice p' n cq]] w' fun e w'' => e = .returned (.tuple #[.string s2, .int .i64 e2]) ∧ Below w'.heap.size w' w'') := fun w' hb => by
  have := HD12.out M w' p' n cq (hBd.trans (hb.mono hBd.size)) (hRd.out w' hb) r1 r2
  rw [hs2, he2] at this
  exact this
 have HRUN : Hid _ := hrun
 clear hrun RM hnc hs2 he2 r1 r2 htw HD6 HD12 B9 hbd S9 hRd hRa
 go_upto_region 13 with (first
  | (at_builtin; refine wpList_app9 (by rfl) (.const (.slice none 0 0)) (.tmp 69) (by rfl) HRUN.out ?_)
  | go_in)
 clear HRUN g9
 obtain ⟨we, hwe⟩ : ∃ we, wd.alloc (.cells #[.slice p' n cq] 24) = we := ⟨_, rfl⟩
 have bde : Below wd.heap.size wd we := by rw [← hwe]; exact (Below.refl _ wd).alloc (Nat.le_refl _) _
 have ge : we.cell? ⟨wd.heap.size, 0, none⟩ = some (.slice p' n cq) := by rw [← hwe]; exact cell_new _ _ _ _ _ rfl
 rw [hwe]
 clear hwe
 go_upto_region 17 with (first
  | (go_at_call 12; refine (H12B.out we bde).mono ?_; rintro e w11 ⟨rfl, hb11⟩; have hd11 := bde.trans (hb11.mono bde.size); have g11 : w11.cell? ⟨w3.heap.size, 0, none⟩ = some (.slice pa n ca) := (hd11.cell (p := ⟨w3.heap.size, 0, none⟩) hzd).trans gd)
  | (go_at_call 6; refine (H6B.out w11 hd11).mono ?_; rintro e w12 ⟨rfl, hb12⟩; have hd12 := hd11.trans (hb12.mono hd11.size); have hc12 : Below W1.heap.size W1 w12 := hBd.trans (hd12.mono hBd.size))
  | go_in)
 clear gd ge g11 bde hb11 hd11 hb12 hd12 hBd H6B H12B hzd
 have x3 := HC.out w12 3 (.string Tx) hc12 rfl
 go_upto_region 18 with (first
  | (go_at_call 9; refine (HL9.out w12 hc12).mono ?_; rintro e w13 ⟨⟨pA, cA, rfl, rA⟩, hb13⟩)
  | go_in)
 obtain ⟨uA, huA⟩ : ∃ uA, w13.alloc (.cells #[.slice pA K.length cA] 24) = uA := ⟨_, rfl⟩
 have buA : Below w13.heap.size w13 uA := by rw [← huA]; exact (Below.refl _ w13).alloc (Nat.le_refl _) _
 have cuA : uA.cell? ⟨w13.heap.size, 0, none⟩ = some (.slice pA K.length cA) := by rw [← huA]; exact cell_new _ _ _ _ _ rfl
 have zuA : uA.heap.size = w13.heap.size + 1 := by rw [← huA]; simp
 have puA : Below w12.heap.size w12 uA := hb13.trans (buA.mono hb13.size)
 have huAc : Below W1.heap.size W1 uA := hc12.trans (puA.mono hc12.size)
 rw [huA]
 clear huA x3
 have x3 := HC.out uA 3 (.string Tx) huAc rfl
 go_upto_region 19 with (first
  | (go_at_call 14; refine (HL14.out uA huAc).mono ?_; rintro e w14 ⟨⟨pR, cR, rfl, rR⟩, hb14⟩)
  | go_in)
 obtain ⟨uR, huR⟩ : ∃ uR, w14.alloc (.cells #[.slice pR K.length cR] 24) = uR := ⟨_, rfl⟩
 have buR : Below w14.heap.size w14 uR := by rw [← huR]; exact (Below.refl _ w14).alloc (Nat.le_refl _) _
 have cuR : uR.cell? ⟨w14.heap.size, 0, none⟩ = some (.slice pR K.length cR) := by rw [← huR]; exact cell_new _ _ _ _ _ rfl
 have zuR : uR.heap.size = w14.heap.size + 1 := by rw [← huR]; simp
 have puR : Below uA.heap.size uA uR := hb14.trans (buR.mono hb14.size)
 have huRc : Below W1.heap.size W1 uR := huAc.trans (puR.mono huAc.size)
 rw [huR]
 clear huR x3
 have x3 : True := trivial
 go_upto_region 20 with (first
  | (go_at_call 9; refine (HLo.out uR huRc).mono ?_; rintro e w15 ⟨⟨pO, cO, rfl, rO⟩, hb15⟩)
  | go_in)
 obtain ⟨uO, huO⟩ : ∃ uO, w15.alloc (.cells #[.slice pO 1 cO] 24) = uO := ⟨_, rfl⟩
 have buO : Below w15.heap.size w15 uO := by rw [← huO]; exact (Below.refl _ w15).alloc (Nat.le_refl _) _
 have cuO : uO.cell? ⟨w15.heap.size, 0, none⟩ = some (.slice pO 1 cO) := by rw [← huO]; exact cell_new _ _ _ _ _ rfl
 have zuO : uO.heap.size = w15.heap.size + 1 := by rw [← huO]; simp
 have puO : Below uR.heap.size uR uO := hb15.trans (buO.mono hb15.size)
 have huOc : Below W1.heap.size W1 uO := huRc.trans (puO.mono huRc.size)
 rw [huO]
 clear huO x3
 have x3 := HC.out uO 3 (.string Tx) huOc rfl
 go_upto_region 21 with (first
  | (go_at_call 9; refine (HL9.out uO huOc).mono ?_; rintro e w16 ⟨⟨pB, cB, rfl, rB⟩, hb16⟩)
  | go_in)
 obtain ⟨uB, huB⟩ : ∃ uB, w16.alloc (.cells #[.slice pB K.length cB] 24) = uB := ⟨_, rfl⟩
 have buB : Below w16.heap.size w16 uB := by rw [← huB]; exact (Below.refl _ w16).alloc (Nat.le_refl _) _
 have cuB : uB.cell? ⟨w16.heap.size, 0, none⟩ = some (.slice pB K.length cB) := by rw [← huB]; exact cell_new _ _ _ _ _ rfl
 have zuB : uB.heap.size = w16.heap.size + 1 := by rw [← huB]; simp
 have puB : Below uO.heap.size uO uB := hb16.trans (buB.mono hb16.size)
 have huBc : Below W1.heap.size W1 uB := huOc.trans (puB.mono huOc.size)
 rw [huB]
 clear huB x3
 have s13 := hb13.size
 have s14 := hb14.size
 have s15 := hb15.size
 have s16 := hb16.size
 have qAB : Below uA.heap.size uA uB := puR.trans ((puO.trans (puB.mono puO.size)).mono puR.size)
 have qRB : Below uR.heap.size uR uB := puO.trans (puB.mono puO.size)
 have ROW : Hid (NRowZ w12 uB pA cA K ∧ NRowZ uA uB pR cR K ∧ NRowZ uR uB pO cO [oneNd] ∧ NRowZ uO uB pB cB K) := ⟨(rA.out.next buA).next qAB, (rR.out.next buR).next qRB, (rO.out.next buO).next puB, rB.out.next buB⟩
 have LTA : Hid (∀ g, (Value.slice pA K.length cA).ownBlock = some g → g < w13.heap.size) := fun g e => (rA.out.own.lt g e).2
 have LTO : Hid (∀ g, (Value.slice pO 1 cO).ownBlock = some g → g < w15.heap.size) := fun g e => (rO.out.own.lt g e).2
 have LTB : Hid (∀ g, (Value.slice pB K.length cB).ownBlock = some g → g < w16.heap.size) := fun g e => (rB.out.own.lt g e).2
 have dA : uB.cell? ⟨w13.heap.size, 0, none⟩ = some (.slice pA K.length cA) := (qAB.cell (p := ⟨w13.heap.size, 0, none⟩) (by show w13.heap.size < _; omega)).trans cuA
 have dR : uB.cell? ⟨w14.heap.size, 0, none⟩ = some (.slice pR K.length cR) := (qRB.cell (p := ⟨w14.heap.size, 0, none⟩) (by show w14.heap.size < _; omega)).trans cuR
 have dO : uB.cell? ⟨w15.heap.size, 0, none⟩ = some (.slice pO 1 cO) := (puB.cell (p := ⟨w15.heap.size, 0, none⟩) (by show w15.heap.size < _; omega)).trans cuO
 have SV : Hid (∀ w', Below uB.heap.size uB w' → w'.cell? ⟨w13.heap.size, 0, none⟩ = some (.slice pA K.length cA) ∧ w'.cell? ⟨w14.heap.size, 0, none⟩ = some (.slice pR K.length cR) ∧ w'.cell? ⟨w15.heap.size, 0, none⟩ = some (.slice pO 1 cO) ∧ w'.cell? ⟨w16.heap.size, 0, none⟩ = some (.slice pB K.length cB) ∧ Below uB.heap.size uB w') := fun w' hb =>
  ⟨(hb.cell (p := ⟨w13.heap.size, 0, none⟩) (by show w13.heap.size < _; omega)).trans dA, (hb.cell (p := ⟨w14.heap.size, 0, none⟩) (by show w14.heap.size < _; omega)).trans dR, (hb.cell (p := ⟨w15.heap.size, 0, none⟩) (by show w15.heap.size < _; omega)).trans dO, (hb.cell (p := ⟨w16.heap.size, 0, none⟩) (by show w16.heap.size < _; omega)).trans cuB, hb⟩
 have RDS : Hid (∀ w', Below uB.heap.size uB w' → Reads w' pA K.length K ∧ Reads w' pR K.length K ∧ Reads w' pO 1 [oneNd] ∧ Reads w' pB K.length K) := fun w' hb =>
  ⟨(ROW.out.1.next hb).reads HFK.out, (ROW.out.2.1.next hb).reads HFK.out, (ROW.out.2.2.1.next hb).reads one_fine, (ROW.out.2.2.2.next hb).reads HFK.out⟩
 have hcB : Below W1.heap.size W1 uB := huBc
 have s12 := hc12.size
 have H15 : Hid (∀ wx, Below uB.heap.size uB wx → Calls Tryz.prog 15 #[.slice (some ⟨wx.heap.size, 0, none⟩) 3 3] (wx.alloc (.cells #[.slice pA K.length cA, .slice pO 1 cO, .slice pB K.length cB] 22)) fun e w' => e = .returned (.bool true) ∧ Below W1.heap.size (wx.alloc (.cells #[.slice pA K.length cA, .slice pO 1 cO, .slice pB K.length cB] 22)) w') := fun wx hb => by
  have hba : Below uB.heap.size uB (wx.alloc (.cells #[.slice pA K.length cA, .slice pO 1 cO, .slice pB K.length cB] 22)) := hb.alloc hb.size _
  have hzx := hb.size
  refine apart3 _ W1.heap.size wx.heap.size (fun k => match k with | 0 => w12.heap.size | 1 => uR.heap.size | _ => uO.heap.size) (fun k => match k with | 0 => w13.heap.size | 1 => w15.heap.size | _ => w16.heap.size) (fun k => match k with | 0 => .slice pA K.length cA | 1 => .slice pO 1 cO | _ => .slice pB K.length cB) (fun k => match k with | 0 => K | 1 => [oneNd] | _ => K) (heap_alloc_new wx _) ?_ ?_ ?_ ?_ ?_ ?_ ?_
  ·intro k hk
   match k, hk with
   | 0, _ => exact s12
   | 1, _ => show W1.heap.size ≤ uR.heap.size; omega
   | 2, _ => show W1.heap.size ≤ uO.heap.size; omega
  ·intro k hk
   match k, hk with
   | 0, _ => exact (ROW.out.1.next hba).own
   | 1, _ => exact (ROW.out.2.2.1.next hba).own
   | 2, _ => exact (ROW.out.2.2.2.next hba).own
  ·intro k hk
   match k, hk with
   | 0, _ => exact LTA.out
   | 1, _ => exact LTO.out
   | 2, _ => exact LTB.out
  ·intro a b hab hb3
   have hab' : (a = 0 ∧ b = 1) ∨ (a = 0 ∧ b = 2) ∨ (a = 1 ∧ b = 2) := by omega
   rcases hab' with ⟨rfl, rfl⟩ | ⟨rfl, rfl⟩ | ⟨rfl, rfl⟩
   ·show w13.heap.size ≤ uR.heap.size; omega
   ·show w13.heap.size ≤ uO.heap.size; omega
   ·show w15.heap.size ≤ uO.heap.size; omega
  ·intro k hk
   match k, hk with
   | 0, _ => intro h0; obtain ⟨e1, e2⟩ := ROW.out.1.nil h0; show Value.slice pA K.length cA = _; rw [e1, e2, show K.length = 0 from h0]
   | 1, _ => intro h0; cases h0
   | 2, _ => intro h0; obtain ⟨e1, e2⟩ := ROW.out.2.2.2.nil h0; show Value.slice pB K.length cB = _; rw [e1, e2, show K.length = 0 from h0]
  ·intro k hk
   match k, hk with
   | 0, _ => exact HFK.out.len
   | 1, _ => show 1 ≤ _; omega
   | 2, _ => exact HFK.out.len
  ·rw [World.size_alloc]; omega
 clear dA dR dO cuA cuR cuO cuB buA buR buO buB puA puR puO puB qAB qRB rA rR rO rB HL9 HL14 HLo hb13 hb14 hb15 hb16 huAc huRc huOc
 have hcd : Below uB.heap.size uB uB.drew := (Below.refl _ uB).drew
 have HFLD := fun p n c => fld24 p n c
 go_region_held3 (fun w' => w'.cell? ⟨w13.heap.size, 0, none⟩ = some (.slice pA K.length cA) ∧ w'.cell? ⟨w14.heap.size, 0, none⟩ = some (.slice pR K.length cR) ∧ w'.cell? ⟨w15.heap.size, 0, none⟩ = some (.slice pO 1 cO) ∧ w'.cell? ⟨w16.heap.size, 0, none⟩ = some (.slice pB K.length cB) ∧ Below uB.heap.size uB w') (exact SV.out _ (by assumption))
  (first
  | (go_at_call 10; have hq := r1; refine (HS10.out [oneNd] _ pO cO p1 k1 1 (RDS.out _ hcd).2.2.1 r1.out).mono ?_; rintro e w20 ⟨rfl, hb20⟩; replace hcd := hcd.trans (hb20.mono hcd.size))
  | (go_at_call 11; have hq := mk2; refine (one_any _).mono ?_; rintro e w20 ⟨⟨p1, k1, rfl, r1⟩, hb20⟩; replace hcd := hcd.trans (hb20.mono hcd.size))
  | (go_at_call 10; have hq := mk1; refine (HS10.out K _ pB cB pR cR K.length (RDS.out _ hcd).2.2.2 (RDS.out _ hcd).2.1).mono ?_; rintro e w20 ⟨rfl, hb20⟩; replace hcd := hcd.trans (hb20.mono hcd.size); have mk2 : True := trivial)
  | (go_at_call 10; refine (HS10.out K _ pA cA pR cR K.length (RDS.out _ hcd).1 (RDS.out _ hcd).2.1).mono ?_; rintro e w20 ⟨rfl, hb20⟩; replace hcd := hcd.trans (hb20.mono hcd.size); have mk1 : True := trivial))
 go_upto_region 23 with fail
 obtain ⟨y, hy⟩ : ∃ y, w20 = y := ⟨_, rfl⟩
 rw [hy] at hcd ⊢
 obtain ⟨v1, v2, v3, v4, _⟩ := SV.out y hcd
 have hfin : Below W1.heap.size W1 (y.alloc (.cells #[.slice pA K.length cA, .slice pO 1 cO, .slice pB K.length cB] 22)) := (hcB.trans (hcd.mono hcB.size)).alloc (Nat.le_trans hcB.size hcd.size) _
 clear hy SV RDS ROW LTA LTO LTB
 go_wp2_with (first
  | (go_at_call 15; refine (H15.out y hcd).mono ?_; rintro e w21 ⟨rfl, hb21⟩)
  | go_in)
 go_ret
 exact ⟨rfl, HBW.out _ (hfin.trans hb21)⟩
end Go.Proofs.YtekgnogjfggnmaaGreatDoor
