import Derived.RangeFuncNested
import Derived.RangeFuncBound
import Derived.RangeFuncCalls
import Derived.RangeFuncLeaves
import Derived.RangeFuncFrom
import Derived.Shelf.Abstract
import Derived.Shelf.RegionOpen
import Derived.WalkKit
import Derived.OwnWalkIn
import Derived.TacticsInMore
import Derived.LoopNIn
import Derived.LoopIn
import Derived.BigRegionIn
import Derived.Test.YtlocaalipjjnpaaDoorN02
import Derived.Test.YtlocaalipjjnpaaDoorN05
namespace Go.Proofs.YtlocaalipjjnpaaDoor
open Go.RowKit Go.Shelf
attribute [local go_sem] Oper.semAt_some

abbrev encK (x : Nat) : Array Value := #[.int .i64 (x : Int)]
/-- Where the next kid is, behind these. -/
def posK (L : List Nd) (n : Nat) (pre : List Nat) : Nat := pre.foldl (fun _ x => x + (sz L x).toNat) (n + 1)
theorem posK_snoc (L : List Nd) (n : Nat) (pre : List Nat) (x : Nat) : posK L n (pre ++ [x]) = x + (sz L x).toNat := by simp [posK]

/-- What the iterator reads lies there. -/
structure KKeep (B g o cap n : Nat) (L : List Nd) (w : World) : Prop where
  lay : Lay w g o L
  ns : w.cell? ⟨B, 0, none⟩ = some (.slice (some ⟨g, o, none⟩) L.length cap)
  nn : w.cell? ⟨B + 1, 0, none⟩ = some (.int .i64 (n : Int))
theorem KKeep.below {B g o cap n C : Nat} {L : List Nd} {w w' : World} (h : KKeep B g o cap n L w) (hb : Below C w w') (hB : B + 1 < C) (hg : g < C) (hs : w.heap.size ≤ w'.heap.size) : KKeep B g o cap n L w' :=
  ⟨h.lay.below hb hg hs, (hb.cell (p := ⟨B, 0, none⟩) (by show B < C; omega)).trans h.ns, (hb.cell (p := ⟨B + 1, 0, none⟩) hB).trans h.nn⟩

set_option maxHeartbeats 400000 in
theorem kidsOf_any (p : Option Addr) (len cap : Nat) (n : Int) (w : World) :
    Calls Tryd.prog 87 #[.slice p len cap, .int .i64 n] w fun e w' => e = .returned (.func (.func 92) #[] #[.pointer (some ⟨w.heap.size + 1, 0, none⟩), .pointer (some ⟨w.heap.size, 0, none⟩)]) ∧ w' = (w.alloc (.cells #[.slice p len cap] 22)).alloc (.cells #[.int .i64 n] 3) := by
  go_enter Tryd.func87, Tryd.ntmps87
  go_wp2
  go_ret
  exact ⟨rfl, rfl⟩

set_option maxRecDepth 100000 in
set_option maxHeartbeats 2000000 in
theorem kids_seq (m : Nat) (hm : 1 ≤ m) (B g o cap n : Nat) (L : List Nd) (w : World) (hL : L.length ≤ 1353245080300) (hn : n < L.length) (hg : Good L n) (h : KKeep B g o cap n L w) (hB : B + 1 < w.heap.size) :
    SeqG Fence.wide m Tryd.prog 92 #[.pointer (some ⟨B + 1, 0, none⟩), .pointer (some ⟨B, 0, none⟩)] encK (KKeep B g o cap n L)
      (fun pre x => x = posK L n pre ∧ x < endOf L n) (fun _ x => 1 ≤ sz L x ∧ (x : Int) + sz L x ≤ (endOf L n : Int)) (fun xs => endOf L n ≤ posK L n xs) w := fun l J Jx W hW hA _ hY h0 => by
  have hk : KKeep B g o cap n L W := h.below hW hB h.lay.lt hW.size
  obtain ⟨g1, g2⟩ := hg
  have he : (endOf L n : Int) = n + sz L n := by unfold endOf; omega
  have hs := hk.lay.size hn
  have hns := hk.ns
  have hnn := hk.nn
  have i0 : (0 : Int) ≤ (n : Int) := by omega
  have i1 : (n : Int) < (L.length : Int) := by omega
  have hE : endOf L n ≤ L.length := by omega
  have hnE : n < endOf L n := by omega
  have h0' : J [] W.drew := hA [] W W.drew none h0 ⟨rfl, rfl, rfl, Nat.le_refl _, fun _ _ _ => rfl⟩ (fun _ e => by cases e)
  have HK : Hid (KKeep B g o cap n L W.drew) := ⟨⟨hk.lay.lt, hk.lay.c⟩, hk.ns, hk.nn⟩
  rw [show (nd L n).size = (endOf L n : Int) - n by show sz L n = _; omega] at hs
  generalize endOf L n = E at *
  clear hW hk h hA h0 g1 g2 he
  refine callsIn_of_wp Tryd.func92 rfl trivial ?_ rfl
  simp only [Tryd.ntmps92, List.size_toArray, List.length_cons, List.length_nil, Nat.reduceAdd, Nat.reduceSub, Array.replicate_succ, Array.replicate_zero, List.push_toArray, List.append_toArray, List.nil_append, List.cons_append]
  gi_wp2
  gi_region
  gi_wp2
  clear hns hnn hs i0 i1
  gi_loopw [5] (fun v wr => ∃ pre : List Nat, v = .int .i64 (posK L n pre : Int) ∧ posK L n pre ≤ L.length ∧ J pre wr ∧ Hid (KKeep B g o cap n L wr)) (fun v _ => E - (intOf v).toNat)
  case atStart => exact ⟨[], by simp [posK], by simp [posK]; omega, h0', HK⟩
  case round =>
    obtain ⟨pre, rfl, hpl, hJ, hkr⟩ := hrel
    clear HK
    by_cases hlt : posK L n pre < E
    · obtain ⟨fn, tmps, assign, body, hy, hR⟩ := hY pre (posK L n pre) wr hJ ⟨rfl, hlt⟩
      have hlt' : (posK L n pre : Int) < (E : Int) := by omega
      dsimp only [encK] at hy
      generalize hx : posK L n pre = x at *
      have HX : Hid (posK L n pre = x) := hx
      clear hx
      gi_wp2
      refine hR.mono ?_
      rintro e W3 (⟨rfl, hJ3, ⟨z1, z2⟩, hk3⟩ | ⟨rfl, hJx3⟩)
      · have q0 := hk3.lay.size (i := x) (by omega)
        have q1 := hk3.ns
        have j0 : (0 : Int) ≤ (x : Int) := by omega
        have j1 : (x : Int) < (L.length : Int) := by omega
        obtain ⟨y, hy'⟩ : ∃ y, posK L n (pre ++ [x]) = y := ⟨_, rfl⟩
        have hps := posK_snoc L n pre x
        rw [hy'] at hps
        rw [show (nd L x).size = (y : Int) - x by show sz L x = _; omega] at q0
        have hp1 : y ≤ E := by omega
        have hp2 : x < y := by omega
        have HK3 : Hid (KKeep B g o cap n L W3) := hk3
        have HY' : Hid (posK L n (pre ++ [x]) = y) := hy'
        clear hps hy' z1 z2 hk3
        gi_wp2
        refine ⟨⟨pre ++ [x], ?_, by rw [HY'.out]; omega, hJ3, HK3⟩, by simp [intOf]; omega⟩
        rw [HY'.out]
        congr 1
        omega
      · gi_wp2
        refine bodyPost_ret (results_none rfl _ _ _) rfl ?_
        exact ⟨⟨_, rfl⟩, .inr ⟨_, hJx3⟩⟩
    · have hlt' : ¬ (posK L n pre : Int) < (E : Int) := by omega
      gi_wp2
      refine bodyPost_end (results_none rfl _ _ _) rfl ?_
      exact ⟨⟨_, rfl⟩, .inl ⟨pre, by omega, hJ⟩⟩

end Go.Proofs.YtlocaalipjjnpaaDoor
