import Derived.RangeFuncNested
import Derived.RangeFuncBound
import Derived.RangeFuncCalls
import Derived.RangeFuncLeaves
import Derived.RangeFuncFrom
import Derived.Shelf.Abstract
import Derived.Shelf.RegionOpen
import Derived.WalkKit
import Derived.OwnWalkIn
import Derived.TacticsInMore
import Derived.LoopNIn
import Derived.LoopIn
import Derived.Test.YtgncoeihlfcaiaaDoorCut
namespace Go.Proofs.YtgncoeihlfcaiaaDoor
open Go.RowKit Go.Shelf
attribute [local go_sem] Oper.semAt_some

/-- A row as the iterator hands it to a round. -/
abbrev encs (x : Nat × ByteArray) : Array Value := #[.int .i64 (x.1 : Int), .string x.2]

theorem rows_cons (k : Nat) (l : List UInt8) (r : List (List UInt8)) : Src.rows k (l :: r) = (k, ⟨l.toArray⟩) :: Src.rows (k + 1) r := rfl
theorem grown_drewN (w : World) (n : Nat) (row : Option Nat) : w.grownBy (w.drewN n) row := ⟨rfl, rfl, rfl, Nat.le_refl _, fun _ _ _ => rfl⟩
def strLen : Value → Nat
  | .string t => t.size
  | _ => 0

theorem rows_miss (pre : List (Nat × ByteArray)) (t : ByteArray) (xs : List (Nat × ByteArray)) (hx : xs = pre ++ Src.rows (pre.length + 1) (Src.lns t.data.toList)) (h : Lib.indexByte t.data.toList 10 = -1) :
    xs = pre ++ [(pre.length + 1, t)] := by
  rw [hx, Src.cut_miss t h]
  show pre ++ [(pre.length + 1, ⟨t.data.toList.toArray⟩)] = _
  rw [Lib.mk_data]

theorem rows_hit (pre : List (Nat × ByteArray)) (t : ByteArray) (i : Nat) (xs : List (Nat × ByteArray)) (hx : xs = pre ++ Src.rows (pre.length + 1) (Src.lns t.data.toList)) (h : Lib.indexByte t.data.toList 10 = i) :
    i < t.size ∧ xs = (pre ++ [(pre.length + 1, t.extract 0 i)]) ++ Src.rows ((pre ++ [(pre.length + 1, t.extract 0 i)]).length + 1) (Src.lns (t.extract (i + 1) t.size).data.toList) := by
  obtain ⟨hi, e⟩ := Src.cut_hit t i h
  refine ⟨hi, ?_⟩
  have e1 : t.extract 0 i = ⟨(t.data.toList.take i).toArray⟩ := by rw [Lib.extract_eq]; simp
  have e2 : (t.extract (i + 1) t.size).data.toList = t.data.toList.drop (i + 1) := by
    rw [Lib.extract_eq]
    exact List.take_of_length_le (by rw [List.length_drop, ← Lib.size_eq]; exact Nat.le_refl _)
  rw [hx, e, rows_cons, ← e1, e2]
  simp

set_option maxRecDepth 100000 in
set_option maxHeartbeats 2000000 in
theorem it_stops (n : Nat) (hn : 1 ≤ n) (Bt : Nat) (s : ByteArray) (w : World) (hs : s.size ≤ 140737488355328)
    (hlt : Bt < w.heap.size) (hb : w.cell? ⟨Bt, 0, none⟩ = some (.string s)) :
    SeqStopsK Fence.wide n Tryd.prog 21 #[.pointer (some ⟨Bt, 0, none⟩)] encs (fun _ _ => True) (fun xs => xs = Src.rows 1 (Src.lns s.data.toList)) (fun pre => pre <+: Src.rows 1 (Src.lns s.data.toList)) (s.size + 1) w := fun l J Jx W hW hJ hJx hY h0 => by
  have hbW : W.cell? ⟨Bt, 0, none⟩ = some (.string s) := (hW.cell (p := ⟨Bt, 0, none⟩) hlt).trans hb
  have HJ : Hid (AbidesFrom W.heap.size J) := hJ
  clear hJ hJx
  generalize hxs : Src.rows 1 (Src.lns s.data.toList) = xs
  have HX : Hid (Src.rows 1 (Src.lns s.data.toList) = xs) := hxs
  clear hxs
  refine callsIn_of_wp Tryd.func21 rfl trivial ?_ rfl
  simp only [Tryd.ntmps21, List.size_toArray, List.length_cons, List.length_nil, Nat.reduceAdd, Nat.reduceSub, Array.replicate_succ, Array.replicate_zero, List.push_toArray, List.append_toArray, List.nil_append, List.cons_append]
  gi_wp2
  gi_loopw [3, 4] (fun r k wr => ∃ (pre : List (Nat × ByteArray)) (t : ByteArray), r = .string t ∧ k = .int .i64 ((pre.length + 1 : Nat) : Int) ∧ Hid (xs = pre ++ Src.rows (pre.length + 1) (Src.lns t.data.toList)) ∧ pre.length + t.size ≤ s.size ∧ J pre wr) (fun r _ _ => strLen r)
  case atStart => exact ⟨[], s, rfl, rfl, HX.out.symm, by simp, h0⟩
  case round =>
    obtain ⟨pre, t, rfl, rfl, hx, hle, hJs⟩ := hrel
    clear hW hbW hb
    have hge := Lib.indexByte_ge t.data.toList 10
    by_cases hm : Lib.indexByte t.data.toList 10 = -1
    · have HM : Hid (Lib.indexByte t.data.toList 10 = -1) := hm
      clear hm hge
      obtain ⟨fn, tmps, assign, body, hy, hR⟩ := hY pre (pre.length + 1, t) wr hJs (by omega)
      dsimp only [encs] at hy
      push_cast at hy
      gi_wp2_with (refine ⟨trivial, ?_⟩; gi_at_call 22; refine (callsIn_wide.2 (cut_miss _ _ HM.out)).mono ?_; rintro e w' ⟨rfl, rfl⟩)
      have hxe := rows_miss pre t xs hx.out HM.out
      refine hR.mono ?_
      rintro e W3 (⟨rfl, hJ3, _⟩ | ⟨rfl, hJx3⟩)
      · gi_wp2
        refine bodyPost_ret (results_none rfl _ _ _) rfl ?_
        exact ⟨⟨_, rfl⟩, .inl ⟨_, hxe.symm, hJ3⟩⟩
      · gi_wp2
        refine bodyPost_ret (results_none rfl _ _ _) rfl ?_
        exact ⟨⟨_, rfl⟩, .inr ⟨_, ⟨[], by simp [hxe]⟩, hJx3⟩⟩
    · obtain ⟨i, hi⟩ : ∃ i : Nat, Lib.indexByte t.data.toList 10 = i := ⟨(Lib.indexByte t.data.toList 10).toNat, by omega⟩
      have HM : Hid (Lib.indexByte t.data.toList 10 = i) := hi
      clear hm hge hi
      obtain ⟨hit, hxe⟩ := rows_hit pre t i xs hx.out HM.out
      have HE : Hid (xs = (pre ++ [(pre.length + 1, t.extract 0 i)]) ++ Src.rows ((pre ++ [(pre.length + 1, t.extract 0 i)]).length + 1) (Src.lns (t.extract (i + 1) t.size).data.toList)) := hxe
      clear hxe
      gi_wp2_with (refine ⟨trivial, ?_⟩; gi_at_call 22; refine (callsIn_wide.2 (cut_hit _ i _ HM.out hit (by omega))).mono ?_; rintro e w' ⟨rfl, m, rfl⟩; obtain ⟨fn, tmps, assign, body, hy, hR⟩ := hY pre (pre.length + 1, t.extract 0 i) (wr.drewN m) (HJ.out _ _ _ none hJs (grown_drewN _ _ _) (fun _ e => by cases e)) (by omega); dsimp only [encs] at hy; push_cast at hy)
      refine hR.mono ?_
      rintro e W3 (⟨rfl, hJ3, _⟩ | ⟨rfl, hJx3⟩)
      · gi_wp2
        go_roundw
        case rel => exact ⟨pre ++ [(pre.length + 1, t.extract 0 i)], t.extract (i + 1) t.size, rfl, by simp, HE.out, by simp; omega, hJ3⟩
        case measure => simp [strLen]; omega
      · gi_wp2
        refine bodyPost_ret (results_none rfl _ _ _) rfl ?_
        exact ⟨⟨_, rfl⟩, .inr ⟨_, ⟨_, (HE.out).symm⟩, hJx3⟩⟩

end Go.Proofs.YtgncoeihlfcaiaaDoor
