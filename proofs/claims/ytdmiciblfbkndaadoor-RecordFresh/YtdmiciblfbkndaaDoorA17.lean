import Derived.RangeFuncNested
import Derived.RangeFuncBound
import Derived.RangeFuncCalls
import Derived.RangeFuncLeaves
import Derived.RangeFuncFrom
import Derived.Shelf.Abstract
import Derived.Shelf.RegionOpen
import Derived.WalkKit
import Derived.OwnWalkIn
import Derived.TacticsInMore
import Derived.LoopNIn
import Derived.LoopIn
import Derived.BigRegionIn
import Derived.BigGuardIn
import Derived.Test.YtdmiciblfbkndaaDoorA00
import Derived.Test.YtdmiciblfbkndaaDoorA01
import Derived.Test.YtdmiciblfbkndaaDoorA13
namespace Go.Proofs.YtdmiciblfbkndaaDoor
open Go.RowKit Go.Shelf
attribute [local go_sem] Oper.semAt_some

abbrev encB (x : ByteArray) : Array Value := #[.string x]
theorem grown_below {w w' : World} (h : Below w.heap.size w w') (row : Option Nat) : w.grownBy w' row := ⟨h.os, h.tape, h.output, h.size, fun k hk _ => h.block k hk⟩
set_option maxHeartbeats 400000 in
theorem bodies_any (s : ByteArray) (w : World) :
    Calls Tryd.prog 26 #[.string s] w fun e w' => e = .returned (.func (.func 45) #[] #[.pointer (some ⟨w.heap.size, 0, none⟩)]) ∧ w' = w.alloc (.cells #[.string s] 9) := by
  go_enter Tryd.func26, Tryd.ntmps26
  go_wp2
  go_ret
  exact ⟨rfl, rfl⟩
def strLen : Value → Nat
  | .string t => t.size
  | _ => 0
set_option maxRecDepth 100000 in
set_option maxHeartbeats 2000000 in
theorem bodies_seq (m : Nat) (hm : 1 ≤ m) (Bt : Nat) (s : ByteArray) (w : World) (hs : s.size ≤ 140737488355328) (hlt : Bt < w.heap.size) (hb : w.cell? ⟨Bt, 0, none⟩ = some (.string s)) (hT : SumT w) :
    SeqG Fence.wide m Tryd.prog 45 #[.pointer (some ⟨Bt, 0, none⟩)] encB SumT
      (fun pre x => firstS (s.data.toList.drop (totB pre)) = some x.data.toList) (fun _ _ => True) (fun xs => firstS (s.data.toList.drop (totB xs)) = none) w := fun l J Jx W hW hA _ hY h0 => by
  have hbW : W.cell? ⟨Bt, 0, none⟩ = some (.string s) := (hW.cell (p := ⟨Bt, 0, none⟩) hlt).trans hb
  have HT0 : Hid (SumT W) := hT.next hW
  have HA : Hid (AbidesFrom W.heap.size J) := hA
  have HWs : Hid (s.size ≤ 140737488355328) := hs
  clear hW hb hT hA hs
  refine callsIn_of_wp Tryd.func45 rfl trivial ?_ rfl
  simp only [Tryd.ntmps45, List.size_toArray, List.length_cons, List.length_nil, Nat.reduceAdd, Nat.reduceSub, Array.replicate_succ, Array.replicate_zero, List.push_toArray, List.append_toArray, List.nil_append, List.cons_append]
  gi_wp2
  gi_loopw [3] (fun v wr => ∃ (pre : List ByteArray) (t : ByteArray), v = .string t ∧ Hid (t.data.toList = s.data.toList.drop (totB pre)) ∧ J pre wr ∧ Hid (SumT wr)) (fun v _ => strLen v)
  case atStart => exact ⟨[], s, rfl, by show _ = _; simp [totB], h0, HT0⟩
  case round =>
    obtain ⟨pre, t, rfl, HX, hJ, HT⟩ := hrel
    have hl : t.data.toList.length ≤ 140737488355328 := by rw [HX.out, List.length_drop, ← Lib.size_eq]; have := HWs.out; omega
    have HC := first_any wr t HT.out (by rw [Lib.size_eq]; omega)
    clear HT0
    cases hf : firstS t.data.toList with
    | none =>
      have HC2 : Calls Tryd.prog 46 #[.string t] wr fun e w' => ∃ x : ByteArray, e = .returned (.tuple #[.string x, .bool false]) ∧ Below wr.heap.size wr w' := HC.mono fun e w' q => by
        obtain ⟨⟨x, h1, -⟩, h2⟩ := q.out
        rw [hf] at h1
        exact ⟨x, h1, h2⟩
      have HF : Hid (firstS t.data.toList = none) := hf
      clear HC hf hl
      gi_wp2_with (refine ⟨trivial, ?_⟩; gi_at_call 46; refine (callsIn_wide.2 HC2).mono ?_; rintro e w2 ⟨x, rfl, hb2⟩)
      refine ⟨fun f hf => (by cases hf), ?_⟩
      gi_wp2
      have hJ2 : J pre w2 := HA.out pre wr w2 none hJ (grown_below hb2 none) (fun _ e => by cases e)
      refine bodyPost_ret (results_none rfl _ _ _) rfl ?_
      exact ⟨⟨_, rfl⟩, .inl ⟨pre, by rw [← HX.out]; exact HF.out, hJ2⟩⟩
    | some y =>
      obtain ⟨x, hx⟩ : ∃ x : ByteArray, x.data.toList = y := ⟨⟨y.toArray⟩, rfl⟩
      obtain ⟨hy0, hyl⟩ := first_le hf
      have HC2 : Calls Tryd.prog 46 #[.string t] wr fun e w' => e = .returned (.tuple #[.string x, .bool true]) ∧ Below wr.heap.size wr w' := HC.mono fun e w' q => by
        obtain ⟨⟨z, h1, h3⟩, h2⟩ := q.out
        rw [hf] at h1
        have hz : z = x := by
          have h4 : z.data.toList = x.data.toList := (h3 y hf).trans hx.symm
          cases z with | mk d => cases x with | mk d2 => simp at h4; rw [h4]
        rw [hz] at h1
        exact ⟨h1, h2⟩
      have HF : Hid (firstS (s.data.toList.drop (totB pre)) = some x.data.toList) := by show _ = _; rw [← HX.out, hf, hx]
      have hxs : x.size = y.length := by rw [Lib.size_eq, hx]
      have hts : t.size = t.data.toList.length := Lib.size_eq t
      obtain ⟨t2, ht2⟩ : ∃ z : ByteArray, z.data.toList = t.data.toList.drop (8 + x.size) := ⟨⟨(t.data.toList.drop (8 + x.size)).toArray⟩, rfl⟩
      have R1 := sl_from (s := t) (x := t2) (k := 8 + x.size) (by omega) ht2
      have qe : ((8 + x.size : Nat) : Int) = 8 + (x.size : Int) := by omega
      rw [qe] at R1
      have qx : (x.size : Int) ≤ 140737488355328 := by omega
      have HN : Hid (t2.size < t.size ∧ t2.data.toList = s.data.toList.drop (totB (pre ++ [x]))) := by
        refine ⟨by rw [Lib.size_eq t2, ht2, List.length_drop]; omega, ?_⟩
        rw [ht2, HX.out, List.drop_drop, totB_snoc]
      clear HC hf hl hx hy0 hyl hxs hts ht2 qe HX
      gi_wp2_with (refine ⟨trivial, ?_⟩; gi_at_call 46; refine (callsIn_wide.2 HC2).mono ?_; rintro e w2 ⟨rfl, hb2⟩; obtain ⟨fn, tmps, assign, body, hy, hR⟩ := hY pre x w2 (HA.out pre wr w2 none hJ (grown_below hb2 none) (fun _ e => by cases e)) HF.out; dsimp only [encB] at hy)
      refine hR.mono ?_
      rintro e W3 (⟨rfl, hJ3, -, hk3⟩ | ⟨rfl, hJx3⟩)
      · have HK3 : Hid (SumT W3) := hk3
        clear hk3 HT HC2
        gi_wp2
        exact ⟨⟨pre ++ [x], t2, rfl, HN.out.2, hJ3, HK3⟩, HN.out.1⟩
      · gi_wp2
        refine bodyPost_ret (results_none rfl _ _ _) rfl ?_
        exact ⟨⟨_, rfl⟩, .inr ⟨_, hJx3⟩⟩
end Go.Proofs.YtdmiciblfbkndaaDoor

namespace Go.Proofs.YtdmiciblfbkndaaDoor
open Go.RowKit Go.Shelf
attribute [local go_sem] Oper.semAt_some

/-- The k-th part of a list of events. -/
def partV (g o n k : Nat) : Value := .slice (some ⟨g, o + 64 * k * 6, none⟩) (min 64 (n - 64 * k)) (min 64 (n - 64 * k))
abbrev encC (g o n : Nat) (k : Nat) : Array Value := #[partV g o n k]
theorem cutLo (g o n cap k : Nat) (hk : k < n) (hc : n ≤ cap) : ∀ w : World, (Instr.slice 26 (.slice (some ⟨g, o, none⟩) n cap) (some (.int .i64 (k : Int))) none none).run Tryd.prog w = .ok (.slice (some ⟨g, o + k * 6, none⟩) (n - k) (cap - k)) w := fun w => by
  have h0 : (0 : Int) ≤ (k : Int) := by omega
  have h1 : (k : Int) ≤ (n : Int) := by omega
  have e : ¬ cap = k := by omega
  simp [go_sem, Tryd.underlying26, h0, h1, e, Addr.add]
theorem cutMid (g o n cap k j : Nat) (hk : k < j) (hj : j ≤ n) (hc : n ≤ cap) : ∀ w : World, (Instr.slice 26 (.slice (some ⟨g, o, none⟩) n cap) (some (.int .i64 (k : Int))) (some (.int .i64 (j : Int))) (some (.int .i64 (j : Int)))).run Tryd.prog w = .ok (.slice (some ⟨g, o + k * 6, none⟩) (j - k) (j - k)) w := fun w => by
  have h0 : (0 : Int) ≤ (k : Int) := by omega
  have h1 : (k : Int) ≤ (j : Int) := by omega
  have h2 : (j : Int) ≤ (cap : Int) := by omega
  have e : ¬ j = k := by omega
  simp [go_sem, Tryd.underlying26, h0, h1, h2, e, Addr.add]
set_option maxHeartbeats 400000 in
theorem chunks_any (q : Option Addr) (n cap : Nat) (w : World) :
    Calls Tryd.prog 34 #[.slice q n cap, .int .i64 64] w fun e w' => e = .returned (.func (.func 53) #[] #[.pointer (some ⟨w.heap.size, 0, none⟩), .pointer (some ⟨w.heap.size + 1, 0, none⟩)]) ∧ w' = (w.alloc (.cells #[.slice q n cap] 26)).alloc (.cells #[.int .i64 64] 3) := by
  go_enter Tryd.func34, Tryd.ntmps34
  go_wp2
  go_ret
  exact ⟨rfl, rfl⟩
/-- What the iterator reads lies there. -/
structure ChK (B g o n cap : Nat) (q : Option Addr) (w : World) : Prop where
  s : w.cell? ⟨B, 0, none⟩ = some (.slice q n cap)
  k : w.cell? ⟨B + 1, 0, none⟩ = some (.int .i64 64)
theorem ChK.next {B g o n cap : Nat} {q : Option Addr} {C : Nat} {w w' : World} (h : ChK B g o n cap q w) (hb : Below C w w') (hB : B + 1 < C) : ChK B g o n cap q w' :=
  ⟨(hb.cell (p := ⟨B, 0, none⟩) (by show B < C; omega)).trans h.s, (hb.cell (p := ⟨B + 1, 0, none⟩) hB).trans h.k⟩
set_option maxRecDepth 100000 in
set_option maxHeartbeats 2000000 in
theorem chunks_seq (m : Nat) (hm : 1 ≤ m) (B g o n cap : Nat) (q : Option Addr) (w : World) (hn : n ≤ 1048576) (hc : n ≤ cap) (hq : 0 < n → q = some ⟨g, o, none⟩) (h : ChK B g o n cap q w) (hB : B + 1 < w.heap.size) :
    SeqG Fence.wide m Tryd.prog 53 #[.pointer (some ⟨B, 0, none⟩), .pointer (some ⟨B + 1, 0, none⟩)] (encC g o n) (ChK B g o n cap q)
      (fun pre x => x = pre.length ∧ 64 * x < n) (fun _ _ => True) (fun xs => n ≤ 64 * xs.length) w := fun l J Jx W hW hA _ hY h0 => by
  have hk0 : ChK B g o n cap q W := h.next hW hB
  have HA : Hid (AbidesFrom W.heap.size J) := hA
  have HK : Hid (ChK B g o n cap q W) := hk0
  clear hW h hA hk0
  refine callsIn_of_wp Tryd.func53 rfl trivial ?_ rfl
  simp only [Tryd.ntmps53, List.size_toArray, List.length_cons, List.length_nil, Nat.reduceAdd, Nat.reduceSub, Array.replicate_succ, Array.replicate_zero, List.push_toArray, List.append_toArray, List.nil_append, List.cons_append]
  gi_wp2
  gi_loopw [4] (fun v wr => ∃ pre : List Nat, v = .int .i64 ((64 * pre.length : Nat) : Int) ∧ Hid (64 * pre.length < n + 64) ∧ J pre wr ∧ Hid (ChK B g o n cap q wr)) (fun v _ => n - (intOf v).toNat)
  case atStart => exact ⟨[], rfl, by show 64 * 0 < n + 64; omega, h0, HK⟩
  case round =>
    obtain ⟨pre, rfl, HP, hJ, HKr⟩ := hrel
    clear HK
    obtain ⟨i, hi⟩ : ∃ i, 64 * pre.length = i := ⟨_, rfl⟩
    have HI : Hid (64 * pre.length = i) := hi
    simp only [hi] at HP ⊢
    have k1 := HKr.out.s
    have k2 := HKr.out.k
    by_cases hlt : i < n
    · obtain rfl := hq (by omega)
      obtain ⟨e, he⟩ : ∃ e, min 64 (n - i) = e := ⟨_, rfl⟩
      have hlt' : (i : Int) < (n : Int) := by omega
      have R1 := cutLo g o n cap i hlt hc
      have R2 := cutMid g o n cap i (i + e) (by omega) (by omega) hc
      rw [show (((i + e : Nat)) : Int) = (i : Int) + (e : Int) by omega, show i + e - i = e by omega] at R2
      have hmin : min (64 : Int) (((n - i : Nat)) : Int) = (e : Int) := by omega
      have q0 : (0 : Int) ≤ (e : Int) := by omega
      have q1 : (e : Int) ≤ 64 := by omega
      have q2 : (n : Int) ≤ 1048576 := by omega
      have q3 : (0 : Int) ≤ (i : Int) := by omega
      have hp : partV g o n pre.length = .slice (some ⟨g, o + i * 6, none⟩) e e := by unfold partV; rw [hi, he]
      have HYp : Hid (∀ W1, J pre W1 → YieldAt Fence.wide (m - 1) Tryd.prog l #[.slice (some ⟨g, o + i * 6, none⟩) e e] W1 fun e' W' => (e' = .returned (.bool true) ∧ J (pre ++ [pre.length]) W' ∧ True ∧ ChK B g o n cap (some ⟨g, o, none⟩) W') ∨ (e' = .returned (.bool false) ∧ Jx (pre ++ [pre.length]) W')) := fun W1 hJ1 => by
        have := hY pre pre.length W1 hJ1 ⟨rfl, by omega⟩
        rw [show encC g o n pre.length = #[.slice (some ⟨g, o + i * 6, none⟩) e e] from congrArg (fun v => #[v]) hp] at this
        exact this
      have hJd : J pre wr.drew := HA.out pre wr wr.drew none hJ (⟨rfl, rfl, rfl, Nat.le_refl _, fun _ _ _ => rfl⟩) (fun _ e => by cases e)
      clear hY hp he hi hq
      gi_wp2
      gi_region
      obtain ⟨fn, tmps, assign, body, hy, hR⟩ := HYp.out wr.drew hJd
      clear HYp k1 k2
      have k1 : wr.drew.cell? ⟨B, 0, none⟩ = some (.slice (some ⟨g, o, none⟩) n cap) := HKr.out.s
      gi_wp2
      refine hR.mono ?_
      rintro e' W3 (⟨rfl, hJ3, -, hk3⟩ | ⟨rfl, hJx3⟩)
      · have HK3 : Hid (ChK B g o n cap (some ⟨g, o, none⟩) W3) := hk3
        have c3 := hk3.k
        clear hk3 HKr k1
        gi_wp2
        have hpl : 64 * (pre ++ [pre.length]).length = i + 64 := by rw [List.length_append, List.length_singleton, Nat.mul_add, HI.out]
        exact ⟨⟨pre ++ [pre.length], by rw [hpl]; rfl, by show 64 * _ < _; rw [hpl]; omega, hJ3, HK3⟩, by simp [intOf]; omega⟩
      · gi_wp2
        refine bodyPost_ret (results_none rfl _ _ _) rfl ?_
        exact ⟨⟨_, rfl⟩, .inr ⟨_, hJx3⟩⟩
    · have hlt' : ¬ (i : Int) < (n : Int) := by omega
      gi_wp2
      refine bodyPost_end (results_none rfl _ _ _) rfl ?_
      exact ⟨⟨_, rfl⟩, .inl ⟨pre, by rw [HI.out]; omega, hJ⟩⟩
end Go.Proofs.YtdmiciblfbkndaaDoor
