import Derived.Test.YtdcaonfnhdjibaaDoorVPe
import Derived.Test.YtdcaonfnhdjibaaDoorVLk
import Derived.Test.YtdcaonfnhdjibaaDoorVM1
import Derived.Laws.MakeOwn
import Derived.Laws.OwnMore
namespace Go.Proofs.YtdcaonfnhdjibaaDoor
open Go.RowKit

theorem eff16 : Eff16 := fun _ _ _ _ _ _ _ _ _ _ _ _ _ _ _ _ _ _ _ _ _ _ _ _ _ k hn P hs => eff_16 k hn P hs
section
variable {w w' : World} {B : Nat} {iq eq tq : Option Addr} {Es : List Em} {c : Cd}
theorem code_ent (m : CodeM w B iq eq tq Es c) (i : Nat) (hi' : i < c.ens.length) : ∃ g o dq dc, eq = some ⟨g, o, none⟩ ∧ g < B ∧ w.rangeAt g (o + i * 5) [.string (enAt c.ens i).name, .int .i64 (enAt c.ens i).start, .int .i64 (enAt c.ens i).params, .slice dq (enAt c.ens i).sorts.length dc, .int .i64 (enAt c.ens i).result] ∧ Row w B dq (enAt c.ens i).sorts.length (sv (enAt c.ens i).sorts) ∧ ∃ y ∈ Es, y.1 = enAt c.ens i ∧ y.2 = (dq, dc) := by
  have hl : Es.length = c.ens.length := m.len
  have hiE : i < Es.length := by omega
  obtain ⟨g, o, h1, h2, h3⟩ := m.er (by omega)
  have hm := List.getElem_mem hiE
  have ee : Es[i].1 = enAt c.ens i := by
    unfold enAt
    rw [← m.en, List.getD_eq_getElem?_getD, List.getElem?_map, List.getElem?_eq_getElem hiE]
    rfl
  refine ⟨g, o, Es[i].2.1, Es[i].2.2, h1, h2, fun j v hv => ?_, ?_, Es[i], hm, ee, rfl⟩
  · have hj : j < 5 := (List.getElem?_eq_some_iff.1 hv).1
    have e1 := flat_at ec 5 (fun _ => rfl) Es i j hiE hj
    rw [← ee] at hv
    have := h3 (i * 5 + j) v (e1.trans hv)
    rw [← Nat.add_assoc] at this
    exact this
  · rw [← ee]
    exact (m.sr _ hm).1
/-- A code's cells. -/
abbrev cdC (iq eq tq : Option Addr) (ia ea ta : Nat) (c : Cd) : Array Value := #[.slice iq c.ins.length ia, .slice eq c.ens.length ea, .slice tq c.txs.length ta, .int .i64 c.main]
set_option maxRecDepth 100000 in
set_option maxHeartbeats 4000000 in
theorem pieceEnd_any (m : CodeM w B iq eq tq Es c) (hc : CodeOk c) (ia ea ta : Nat) (hB : B ≤ w.heap.size) (f : Nat) (hf : f < c.ens.length) :
    Calls Tryd.prog 42 #[codeV iq eq tq ia ea ta c, .int .i64 (f : Int)] w fun z w' => z = .returned (.int .i64 (endS c f)) ∧ Below w.heap.size w w' := by
  obtain ⟨R, HR⟩ : ∃ R, Hid (endS c f = R) := ⟨_, (rfl : endS c f = _)⟩
  rw [HR.out]
  have B1 : Below w.heap.size w (w.alloc (.cells #[.slice iq c.ins.length ia, .slice eq c.ens.length ea, .slice tq c.txs.length ta, .int .i64 c.main] 26)) := (Below.refl _ w).alloc (Nat.le_refl _) _
  have x0 := (cells_new w #[.slice iq c.ins.length ia, .slice eq c.ens.length ea, .slice tq c.txs.length ta, .int .i64 c.main] 26 0 (.slice iq c.ins.length ia) rfl).1
  have x1 := (cells_new w #[.slice iq c.ins.length ia, .slice eq c.ens.length ea, .slice tq c.txs.length ta, .int .i64 c.main] 26 1 (.slice eq c.ens.length ea) rfl).1
  have m1 := m.below B1 hB
  obtain ⟨f1, hf1⟩ : ∃ f1 : Nat, f1 = f + 1 := ⟨_, rfl⟩
  have hel := hc.el
  have hw : IntKind.i64.wrap ((f : Int) + 1) = (f1 : Int) := by rw [IntKind.wrap_i64]; omega
  unfold codeV
  by_cases hlt : f1 < c.ens.length
  · obtain ⟨g, o, dq, dc, rfl, hg, hr, -⟩ := code_ent m1 f1 hlt
    have r1 := hr 1 _ rfl
    have a0 : (0 : Int) ≤ (f1 : Int) := by omega
    have a1 : (f1 : Int) < (c.ens.length : Int) := by omega
    have HE : Hid ((enAt c.ens f1).start = R) := by show _ = R; rw [← HR.out]; unfold endS; rw [if_pos (by omega), hf1]
    rw [HE.out] at r1
    clear HR m m1 hc hB hr hg hlt hf1 hel hf
    go_enter Tryd.func42, Tryd.ntmps42
    go_upto_region 1 with fail
    generalize w.alloc (.cells #[.slice iq c.ins.length ia, .slice (some ⟨g, o, none⟩) c.ens.length ea, .slice tq c.txs.length ta, .int .i64 c.main] 26) = X at *
    go_wp2
    go_ret
    exact ⟨rfl, B1⟩
  · have a1 : ¬ ((f1 : Int) < (c.ens.length : Int)) := by omega
    have HE : Hid ((c.ins.length : Int) = R) := by show _ = R; rw [← HR.out]; unfold endS; rw [if_neg (by omega)]
    clear HR m m1 hc hB hlt hf1 hel hf
    go_enter Tryd.func42, Tryd.ntmps42
    go_upto_region 1 with fail
    generalize w.alloc (.cells #[.slice iq c.ins.length ia, .slice eq c.ens.length ea, .slice tq c.txs.length ta, .int .i64 c.main] 26) = X at *
    go_wp2
    go_ret
    exact ⟨by rw [← HE.out]; rfl, B1⟩
theorem fn_sok {f : Nat} {K K1 : Kn} (h : Pre c f K) (hc : CodeOk c) (hf : f < c.ens.length) (hk : fnS c f K = .ok K1) (hA : All SOk K) : All SOk K1 := by
  obtain ⟨p1, p2, p3⟩ := piece_ok hc hf
  refine pc_all (fun i s s' a b d k => eff_sok b (ent_ok.1 (hc.es _ (en_mem hf))) (hc.is _ (ins_mem (by omega))) (fun e he => ent_ok.1 (hc.es e he)) d k) _ (h.wl hc hf) hk (fun i s d => ?_)
  rw [set_getD] at d
  split at d
  · cases d; exact sok_nil
  · exact hA i s d
theorem info_St : (Tryd.prog.info? 72).map (fun i => (i.zero, i.size, i.bytes)) = some (some (.slice none 0 0), 1, 24) := by kernel_rfl
theorem mk_stacks (n : Nat) (hn : n ≤ 60000) : ∀ w : World, (Instr.makeSlice 70 (.int .i64 (n : Int)) (.int .i64 (n : Int))).run Tryd.prog w = .ok (.slice (some ⟨w.heap.size, 0, none⟩) n n) (w.alloc (.cells (List.replicate n (.slice none 0 0)).toArray 72)) := fun w => by
  have hi := info_St
  obtain ⟨i, hq, hi⟩ := Option.map_eq_some_iff.1 hi
  simp only [Prod.mk.injEq] at hi
  obtain ⟨hz, hs, hb⟩ := hi
  have := run_make (P := Tryd.prog) w 70 72 i _ Tryd.underlying70 hq hz .i64 .i64 (n : Int) (n : Int) (by omega) (by omega) (by rw [hb]; omega) (by omega)
  rw [Int.toNat_natCast, hs, Nat.mul_one] at this
  have e : madeCells (Value.slice none 0 0).cells n = (List.replicate n (Value.slice none 0 0)).toArray := by
    rw [← toList_madeCells_one, Array.toArray_toList]
    rfl
  rw [e] at this
  exact this
/-- What survey answers and leaves. -/
def SurR (w : World) (c : Cd) (R : Except (Int × Int) Kn) (z : Ending) (w' : World) : Prop :=
  match R with
  | .error k => z = rfs k.1 k.2 ∧ Below w.heap.size w w'
  | .ok K => ∃ kg ks, z = .returned (.slice (some ⟨kg, 0, none⟩) c.ins.length c.ins.length) ∧ KnM w' kg K ks ∧ w.heap.size ≤ kg ∧ Below w.heap.size w w'
theorem kn_new (w : World) (n : Nat) : KnM (w.alloc (.cells (List.replicate n (Value.slice none 0 0)).toArray 72)) w.heap.size (List.replicate n none) (List.replicate n (.slice none 0 0)) := by
  refine ⟨Full.new w _ _, by simp, fun i hi _ => ?_, fun i s hs => ?_⟩
  · rw [List.length_replicate] at hi
    rw [List.getElem?_replicate, if_pos hi]
  · rw [List.getD_eq_getElem?_getD, List.getElem?_replicate] at hs
    split at hs <;> cases hs
end
end Go.Proofs.YtdcaonfnhdjibaaDoor
