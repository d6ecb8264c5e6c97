import Derived.Test.YtdcaonfnhdjibaaDoorVKf
import Derived.Test.YtdcaonfnhdjibaaDoorRV1
import Derived.Lib.QuietBelow
namespace Go.Proofs.YtdcaonfnhdjibaaDoor
open Go.RowKit

/-! What the document's search starts with. -/
theorem info_Kn : (Tryd.prog.info? 85).map (fun i => (i.zero, i.size, i.bytes)) = some (some (.agg #[.bool false, .bool false, .slice none 0 0]), 3, 32) := by kernel_rfl
theorem made_rk (n : Nat) : madeCells #[.bool false, .bool false, .slice none 0 0] (n * 3) = ((List.replicate n rk0).flatMap rc).toArray := by
  have hl : ((List.replicate n rk0).flatMap rc).length = n * 3 := by rw [flat_lenF rc 3 (fun _ => rfl), List.length_replicate]
  apply Array.ext
  · rw [size_madeCells]
    simp [hl]
  · intro i h1 h2
    rw [size_madeCells] at h1
    have hm : i % 3 < 3 := Nat.mod_lt _ (by omega)
    have hd : i / 3 < (List.replicate n rk0).length := by rw [List.length_replicate]; omega
    have e := flat_at rc 3 (fun _ => rfl) (List.replicate n rk0) (i / 3) (i % 3) hd hm
    rw [show i / 3 * 3 + i % 3 = i by omega, List.getElem_replicate] at e
    have e2 : ((List.replicate n rk0).flatMap rc)[i]? = some (((List.replicate n rk0).flatMap rc)[i]'(by omega)) := List.getElem?_eq_getElem (by omega)
    rw [e2] at e
    have e3 : (madeCells #[.bool false, .bool false, .slice none 0 0] (n * 3))[i] = (#[Value.bool false, .bool false, .slice none 0 0] : Array Value)[i % 3]! := by simp [madeCells]
    rw [e3, List.getElem_toArray]
    rcases (by omega : i % 3 = 0 ∨ i % 3 = 1 ∨ i % 3 = 2) with h | h | h <;> (rw [h] at e ⊢; exact (Option.some.inj (e.trans rfl)).symm)
theorem mk_known (n : Nat) (hn : n ≤ 60000) : ∀ w : World, (Instr.makeSlice 81 (.int .i64 (n : Int)) (.int .i64 (n : Int))).run Tryd.prog w = .ok (.slice (some ⟨w.heap.size, 0, none⟩) n n) (w.alloc (.cells ((List.replicate n rk0).flatMap rc).toArray 85)) := fun w => by
  have hi := info_Kn
  obtain ⟨i, hq, hi⟩ := Option.map_eq_some_iff.1 hi
  simp only [Prod.mk.injEq] at hi
  obtain ⟨hz, hs, hb⟩ := hi
  have := run_make (P := Tryd.prog) w 81 85 i _ Tryd.underlying81 hq hz .i64 .i64 (n : Int) (n : Int) (by omega) (by omega) (by rw [hb]; omega) (by omega)
  rw [Int.toNat_natCast, hs] at this
  have e : madeCells (Value.agg #[.bool false, .bool false, .slice none 0 0]).cells (n * 3) = ((List.replicate n rk0).flatMap rc).toArray := made_rk n
  rw [e] at this
  exact this
theorem stq_nil (W : World) : StQ W none 0 [] := ⟨Nat.le_refl _, fun _ => ⟨rfl, rfl⟩, fun a h => by cases h⟩
theorem rep_get {α : Type} (n j : Nat) (x : α) : (List.replicate n x).getD j x = x := by
  rw [List.getD_eq_getElem?_getD, List.getElem?_replicate]
  split <;> rfl
theorem RkM.new (w : World) (n : Nat) : RkM (w.alloc (.cells ((List.replicate n rk0).flatMap rc).toArray 85)) w.heap.size (List.replicate n none) (List.replicate n false) (List.replicate n rk0) := by
  refine ⟨by simp, by simp, ?_, fun j hj => ?_, fun j hj => ?_, fun j hj => ?_⟩
  · have := Full.new w ((List.replicate n rk0).flatMap rc).toArray 85
    exact this
  · rw [rep_get, rep_get]; rfl
  · rw [rep_get, rep_get]
  · have e : stkAt (List.replicate n none) j = [] := by unfold stkAt; rw [rep_get]; rfl
    rw [rep_get, e]
    exact ⟨none, 0, rfl, stq_nil _, fun a h => by cases h⟩
/-- A function's first place, known. -/
theorem RkM.begin {W : World} {g : Nat} {K : Kn} {Lk : List Bool} {R : List Rk} (h : RkM W g K Lk R) (j : Nat) (hj : j < R.length) : ∃ R', RkM (((W.setCell ⟨g, j * 3, none⟩ (.bool true)).setCell ⟨g, j * 3 + 1, none⟩ (.bool false)).setCell ⟨g, j * 3 + 2, none⟩ (.slice none 0 0)) g (K.set j (some [])) (Lk.set j false) R' ∧ R'.length = R.length := by
  have hjK : j < K.length := by rw [← h.kl]; exact hj
  have hjL : j < Lk.length := by rw [← h.ll]; exact hj
  refine ⟨R.set j (true, false, .slice none 0 0), ⟨by rw [List.length_set, List.length_set]; exact h.kl, by rw [List.length_set, List.length_set]; exact h.ll, ?_, fun i hi => ?_, fun i hi => ?_, fun i hi => ?_⟩, List.length_set ..⟩
  · have h1 := h.fl.setK (k := j * 3 + 0) (.bool true)
    rw [rc_set (.bool true) 0 (by omega) (true, (R.getD j rk0).2.1, (R.getD j rk0).2.2) R j hj rfl] at h1
    have h2 := h1.setK (k := j * 3 + 1) (.bool false)
    rw [rc_set (.bool false) 1 (by omega) (true, false, (R.getD j rk0).2.2) _ j (by rw [List.length_set]; exact hj) (by rw [rk_get, if_pos ⟨rfl, hj⟩]; rfl), List.set_set] at h2
    have h3 := h2.setK (k := j * 3 + 2) (.slice none 0 0)
    rw [rc_set (.slice none 0 0) 2 (by omega) (true, false, .slice none 0 0) _ j (by rw [List.length_set]; exact hj) (by rw [rk_get, if_pos ⟨rfl, hj⟩]; rfl), List.set_set] at h3
    exact h3
  · rw [List.length_set] at hi
    rw [rk_get, set_getD]
    by_cases e : j = i
    · rw [if_pos ⟨e, hj⟩, if_pos ⟨e, hjK⟩]; rfl
    · rw [if_neg (fun q => e q.1), if_neg (fun q => e q.1)]
      exact h.is i hi
  · rw [List.length_set] at hi
    rw [rk_get, setB_getD]
    by_cases e : j = i
    · rw [if_pos ⟨e, hj⟩, if_pos ⟨e, hjL⟩]
    · rw [if_neg (fun q => e q.1), if_neg (fun q => e q.1)]
      exact h.lk i hi
  · rw [List.length_set] at hi
    rw [rk_get]
    by_cases e : j = i
    · have e2 : stkAt (K.set j (some [])) i = [] := by unfold stkAt; rw [set_getD, if_pos ⟨e, hjK⟩]; rfl
      rw [if_pos ⟨e, hj⟩, e2]
      exact ⟨none, 0, rfl, stq_nil _, fun a h => by cases h⟩
    · have e2 : stkAt (K.set j (some [])) i = stkAt K i := by unfold stkAt; rw [set_getD, if_neg (fun q => e q.1)]
      rw [if_neg (fun q => e q.1), e2]
      obtain ⟨q', cap', e1, hs', hn'⟩ := h.st i hi
      exact ⟨q', cap', e1, ((hs'.other hn').other hn').other hn', hn'⟩
end Go.Proofs.YtdcaonfnhdjibaaDoor
namespace Go.Proofs.YtdcaonfnhdjibaaDoor
open Go.RowKit

/-! The document's all. -/
def AllR (w w' : World) (c : Cd) (z : Ending) : Except (Int × Int) Kn → Prop
  | .error k => z = .returned (.tuple #[.slice none 0 0, .int .i64 k.1, .int .i64 k.2]) ∧ Below w.heap.size w w'
  | .ok K => ∃ g R Lk, z = .returned (.tuple #[.slice (some ⟨g, 0, none⟩) c.ins.length c.ins.length, .int .i64 0, .int .i64 0]) ∧ RkM w' g K Lk R ∧ R.length = c.ins.length ∧ w.heap.size ≤ g ∧ Below w.heap.size w w'
structure AI (w wr : World) (g : Nat) (X : List Value) (c : Cd) (f : Nat) (K : Kn) (T : Except (Int × Int) Kn) : Prop where
  b : Below w.heap.size w wr
  x : Full wr w.heap.size 26 X
  rk : ∃ Lk R, RkM wr g K Lk R ∧ R.length = c.ins.length ∧ ∀ j : Nat, Lk.getD j false = true → K.getD j none ≠ none
  pre : Pre c f K
  so : All SOk K
  eqn : fnsS c f (c.ens.length - f) K = T
  gl : w.heap.size + 1 ≤ g
structure BI (w wr : World) (g : Nat) (X : List Value) (c : Cd) (f n : Nat) (st : Vst) (P : Except (Int × Int) Kn) : Prop where
  b : Below w.heap.size w wr
  x : Full wr w.heap.size 26 X
  rk : ∃ Lk R, RkM wr g st.1 Lk R ∧ R.length = c.ins.length ∧ RI (enAt c.ens f).start (endS c f) st Lk
  wl : Wl (enAt c.ens f) (endS c f) st
  so : All SOk st.1
  lf : lft st < n
  eqn : pieceS c (enAt c.ens f) (endS c f) n st = P
  gl : w.heap.size + 1 ≤ g
theorem all_len {K : Kn} (h : All SOk K) (j : Nat) : (stkAt K j).length ≤ 400 := by
  unfold stkAt
  cases hk : K.getD j none with
  | none => simp
  | some s => exact (h j s hk).len
/-- A function's search begins. -/
theorem AI.begin {w wr : World} {g : Nat} {X : List Value} {c : Cd} {f : Nat} {K : Kn} {T : Except (Int × Int) Kn} (h : AI w wr g X c f K T) (hc : CodeOk c) (hf : f < c.ens.length) (p : Nat) (hp : (enAt c.ens f).start = (p : Int)) :
    BI w (((wr.setCell ⟨g, p * 3, none⟩ (.bool true)).setCell ⟨g, p * 3 + 1, none⟩ (.bool false)).setCell ⟨g, p * 3 + 2, none⟩ (.slice none 0 0)) g X c f (c.ins.length + 1) (K.set p (some []), pushH [] (p : Int)) (fnS c f K) := by
  obtain ⟨Lk, R, hR, hn, hl⟩ := h.rk
  obtain ⟨p1, p2, p3⟩ := piece_ok hc hf
  have hpl : p < R.length := by rw [hn]; omega
  obtain ⟨R', hR', hn'⟩ := hR.begin p hpl
  have ne : w.heap.size ≠ g := by have := h.gl; omega
  have hg : w.heap.size ≤ g := by have := h.gl; omega
  have hI := RI.start h.pre hc hf (by rw [← hR.ll, hR.kl]) hl
  have hw := h.pre.wl hc hf
  have hlf := h.pre.lft hc hf
  rw [hp, Int.toNat_natCast] at hI hw hlf
  refine ⟨((h.b.setCell (p := ⟨g, p * 3, none⟩) hg _).setCell (p := ⟨g, p * 3 + 1, none⟩) hg _).setCell (p := ⟨g, p * 3 + 2, none⟩) hg _, ((h.x.other1 ne).other1 ne).other1 ne, ⟨Lk.set p false, R', hR', hn'.trans hn, by rw [hp]; exact hI⟩, hw, fun i s hs => ?_, hlf, by unfold fnS; rw [hp, Int.toNat_natCast], h.gl⟩
  rw [set_getD] at hs
  split at hs
  · cases hs; exact sok_nil
  · exact h.so i s hs
theorem left_begin {lo hi : Int} {K : Kn} {Lk : List Bool} {p : Int} (h : RI lo hi (K, pushH [] p) Lk) : leftV (K, pushH [] p) = p := by
  have ho : pushH [] p ≠ [] := fun e => by have := push_len [] p; rw [e] at this; cases this
  have := (h.top ho).1
  rw [leftV, if_neg ho]
  rcases (push_mem [] p _).1 this with e | e
  · exact e
  · cases e
end Go.Proofs.YtdcaonfnhdjibaaDoor
