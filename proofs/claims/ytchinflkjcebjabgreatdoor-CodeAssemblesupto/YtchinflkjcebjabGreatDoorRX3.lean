import Derived.Test.YtchinflkjcebjabGreatDoorRX2
import Derived.Test.YtchinflkjcebjabGreatDoorCSq
import Derived.Deep.CutBlock
import Derived.Deep.DeepCutAuto
namespace Go.Proofs.YtchinflkjcebjabGreatDoor
open Go.RowKit

abbrev bdv (iq eq tq : Option Addr) (ia ea ta : Nat) (s : St) : Array Value := #[.slice iq s.c.ins.length ia, .slice eq s.c.ens.length ea, .slice tq s.c.txs.length ta, .int .i64 s.c.main, .bool s.begun]
/-- The assembler in memory. -/
structure Bd (W : World) (b ab : Nat) (s : St) (iq eq tq : Option Addr) (ia ea ta : Nat) (Es : List Em) : Prop where
  box : W.heap[ab]? = some (.cells (bdv iq eq tq ia ea ta s) 94)
  rows : Rows W b (.slice iq s.c.ins.length ia) (.slice eq s.c.ens.length ea) (.slice tq s.c.txs.length ta) s.c.ins Es s.c.txs
  en : Es.map (·.1) = s.c.ens
  lb : b ≤ ab
  l1 : s.c.ens.length ≤ 60
  l2 : s.c.ins.length ≤ 60000
  l3 : s.c.txs.length ≤ 4000
theorem Bd.lt {W : World} {b ab : Nat} {s : St} {iq eq tq : Option Addr} {ia ea ta : Nat} {Es : List Em} (h : Bd W b ab s iq eq tq ia ea ta Es) : ab < W.heap.size := (Array.getElem?_eq_some_iff.1 h.box).1
theorem Bd.next {W W' : World} {b ab : Nat} {s : St} {iq eq tq : Option Addr} {ia ea ta : Nat} {Es : List Em} (h : Bd W b ab s iq eq tq ia ea ta Es) (k : Below W.heap.size W W') : Bd W' b ab s iq eq tq ia ea ta Es := ⟨(k.block _ h.lt).trans h.box, h.rows.next k, h.en, h.lb, h.l1, h.l2, h.l3⟩
theorem Bd.entAt {W : World} {b ab : Nat} {s : St} {iq eq tq : Option Addr} {ia ea ta : Nat} {Es : List Em} (h : Bd W b ab s iq eq tq ia ea ta Es) (k : Nat) (hk : k < s.c.ens.length) : ∃ g, eq = some ⟨g, 0, none⟩ ∧ g < W.heap.size ∧ W.cell? ⟨g, k * 5 + 1, none⟩ = some (.int .i64 (enAt s.c.ens k).start) := by
  have hl : Es.length = s.c.ens.length := by rw [← h.en, List.length_map]
  obtain ⟨q', cap', hv, _, hr⟩ := own_slice h.rows.er
  obtain ⟨g, hq, hg⟩ := hr (by omega)
  obtain rfl := (Value.slice.inj hv).1
  subst hq
  refine ⟨g, rfl, (own_blk h.rows.er g rfl).lt, ?_⟩
  have e := flat_at ec 5 (fun _ => rfl) Es k 1 (by omega) (by decide)
  have := hg (k * 5 + 1) (.int .i64 (Es[k]'(by omega)).1.start) (e.trans rfl)
  rw [Nat.zero_add] at this
  rw [this]
  congr 2
  unfold enAt
  rw [← h.en, List.getD_eq_getElem?_getD, List.getElem?_map, List.getElem?_eq_getElem (by omega)]
  rfl
def BdX (W : World) (b ab : Nat) (s : St) : Prop := ∃ iq eq tq ia ea ta Es, Bd W b ab s iq eq tq ia ea ta Es
theorem BdX.next {W W' : World} {b ab : Nat} {s : St} (h : BdX W b ab s) (k : Below W.heap.size W W') : BdX W' b ab s := by
  obtain ⟨iq, eq, tq, ia, ea, ta, Es, h⟩ := h
  exact ⟨iq, eq, tq, ia, ea, ta, Es, h.next k⟩
theorem Rows.setB {W : World} {b p j : Nat} {C : Array Value} {iv ev' tv' : Value} {ins : List In} {Es : List Em} {txs : List ByteArray} (h : Rows W b iv ev' tv' ins Es txs) (hp : W.heap[p]? = some (.cells C 94)) (u : Value) : Rows (W.setCell ⟨p, j, Option.none⟩ u) b iv ev' tv' ins Es txs := h.keep fun g t n hb ht => set_heap (a := ⟨p, j, Option.none⟩) (fun q => by
    have q' : g = p := q
    subst q'
    have hr : Blk W g 94 C.size := ⟨_, hp, Nat.le_refl _⟩
    refine hb.ne hr ?_ rfl
    rcases ht with e | e | e | e <;> (subst e; decide))
theorem Bd.main {W : World} {b ab : Nat} {s : St} {iq eq tq : Option Addr} {ia ea ta : Nat} {Es : List Em} (h : Bd W b ab s iq eq tq ia ea ta Es) (m : Int) : Bd (W.setCell ⟨ab, 3, none⟩ (.int .i64 m)) b ab ⟨{ s.c with main := m }, s.begun⟩ iq eq tq ia ea ta Es :=
  ⟨set_blk h.box (.int .i64 m), h.rows.setB h.box _, h.en, h.lb, h.l1, h.l2, h.l3⟩
theorem Bd.begin {W : World} {b ab : Nat} {s : St} {iq eq tq : Option Addr} {ia ea ta : Nat} {Es : List Em} (h : Bd W b ab s iq eq tq ia ea ta Es) : Bd (W.setCell ⟨ab, 4, none⟩ (.bool true)) b ab ⟨s.c, true⟩ iq eq tq ia ea ta Es :=
  ⟨set_blk h.box (.bool true), h.rows.setB h.box _, h.en, h.lb, h.l1, h.l2, h.l3⟩
theorem Bd.boxB {W W' : World} {b ab : Nat} {s : St} {iq eq tq : Option Addr} {ia ea ta : Nat} {Es : List Em} (h : Bd W b ab s iq eq tq ia ea ta Es) {D : Obj} {e : TypeId} {sz : Nat} {v : Value} {n : Nat} {xs : List Value} (ho : W.ownsRow b e sz v n xs) (he : 94 ≠ e) (hg : (W.alloc D).grownBy W' v.ownBlock) : W'.heap[ab]? = some (.cells (bdv iq eq tq ia ea ta s) 94) :=
  (hg.block ab (by have := h.lt; simp; omega) (fun q => own_ne ho (b := ab) (t := 94) (m := 5) ⟨_, h.box, Nat.le_refl _⟩ he q.symm)).trans ((Below.heap_alloc _ _ _ h.lt).trans h.box)
theorem Bd.appT {W W' : World} {b ab : Nat} {s : St} {iq eq tq : Option Addr} {ia ea ta : Nat} {Es : List Em} (h : Bd W b ab s iq eq tq ia ea ta Es) {D : Obj} {t : ByteArray} {q4 : Option Addr} {c4 : Nat} (hg : (W.alloc D).grownBy W' (Value.slice tq s.c.txs.length ta).ownBlock) (ho : W'.ownsRow b 9 1 (.slice q4 (s.c.txs.length + 1) c4) (s.c.txs.length + 1) (tv s.c.txs ++ [.string t])) (hl : s.c.txs.length < 4000) : Bd (W'.setCell ⟨ab, 2, none⟩ (.slice q4 (s.c.txs.length + 1) c4)) b ab ⟨{ s.c with txs := s.c.txs ++ [t] }, s.begun⟩ iq eq q4 ia ea c4 Es := by
  have hb := h.boxB h.rows.tr (by decide) hg
  have e : (s.c.txs ++ [t]).length = s.c.txs.length + 1 := by simp
  refine ⟨?_, ?_, h.en, h.lb, h.l1, h.l2, by show (s.c.txs ++ [t]).length ≤ _; omega⟩
  · show _ = some (Obj.cells #[_, _, .slice q4 (s.c.txs ++ [t]).length c4, _, _] _)
    rw [e]
    exact set_blk hb _
  · show Rows _ _ _ _ (.slice q4 (s.c.txs ++ [t]).length c4) _ _ (s.c.txs ++ [t])
    rw [e]
    exact (h.rows.appT t D hg ho).setB hb _
theorem Bd.appI {W W' : World} {b ab : Nat} {s : St} {iq eq tq : Option Addr} {ia ea ta : Nat} {Es : List Em} (h : Bd W b ab s iq eq tq ia ea ta Es) {D : Obj} {x : In} {q4 : Option Addr} {c4 : Nat} (hg : (W.alloc D).grownBy W' (Value.slice iq s.c.ins.length ia).ownBlock) (ho : W'.ownsRow b 46 3 (.slice q4 (s.c.ins.length + 1) c4) (s.c.ins.length + 1) (s.c.ins.flatMap ic ++ ic x)) (hl : s.c.ins.length < 60000) : Bd (W'.setCell ⟨ab, 0, none⟩ (.slice q4 (s.c.ins.length + 1) c4)) b ab ⟨{ s.c with ins := s.c.ins ++ [x] }, s.begun⟩ q4 eq tq c4 ea ta Es := by
  have hb := h.boxB h.rows.ir (by decide) hg
  have e : (s.c.ins ++ [x]).length = s.c.ins.length + 1 := by simp
  refine ⟨?_, ?_, h.en, h.lb, h.l1, by show (s.c.ins ++ [x]).length ≤ _; omega, h.l3⟩
  · show _ = some (Obj.cells #[.slice q4 (s.c.ins ++ [x]).length c4, _, _, _, _] _)
    rw [e]
    exact set_blk hb _
  · show Rows _ _ (.slice q4 (s.c.ins ++ [x]).length c4) _ _ (s.c.ins ++ [x]) _ _
    rw [e]
    exact (h.rows.appI x D hg ho).setB hb _
theorem Bd.appE {W W' : World} {b ab : Nat} {s : St} {iq eq tq : Option Addr} {ia ea ta : Nat} {Es : List Em} (h : Bd W b ab s iq eq tq ia ea ta Es) {D : Obj} {x : Em} {q4 : Option Addr} {c4 : Nat} (hg : (W.alloc D).grownBy W' (Value.slice eq s.c.ens.length ea).ownBlock) (ho : W'.ownsRow b 50 5 (.slice q4 (s.c.ens.length + 1) c4) (s.c.ens.length + 1) (Es.flatMap ec ++ ec x)) (hx : W.ownsRow b 48 1 (.slice x.2.1 x.1.sorts.length x.2.2) x.1.sorts.length (sv x.1.sorts)) (hl : s.c.ens.length < 60) : Bd (W'.setCell ⟨ab, 1, none⟩ (.slice q4 (s.c.ens.length + 1) c4)) b ab ⟨{ s.c with ens := s.c.ens ++ [x.1] }, s.begun⟩ iq q4 tq ia c4 ta (Es ++ [x]) := by
  have hb := h.boxB h.rows.er (by decide) hg
  have e : (s.c.ens ++ [x.1]).length = s.c.ens.length + 1 := by simp
  have eL : Es.length = s.c.ens.length := by rw [← h.en, List.length_map]
  refine ⟨?_, ?_, by show _ = s.c.ens ++ [x.1]; rw [List.map_append, h.en]; rfl, h.lb, by show (s.c.ens ++ [x.1]).length ≤ _; omega, h.l2, h.l3⟩
  · show _ = some (Obj.cells #[_, .slice q4 (s.c.ens ++ [x.1]).length c4, _, _, _] _)
    rw [e]
    exact set_blk hb _
  · show Rows _ _ _ (.slice q4 (s.c.ens ++ [x.1]).length c4) _ _ _ _
    rw [e]
    exact (h.rows.appE x D hg (by rw [eL]; exact ho) hx).setB hb _
/-- A line's tokens in memory. -/
structure Tks (w : World) (B : Nat) (q : Option Addr) (n : Nat) (T : List Tk) : Prop where
  len : n = T.length
  row : Row w B q n (tkV T)
  sz : ∀ t ∈ T, t.1.length ≤ 1048576
  big : n ≤ 1048576
theorem Tks.below {w w' : World} {B D : Nat} {q : Option Addr} {n : Nat} {T : List Tk} (h : Tks w B q n T) (hb : Below D w w') (hD : B ≤ D) : Tks w' B q n T := ⟨h.len, h.row.below hb hD, h.sz, h.big⟩
theorem Tks.up {w : World} {B C : Nat} {q : Option Addr} {n : Nat} {T : List Tk} (h : Tks w B q n T) (hC : B ≤ C) : Tks w C q n T := ⟨h.len, h.row.up hC, h.sz, h.big⟩
theorem Tks.at {w : World} {B : Nat} {q : Option Addr} {n : Nat} {T : List Tk} (h : Tks w B q n T) (i : Nat) (hi : i < n) : ∃ g o, q = some ⟨g, o, none⟩ ∧ g < B ∧ w.cell? ⟨g, o + i * 2, none⟩ = some (.string (YtchinflkjcebjabGreatDoor.bk (tAt T i).1)) ∧ w.cell? ⟨g, o + i * 2 + 1, none⟩ = some (.bool (tAt T i).2) := by
  obtain ⟨g, o, e, hg, hc⟩ := row_get h.row i hi
  have hl : i < T.length := by rw [← h.len]; exact hi
  have et : tAt T i = T[i] := by unfold tAt; rw [List.getD_eq_getElem?_getD, List.getElem?_eq_getElem hl]; rfl
  have f0 := flat_at tkC 2 (fun _ => rfl) T i 0 hl (by decide)
  have f1 := flat_at tkC 2 (fun _ => rfl) T i 1 hl (by decide)
  refine ⟨g, o, e, hg, ?_, ?_⟩
  · have := hc (i * 2 + 0) _ f0
    rw [et]
    exact this
  · have := hc (i * 2 + 1) _ f1
    rw [et, Nat.add_assoc]
    exact this
theorem Tks.szAt {w : World} {B : Nat} {q : Option Addr} {n : Nat} {T : List Tk} (h : Tks w B q n T) (i : Nat) : (tAt T i).1.length ≤ 1048576 := by
  unfold tAt
  by_cases hl : i < T.length
  · rw [List.getD_eq_getElem?_getD, List.getElem?_eq_getElem hl]; exact h.sz _ (List.getElem_mem hl)
  · rw [List.getD_eq_getElem?_getD, List.getElem?_eq_none (by omega)]; show (0 : Nat) ≤ _; omega
set_option maxRecDepth 100000 in
set_option maxHeartbeats 2000000 in
theorem rempty_any {W : World} {b ab : Nat} {s : St} {iq eq tq : Option Addr} {ia ea ta : Nat} {Es : List Em} (h : Bd W b ab s iq eq tq ia ea ta Es) :
    Calls Tryz.prog 54 #[.pointer (some ⟨ab, 0, none⟩)] W fun e w' => e = .returned (.bool (bareS s.c)) ∧ Below W.heap.size W w' := by
  obtain ⟨R, HR⟩ : ∃ R, Hid (R = bareS s.c) := ⟨_, rfl⟩
  rw [← HR.out]
  obtain ⟨x0, -⟩ := blk_cell h.box 0 (.slice iq s.c.ins.length ia) rfl
  obtain ⟨x1, -⟩ := blk_cell h.box 1 (.slice eq s.c.ens.length ea) rfl
  have hU : R = (decide (0 < s.c.ens.length) && (enAt s.c.ens (s.c.ens.length - 1)).start == (s.c.ins.length : Int)) := HR.out
  have l1 := h.l1
  have l2 := h.l2
  rcases Nat.eq_zero_or_pos s.c.ens.length with hz | hp
  · have HF : Hid (R = false) := by show R = false; rw [hU, hz]; rfl
    have k1 : decide (0 < s.c.ens.length) = false := decide_eq_false (by omega)
    have y0 := cell_regrown x0
    have y1 := cell_regrown x1
    clear h hU HR hz l1 l2
    generalize s.c.ens.length = n at *
    generalize s.c.ins.length = m at *
    go_enter Tryz.func54, Tryz.ntmps54
    go_upto_region 2 with fail
    go_wp2_with fail
    refine wp_region_quiet_below (by kernel_rfl) (by kernel_rfl) ?_
    repeat (first | go_big_quiet_step (first | fail) | quiet_step (first | fail))
    refine wpQuiet_nil ?_
    intro _ hw'
    obtain ⟨⟨dq, osq⟩, hw''⟩ := hw'
    subst hw''
    have hY := below_regrown W dq osq
    change Exit.then _ _ Exit.normal _ (Sort.grow (redrawn W dq) osq)
    generalize Sort.grow (redrawn W dq) osq = Y at hY ⊢
    go_wp2
    go_ret
    exact ⟨by rw [HF.out]; rfl, hY⟩
  · obtain ⟨g, rfl, hg, c0⟩ := h.entAt (s.c.ens.length - 1) (by omega)
    have k1 : IntKind.i64.wrap ((s.c.ens.length : Int) - 1) = ((s.c.ens.length - 1 : Nat) : Int) := by rw [IntKind.wrap_i64]; omega
    have HF : Hid (R = ((enAt s.c.ens (s.c.ens.length - 1)).start == (s.c.ins.length : Int))) := by show R = _; rw [hU, decide_eq_true hp]; rfl
    have k2 : (0 : Int) ≤ ((s.c.ens.length - 1 : Nat) : Int) := by omega
    have k4 : decide (0 < s.c.ens.length) = true := decide_eq_true (by omega)
    have k3 : ((s.c.ens.length - 1 : Nat) : Int) < (s.c.ens.length : Int) := by omega
    have y0 := cell_regrown x0
    have y1 := cell_regrown x1
    have yc := cell_regrown c0
    clear h hU HR hp l1 l2 hg
    generalize (enAt s.c.ens (s.c.ens.length - 1)).start = st at *
    generalize s.c.ens.length - 1 = k at *
    generalize s.c.ens.length = n at *
    generalize s.c.ins.length = m at *
    go_enter Tryz.func54, Tryz.ntmps54
    go_upto_region 2 with fail
    go_wp2_with fail
    refine wp_region_quiet_below (by kernel_rfl) (by kernel_rfl) ?_
    repeat (first | go_big_quiet_step (first | fail) | quiet_step (first | fail))
    refine wpQuiet_nil ?_
    intro _ hw'
    obtain ⟨⟨dq, osq⟩, hw''⟩ := hw'
    subst hw''
    have hY := below_regrown W dq osq
    change Exit.then _ _ Exit.normal _ (Sort.grow (redrawn W dq) osq)
    generalize Sort.grow (redrawn W dq) osq = Y at hY ⊢
    go_wp2
    go_ret
    exact ⟨by rw [HF.out]; rfl, hY⟩
end Go.Proofs.YtchinflkjcebjabGreatDoor
namespace Go.Proofs.YtchinflkjcebjabGreatDoor
open Go.RowKit

theorem callA (a : Value) (w : World) : (callFunc 38 #[a]).run Tryz.prog w = .ok (.enter 38 #[a]) w := by kernel_rfl
theorem callB (a : Value) (w : World) : (callFunc 39 #[a]).run Tryz.prog w = .ok (.enter 39 #[a]) w := by kernel_rfl
theorem callRd (a b : Value) (w : World) : (callFunc 104 #[a, b]).run Tryz.prog w = .ok (.enter 104 #[a, b]) w := by kernel_rfl
/-- An instruction that is being made. -/
structure Xi (W wx : World) (p : Nat) (C : Array Value) : Prop where
  b : Below W.heap.size W wx
  c : wx.heap[p]? = some (.cells C 46)
  l : W.heap.size ≤ p
theorem Xi.next {W wx wy : World} {p : Nat} {C : Array Value} (h : Xi W wx p C) (k : Below wx.heap.size wx wy) : Xi W wy p C := ⟨below2 h.b k, (k.block _ (Array.getElem?_eq_some_iff.1 h.c).1).trans h.c, h.l⟩
theorem Xi.set {W wx : World} {p : Nat} {C : Array Value} (h : Xi W wx p C) (j : Nat) (v : Value) : Xi W (wx.setCell ⟨p, j, none⟩ v) p (C.set! j v) := ⟨h.b.setCell (p := ⟨p, j, none⟩) h.l v, set_blk h.c v, h.l⟩
/-- What an operand's reading has left: where, whether all was well. -/
def OpS (o : Nat) (T : List Tk) (i : Nat) (a : Int) (j : Nat) (ok good : Bool) : Prop := (rNext o (T.drop i) = none ∧ (good && ok) = false) ∨ (rNext o (T.drop i) = some (a, T.drop j) ∧ good = true ∧ ok = true)
theorem rNext_at {o : Nat} (ho : o ≠ 0) {T : List Tk} {i : Nat} (hi : i < T.length) : rNext o (T.drop i) = match rdO o (tAt T i) with | some n => some (n, T.drop (i + 1)) | none => none := by
  rw [List.drop_eq_getElem_cons hi]
  unfold rNext
  rw [if_neg ho]
  have e : tAt T i = T[i] := by unfold tAt; rw [List.getD_eq_getElem?_getD, List.getElem?_eq_getElem hi]; rfl
  rw [e]
  rfl
theorem rNext_end {o : Nat} (ho : o ≠ 0) {T : List Tk} {i : Nat} (hi : T.length ≤ i) : rNext o (T.drop i) = none := by
  rw [List.drop_eq_nil_of_le hi]
  unfold rNext
  rw [if_neg ho]
theorem rNext_zero (T : List Tk) : rNext 0 T = some (0, T) := rfl
/-- What both operands' reading has left. -/
def FinI (k : Nat) (T : List Tk) (n : Nat) (a b : Int) (j : Nat) (ok good : Bool) : Prop := (rIns T = none ∧ ((good && ok) && decide (j = n)) = false) ∨ (rIns T = some ((k : Int), a, b) ∧ good = true ∧ ok = true ∧ j = n)
section
variable {k oa ob n j : Nat} {T : List Tk} {a : Int} {ok good : Bool}
theorem finB_none (hS : OpS oa T 1 a j ok good) (hN : rNext ob (T.drop j) = none) (hM : rIns T = match rNext oa (T.drop 1) with | none => none | some (a, r) => match rNext ob r with | none => none | some (b, r') => if r' = [] then some ((k : Int), a, b) else none) {m : Int} : FinI k T n a m (j + 1) false (good && ok) := by
  refine .inl ⟨?_, by simp⟩
  rcases hS with ⟨h1, -⟩ | ⟨h1, -, -⟩
  · rw [hM, h1]
  · rw [hM, h1]; simp only; rw [hN]
theorem finB_some (hS : OpS oa T 1 a j ok good) {m : Int} (hN : rNext ob (T.drop j) = some (m, T.drop (j + 1))) (hn : n = T.length) (hj : j < n) (hM : rIns T = match rNext oa (T.drop 1) with | none => none | some (a, r) => match rNext ob r with | none => none | some (b, r') => if r' = [] then some ((k : Int), a, b) else none) : FinI k T n a m (j + 1) true (good && ok) := by
  rcases hS with ⟨h1, h2⟩ | ⟨h1, rfl, rfl⟩
  · exact .inl ⟨by rw [hM, h1], by rw [h2]; rfl⟩
  · rw [h1] at hM
    simp only at hM
    rw [hN] at hM
    simp only at hM
    by_cases e : j + 1 = n
    · rw [if_pos (List.drop_eq_nil_of_le (by omega))] at hM
      exact .inr ⟨hM, rfl, rfl, e⟩
    · rw [if_neg (fun x => by have := List.drop_eq_nil_iff.1 x; omega)] at hM
      exact .inl ⟨hM, by rw [decide_eq_false e]; rfl⟩
theorem finB_zero (hS : OpS oa T 1 a j ok good) (hz : ob = 0) (hn : n = T.length) (hjn : j ≤ n) (hM : rIns T = match rNext oa (T.drop 1) with | none => none | some (a, r) => match rNext ob r with | none => none | some (b, r') => if r' = [] then some ((k : Int), a, b) else none) : FinI k T n a 0 j ok (good && ok) := by
  subst hz
  rcases hS with ⟨h1, h2⟩ | ⟨h1, rfl, rfl⟩
  · exact .inl ⟨by rw [hM, h1], by rw [h2]; rfl⟩
  · rw [h1] at hM
    simp only [rNext_zero] at hM
    by_cases e : T.length ≤ j
    · rw [if_pos (List.drop_eq_nil_of_le e)] at hM
      exact .inr ⟨hM, rfl, rfl, by omega⟩
    · rw [if_neg (fun x => e (List.drop_eq_nil_iff.1 x))] at hM
      exact .inl ⟨hM, by rw [decide_eq_false (show ¬ j = n by omega)]; rfl⟩
theorem finB_end (hS : OpS oa T 1 a j ok good) (hN : rNext ob (T.drop j) = none) (hM : rIns T = match rNext oa (T.drop 1) with | none => none | some (a, r) => match rNext ob r with | none => none | some (b, r') => if r' = [] then some ((k : Int), a, b) else none) : FinI k T n a 0 j ok false := by
  refine .inl ⟨?_, by simp⟩
  rcases hS with ⟨h1, -⟩ | ⟨h1, -, -⟩
  · rw [hM, h1]
  · rw [hM, h1]; simp only; rw [hN]
end
set_option maxRecDepth 100000 in
set_option maxHeartbeats 16000000 in
theorem binstr_any {W : World} {b ab : Nat} {s : St} (h : BdX W b ab s) {q : Option Addr} {n cap : Nat} {T : List Tk} (hw : Tks W W.heap.size q n T) (hn : 0 < n) :
    Calls Tryz.prog 89 #[.pointer (some ⟨ab, 0, none⟩), .slice q n cap] W fun e w' => e = .returned (.bool (rlIns s T).isSome) ∧ Hid ((∀ s', rlIns s T = some s' → BdX w' b ab s') ∧ Below b W w') := by
  obtain ⟨R, HR⟩ : ∃ R, Hid (R = rlIns s T) := ⟨_, rfl⟩
  rw [← HR.out]
  obtain ⟨B, HBo⟩ : ∃ B : Bool, Hid (B = R.isSome) := ⟨_, rfl⟩
  rw [← HBo.out]
  obtain ⟨iq, eq, tq, ia, ea, ta, Es, ha⟩ := h
  have HbW : Hid (b ≤ W.heap.size) := by have h1 := ha.lb; have h2 := ha.lt; exact Nat.le_trans h1 (Nat.le_of_lt h2)
  have hU : R = if s.c.ens.length ≠ 0 ∧ s.c.ins.length ≠ 60000 then (rIns T).map fun x => ⟨{ s.c with ins := s.c.ins ++ [x] }, s.begun⟩ else none := HR.out
  obtain ⟨x0, -⟩ := blk_cell ha.box 0 (.slice iq s.c.ins.length ia) rfl
  obtain ⟨x1, -⟩ := blk_cell ha.box 1 (.slice eq s.c.ens.length ea) rfl
  have l2 := ha.l2
  have HA : Hid (Bd W b ab s iq eq tq ia ea ta Es) := ha
  have HTk : Hid (∀ W', Below W.heap.size W W' → ∀ i, i < n → ∃ g o, q = some ⟨g, o, none⟩ ∧ W'.cell? ⟨g, o + i * 2, none⟩ = some (.string (YtchinflkjcebjabGreatDoor.bk (tAt T i).1)) ∧ W'.cell? ⟨g, o + i * 2 + 1, none⟩ = some (.bool (tAt T i).2)) := fun W' hb i hi => by
    obtain ⟨g, o, e, -, c1, c2⟩ := (hw.below hb (Nat.le_refl _)).at i hi
    exact ⟨g, o, e, c1, c2⟩
  have HnT : Hid (n = T.length) := hw.len
  have HSz : Hid (∀ i, (YtchinflkjcebjabGreatDoor.bk (tAt T i).1).size ≤ 1048576) := fun i => by rw [bk_size]; exact hw.szAt i
  have hbig := hw.big
  have hnb : (n : Int) ≤ 1048576 := by omega
  by_cases hc1 : s.c.ens.length = 0
  · have HF : Hid (R = none) := by show R = none; rw [hU, if_neg (fun x => x.1 hc1)]
    have k1 : ((s.c.ens.length : Int) == 0) = true := by rw [beq_iff_eq]; omega
    have k1' : (s.c.ens.length : Int) = 0 := by omega
    clear hw hU HR ha HA HTk HSz HnT hc1 l2
    generalize s.c.ens.length = n1 at *
    go_enter Tryz.func89, Tryz.ntmps89
    go_wp2
    first | (change bodyPost Tryz.prog Tryz.f89 _ Exit.ret _ _) | (simp only [Exit.noGoto]) | skip
    go_ret
    refine ⟨by rw [HBo.out, HF.out]; rfl, ?_, Below.refl _ _⟩
    intro s' e
    rw [HF.out] at e
    cases e
  have k1 : ((s.c.ens.length : Int) == 0) = false := by rw [beq_eq_false_iff_ne]; omega
  have k1' : ¬ (s.c.ens.length : Int) = 0 := by omega
  have k1n : ¬ s.c.ens.length = 0 := hc1
  by_cases hc2 : s.c.ins.length = 60000
  · have HF : Hid (R = none) := by show R = none; rw [hU, if_neg (fun x => x.2 hc2)]
    have k2 : (60000 : Int) ≤ (s.c.ins.length : Int) := by omega
    clear hw hU HR ha HA HTk HSz HnT hc1 hc2 l2
    generalize s.c.ens.length = n1 at *
    generalize s.c.ins.length = n2 at *
    go_enter Tryz.func89, Tryz.ntmps89
    go_wp2
    first | (change bodyPost Tryz.prog Tryz.f89 _ Exit.ret _ _) | (simp only [Exit.noGoto]) | skip
    go_ret
    refine ⟨by rw [HBo.out, HF.out]; rfl, ?_, Below.refl _ _⟩
    intro s' e
    rw [HF.out] at e
    cases e
  have k2 : ¬ (60000 : Int) ≤ (s.c.ins.length : Int) := by omega
  rw [if_pos ⟨hc1, hc2⟩] at hU
  have HU : Hid (R = _) := hU
  obtain ⟨g, o, rfl, t0, t1⟩ := HTk.out W (Below.refl _ _) 0 hn
  rw [Nat.zero_mul, Nat.add_zero] at t0 t1
  have n0 : (0 : Int) < (n : Int) := by omega
  by_cases hq0 : (tAt T 0).2 = true
  · have HF : Hid (R = none) := by
      show R = none
      rw [HU.out]
      unfold rIns
      rw [if_pos hq0]
      rfl
    rw [hq0] at t1
    clear hw hU HR ha HA HTk HSz HnT hc1 hc2 l2 HU
    generalize s.c.ens.length = n1 at *
    generalize s.c.ins.length = n2 at *
    generalize YtchinflkjcebjabGreatDoor.bk (tAt T 0).1 = xb at *
    go_enter Tryz.func89, Tryz.ntmps89
    go_wp2
    first | (change bodyPost Tryz.prog Tryz.f89 _ Exit.ret _ _) | (simp only [Exit.noGoto]) | skip
    go_ret
    refine ⟨by rw [HBo.out, HF.out]; rfl, ?_, Below.refl _ _⟩
    intro s' e
    rw [HF.out] at e
    cases e
  have hq0' : (tAt T 0).2 = false := by simpa using hq0
  rw [hq0'] at t1
  have HN0 : Hid (seekI (tAt T 0).1 24 0 = none → R = none) := fun e => by
    rw [HU.out]
    unfold rIns
    rw [if_neg hq0, e]
    rfl
  have HN1 : Hid (∀ k, seekI (tAt T 0).1 24 0 = some k → rIns T = match rNext (opA.getD k 0) (T.drop 1) with
    | none => none
    | some (a, r) => match rNext (opB.getD k 0) r with
      | none => none
      | some (b, r') => if r' = [] then some ((k : Int), a, b) else none) := fun k e => by
    unfold rIns
    rw [if_neg hq0, e]
    rfl
  have HX0 : Hid (lt (YtchinflkjcebjabGreatDoor.bk (tAt T 0).1) = (tAt T 0).1) := bk_data _
  have HT0 : Hid (∀ W', Below W.heap.size W W' → W'.cell? ⟨g, o, none⟩ = some (.string (YtchinflkjcebjabGreatDoor.bk (tAt T 0).1))) := fun W' hb => by
    obtain ⟨g', o', e, c1, -⟩ := HTk.out W' hb 0 hn
    cases e
    rw [Nat.zero_mul, Nat.add_zero] at c1
    exact c1
  have HL : Hid (s.c.ins.length < 60000) := by show _ < _; omega
  clear hw hU HR ha hc1 hc2 l2 hq0 hq0'
  generalize YtchinflkjcebjabGreatDoor.bk (tAt T 0).1 = xb at *
  go_enter Tryz.func89, Tryz.ntmps89
  go_upto_region 3 with fail
  clear t0 t1 x0 x1 k1 k1' k1n k2
  go_wp2_with fail
  go_loopw [5] (fun i wr => ∃ k : Nat, k ≤ 24 ∧ i = .int .i64 (k : Int) ∧ Hid (seekI (tAt T 0).1 (24 - k) k = seekI (tAt T 0).1 24 0) ∧ Hid (Below W.heap.size W wr)) (fun i _ => 24 - (intOf i).toNat)
  case atStart => exact ⟨0, by omega, rfl, rfl, Below.refl _ _⟩
  case round =>
    obtain ⟨k, hk, rfl, hI, hb⟩ := hrel
    by_cases hlt : k < 24
    case neg =>
      obtain rfl : k = 24 := by omega
      have HF : Hid (R = none) := HN0.out hI.out.symm
      have HB2 : Hid (Below b W wr) := hb.out.mono HbW.out
      clear hI hb HN0 HN1 HTk HA HU HSz HT0
      go_wp2
      first | (change bodyPost Tryz.prog Tryz.f89 _ Exit.ret _ _) | (simp only [Exit.noGoto]) | skip
      go_ret
      refine ⟨by rw [HBo.out, HF.out]; rfl, ?_, HB2.out⟩
      intro s' e
      rw [HF.out] at e
      cases e
    have k24 : (k : Int) < 24 := by omega
    have wd := fun W' => rword_any k W' hlt
    have HS : Hid ((if (wdT.getD k e0).data.toList = (tAt T 0).1 then some k else seekI (tAt T 0).1 (24 - (k + 1)) (k + 1)) = seekI (tAt T 0).1 24 0) := by
      have e := hI.out
      rw [show 24 - k = (24 - (k + 1)) + 1 by omega, seekI] at e
      exact e
    have t0 := HT0.out wr hb.out
    have y0 := cell_regrown t0
    generalize wdT.getD k e0 = wk at *
    have c1 : ∀ d os, Calls Tryz.prog 36 #[.int .i64 (k : Int)] (Sort.grow (redrawn wr d) os) fun e w'' => e = .returned (.string wk) ∧ ∃ z : Regrown, w'' = Sort.grow (redrawn wr z.d) z.os := fun d os => Calls.regrown_of (wd _)
    clear wd hI
    by_cases heq : wk.data.toList = (tAt T 0).1
    case neg =>
      have s1 : (wk.toList == xb.toList) = false := by rw [toL, toL, beq_eq_false_iff_ne, show xb.data.toList = (tAt T 0).1 from HX0.out]; exact heq
      have s2 : (wk.toList != xb.toList) = true := by rw [bne, s1]; rfl
      rw [if_neg heq] at HS
      clear heq
      go_upto_region 6 with fail
      go_wp2_with fail
      refine wp_region_quiet_below (by kernel_rfl) (by kernel_rfl) ?_
      repeat (first | go_big_quiet_step (first | with_reducible exact c1 _ _) | quiet_step (first | with_reducible exact c1 _ _))
      refine wpQuiet_nil ?_
      intro _ hw'
      obtain ⟨⟨dq, osq⟩, hw''⟩ := hw'
      subst hw''
      have hY := below_regrown wr dq osq
      first | (change Exit.then _ _ Exit.normal _ (Sort.grow (redrawn wr dq) osq)) | skip
      generalize Sort.grow (redrawn wr dq) osq = Y at hY ⊢
      clear c1
      go_wp2
      exact ⟨⟨k + 1, by omega, by go_num, HS, below2 hb.out hY⟩, by simp [intOf]; omega⟩
    have s1 : (wk.toList == xb.toList) = true := by rw [toL, toL, beq_iff_eq, show xb.data.toList = (tAt T 0).1 from HX0.out]; exact heq
    have s2 : (wk.toList != xb.toList) = false := by rw [bne, s1]; rfl
    rw [if_pos heq] at HS
    have HM := HN1.out k HS.out.symm
    have HM' : Hid (rIns T = _) := HM
    clear heq HM HN0 HN1 HS
    obtain ⟨o1, o2⟩ := opA_12 ⟨k, hlt⟩
    simp only at o1 o2
    have na := fun W' => rA_any k W' hlt
    have nbb := fun W' => rB_b k W' hlt
    generalize opA.getD k 0 = oa at *
    generalize opB.getD k 0 = ob at *
    have HNA : Hid (∀ W', Calls Tryz.prog 38 #[.int .i64 (k : Int)] W' fun e w'' => ∃ v, e = .returned v ∧ (v = .int .i64 (oa : Int) ∧ Hid (Below W'.heap.size W' w''))) := fun W' => (na W').mono fun _ _ ⟨a, b⟩ => ⟨_, a, rfl, b⟩
    have HNB : Hid (∀ W', Calls Tryz.prog 39 #[.int .i64 (k : Int)] W' fun e w'' => ∃ v, e = .returned v ∧ (v = .int .i64 (ob : Int) ∧ Hid (Below W'.heap.size W' w''))) := fun W' => (nbb W').mono fun _ _ ⟨a, b⟩ => ⟨_, a, rfl, b⟩
    have HA' : Hid (∀ W', Calls Tryz.prog 38 #[.int .i64 (k : Int)] W' fun e w'' => e = .returned (.int .i64 (oa : Int)) ∧ Below W'.heap.size W' w'') := na
    have HB' : Hid (∀ W', Calls Tryz.prog 39 #[.int .i64 (k : Int)] W' fun e w'' => e = .returned (.int .i64 (ob : Int)) ∧ Below W'.heap.size W' w'') := nbb
    clear na nbb
    have HRd : Hid (∀ (oo : Nat), oo < 12 → ∀ (W' : World) (i : Nat), Calls Tryz.prog 104 #[.int .i64 (oo : Int), .agg #[.string (YtchinflkjcebjabGreatDoor.bk (tAt T i).1), .bool (tAt T i).2]] W' fun e w'' => ∃ v, e = .returned v ∧ (∃ m : Int, v = .tuple #[.int .i64 m, .bool (rdO oo (tAt T i)).isSome] ∧ Hid ((∀ u, rdO oo (tAt T i) = some u → m = u) ∧ Below W'.heap.size W' w''))) := fun oo hoo W' i => by
      have := rread_any oo (YtchinflkjcebjabGreatDoor.bk (tAt T i).1) (tAt T i).2 hoo (HSz.out i) W'
      rw [show lt (YtchinflkjcebjabGreatDoor.bk (tAt T i).1) = (tAt T i).1 from bk_data _] at this
      exact this.mono fun _ _ ⟨m, e1, e2, _, e4⟩ => ⟨_, e1, m, rfl, e2, e4⟩
    go_upto_region 6 with fail
    go_wp2_with fail
    refine wp_region_quiet_below (by kernel_rfl) (by kernel_rfl) ?_
    repeat (first | go_big_quiet_step (first | with_reducible exact c1 _ _) | quiet_step (first | with_reducible exact c1 _ _))
    refine wpQuiet_nil ?_
    intro _ hw'
    obtain ⟨⟨dq, osq⟩, hw''⟩ := hw'
    subst hw''
    have hY := below_regrown wr dq osq
    first | (change Exit.then _ _ Exit.normal _ (Sort.grow (redrawn wr dq) osq)) | skip
    generalize Sort.grow (redrawn wr dq) osq = Y at hY ⊢
    clear c1
    have hbY := below2 hb.out hY
    obtain ⟨X, hX⟩ : ∃ X, X = Y.alloc (.cells #[.int .i64 (k : Int), .int .i64 0, .int .i64 0] 46) := ⟨_, rfl⟩
    have HX : Hid (Xi W X Y.heap.size #[.int .i64 (k : Int), .int .i64 0, .int .i64 0]) := by
      rw [hX]
      exact ⟨below2 hbY ((Below.refl _ Y).alloc (Nat.le_refl _) _), World.alloc_heap_new Y _, hbY.size⟩
    go_upto_region 8 with fail
    rw [← hX]
    clear hX hb hY hbY t0 y0 s1 s2
    generalize Y.heap.size = p6 at *
    clear Y wr
    go_upto_region 11 with fail
    go_cut [57] (fun c wx => c = .bool (decide (oa ≠ 0 ∧ 1 < n)) ∧ Hid (Xi W wx p6 #[.int .i64 (k : Int), .int .i64 0, .int .i64 0]))
    case first =>
      have nA := HA'.out X
      by_cases h0 : oa = 0
      · have e1 : ((oa : Int) != 0) = false := by rw [bne, show ((oa : Int) == 0) = true from by rw [beq_iff_eq]; omega]; rfl
        have e2 : (oa : Int) = 0 := by omega
        have HD : Hid (decide (oa ≠ 0 ∧ 1 < n) = false) := decide_eq_false (fun x => x.1 h0)
        clear h0
        go_wp2_with fail
        refine nA.mono ?_
        rintro e W1 ⟨rfl, hw1⟩
        go_wp2
        go_meet
        case rel => exact ⟨by rw [HD.out], HX.out.next hw1⟩
      have e1 : ((oa : Int) != 0) = true := by rw [bne, show ((oa : Int) == 0) = false from by rw [beq_eq_false_iff_ne]; omega]; rfl
      have e2 : ¬ (oa : Int) = 0 := by omega
      by_cases h1 : 1 < n
      · have e3 : (1 : Int) < (n : Int) := by omega
        have e3b : decide ((1 : Int) < (n : Int)) = true := decide_eq_true e3
        have HD : Hid (decide (oa ≠ 0 ∧ 1 < n) = true) := decide_eq_true ⟨h0, h1⟩
        clear h0 h1
        go_wp2_with fail
        refine nA.mono ?_
        rintro e W1 ⟨rfl, hw1⟩
        go_wp2
        go_meet
        case rel => exact ⟨by rw [HD.out], HX.out.next hw1⟩
      · have e3 : ¬ (1 : Int) < (n : Int) := by omega
        have e3b : decide ((1 : Int) < (n : Int)) = false := decide_eq_false e3
        have e3c : decide (1 < n) = false := decide_eq_false h1
        have HD : Hid (decide (oa ≠ 0 ∧ 1 < n) = false) := decide_eq_false (fun x => h1 x.2)
        clear h0 h1
        go_wp2_with fail
        refine nA.mono ?_
        rintro e W1 ⟨rfl, hw1⟩
        go_wp2
        go_meet
        case rel => exact ⟨by rw [HD.out], HX.out.next hw1⟩
    case rest =>
      obtain ⟨rfl, hXc⟩ := hcut
      clear HX
      go_upto_if 57 with fail
      go_cut [7, 8, 9] (fun u7 u8 u9 wx => ∃ (j : Nat) (ok good : Bool) (a : Int), u7 = .int .i64 (j : Int) ∧ u8 = .bool ok ∧ u9 = .bool good ∧ Hid (j ≤ 2 ∧ j ≤ n) ∧ Hid (Xi W wx p6 #[.int .i64 (k : Int), .int .i64 a, .int .i64 0]) ∧ Hid (OpS oa T 1 a j ok good))
      case first =>
        by_cases hA : oa ≠ 0 ∧ 1 < n
        case pos =>
          have hAd : decide (oa ≠ 0 ∧ 1 < n) = true := decide_eq_true hA
          rw [hAd]
          have HJn : Hid (2 ≤ n) := hA.2
          have HO : Hid (rNext oa (T.drop 1) = match rdO oa (tAt T 1) with | some n => some (n, T.drop (1 + 1)) | none => none) := rNext_at hA.1 (by rw [← HnT.out]; exact hA.2)
          have hRd := fun W' => HRd.out oa o1 W' 1
          obtain ⟨g', o', eg, c1, c2⟩ := HTk.out wc hXc.out.b 1 hA.2
          cases eg
          have HTn : Hid (∀ W', Below wc.heap.size wc W' → W'.cell? ⟨g, o + 1 * 2, none⟩ = some (.string (YtchinflkjcebjabGreatDoor.bk (tAt T 1).1)) ∧ W'.cell? ⟨g, o + 1 * 2 + 1, none⟩ = some (.bool (tAt T 1).2)) := fun W' hb => by
            obtain ⟨g', o', eg, c1, c2⟩ := HTk.out W' (below2 hXc.out.b hb) 1 hA.2
            cases eg
            exact ⟨c1, c2⟩
          generalize rdO oa (tAt T 1) = RO at *
          generalize YtchinflkjcebjabGreatDoor.bk (tAt T 1).1 = xs at *
          generalize (tAt T 1).2 = qs at *
          rw [Nat.one_mul] at c1 c2
          have n1 : (1 : Int) < (n : Int) := by omega
          clear hA hAd
          go_upto_region 12 with fail
          go_wp2_with fail
          have bd : Below wc.heap.size wc wc.drew := (Below.refl _ wc).drew
          have HXd : Hid (Xi W wc.drew p6 #[.int .i64 (k : Int), .int .i64 0, .int .i64 0]) := hXc.out.next bd
          go_region_law (first
            | (refine step_callw (by rfl) 38 [.tmp 59] #[3] [.int .i64 (k : Int)] (by rfl) (by rfl) (callA _) _ (HNA.out _) ?_; rintro v8 W8 ⟨rfl, hb8⟩; have X8 : Hid (Xi W W8 p6 #[.int .i64 (k : Int), .int .i64 0, .int .i64 0]) := HXd.out.next hb8.out; obtain ⟨d1, d2⟩ := HTn.out W8 (below2 bd hb8.out); rw [Nat.one_mul] at d1 d2)
            | (refine step_callw (by rfl) 104 [.tmp 60, .tmp 64] #[3, 125] [.int .i64 (oa : Int), .agg #[.string xs, .bool qs]] (by rfl) (by rfl) (callRd _ _) _ (hRd _) ?_; rintro v9 W9 ⟨m9, rfl, h9⟩; have X9 : Hid (Xi W W9 p6 #[.int .i64 (k : Int), .int .i64 0, .int .i64 0]) := X8.out.next h9.out.2))
          all_goals
            obtain ⟨z1, y1⟩ := blk_cell X9.out.c 1 (.int .i64 0) rfl
            have X10 : Hid (Xi W (W9.setCell ⟨p6, 1, none⟩ (.int .i64 m9)) p6 _) := X9.out.set 1 (.int .i64 m9)
            have H9 : Hid (∀ u, RO = some u → m9 = u) := h9.out.1
            clear HXd hRd HTn bd c1 c2 d1 d2 X8 hb8 h9
            go_wp2
            go_meet
            case rel => exact ⟨2, RO.isSome, true, m9, rfl, rfl, rfl, ⟨Nat.le_refl _, HJn.out⟩, X10, by
              cases hRO : RO with
              | none => exact .inl ⟨by rw [HO.out, hRO], rfl⟩
              | some u => exact .inr ⟨by rw [HO.out, hRO, H9.out u hRO], rfl, rfl⟩⟩
        have hAd : decide (oa ≠ 0 ∧ 1 < n) = false := decide_eq_false hA
        rw [hAd]
        have nA := HA'.out wc
        by_cases h0 : oa = 0
        · have e1 : ((oa : Int) != 0) = false := by rw [bne, show ((oa : Int) == 0) = true from by rw [beq_iff_eq]; omega]; rfl
          have e2 : (oa : Int) = 0 := by omega
          have HO : Hid (rNext oa (T.drop 1) = some (0, T.drop 1)) := by show _ = _; rw [h0]; rfl
          clear h0 hA hAd
          go_wp2_with fail
          refine nA.mono ?_
          rintro e W1 ⟨rfl, hw1⟩
          go_wp2
          go_meet
          case rel => exact ⟨1, true, true, 0, rfl, rfl, rfl, ⟨by decide, hn⟩, hXc.out.next hw1, .inr ⟨HO.out, rfl, rfl⟩⟩
        · have e1 : ((oa : Int) != 0) = true := by rw [bne, show ((oa : Int) == 0) = false from by rw [beq_eq_false_iff_ne]; omega]; rfl
          have e2 : ¬ (oa : Int) = 0 := by omega
          have HO : Hid (rNext oa (T.drop 1) = none) := rNext_end h0 (by rw [← HnT.out]; exact Nat.le_of_not_lt (fun x => hA ⟨h0, x⟩))
          clear h0 hA hAd
          go_wp2_with fail
          refine nA.mono ?_
          rintro e W1 ⟨rfl, hw1⟩
          go_wp2
          go_meet
          case rel => exact ⟨1, true, false, 0, rfl, rfl, rfl, ⟨by decide, hn⟩, hXc.out.next hw1, .inl ⟨HO.out, rfl⟩⟩
      case rest =>
        obtain ⟨j, ok, good, a, rfl, rfl, rfl, hj2, hXa, hS⟩ := hcut
        clear hXc HNA HA'
        have hjl := hj2.out.1
        go_upto_region 18 with fail
        go_cut [9] (fun u9 wx => u9 = .bool (good && ok) ∧ Hid (Xi W wx p6 #[.int .i64 (k : Int), .int .i64 a, .int .i64 0]))
        case first =>
          cases good with
          | true =>
            go_wp2
            go_meet
            case rel => exact ⟨by simp, hXa⟩
          | false =>
            go_wp2
            go_meet
            case rel => exact ⟨by simp, hXa⟩
        case rest =>
          obtain ⟨rfl, hXb⟩ := hcut
          clear hXa
          have HMo : Hid (rIns T = match rNext oa (T.drop 1) with
            | none => none
            | some (a, r) => match rNext ob r with
              | none => none
              | some (b, r') => if r' = [] then some ((k : Int), a, b) else none) := HM'.out
          clear HM'
          obtain ⟨gk, HG⟩ : ∃ gk : Bool, Hid (gk = (good && ok)) := ⟨_, rfl⟩
          rw [← HG.out]
          go_upto_region 19 with fail
          go_cut [88] (fun c wx => c = .bool (decide (ob ≠ 0 ∧ j < n)) ∧ Hid (Xi W wx p6 #[.int .i64 (k : Int), .int .i64 a, .int .i64 0]))
          case first =>
            have nA := HB'.out wc
            by_cases h0 : ob = 0
            · have e1 : ((ob : Int) != 0) = false := by rw [bne, show ((ob : Int) == 0) = true from by rw [beq_iff_eq]; omega]; rfl
              have e2 : (ob : Int) = 0 := by omega
              have HD : Hid (decide (ob ≠ 0 ∧ j < n) = false) := decide_eq_false (fun x => x.1 h0)
              clear h0
              go_wp2_with fail
              refine nA.mono ?_
              rintro e W1 ⟨rfl, hw1⟩
              go_wp2
              go_meet
              case rel => exact ⟨by rw [HD.out], hXb.out.next hw1⟩
            have e1 : ((ob : Int) != 0) = true := by rw [bne, show ((ob : Int) == 0) = false from by rw [beq_eq_false_iff_ne]; omega]; rfl
            have e2 : ¬ (ob : Int) = 0 := by omega
            by_cases h1 : j < n
            · have e3 : (j : Int) < (n : Int) := by omega
              have e3b : decide ((j : Int) < (n : Int)) = true := decide_eq_true e3
              have HD : Hid (decide (ob ≠ 0 ∧ j < n) = true) := decide_eq_true ⟨h0, h1⟩
              clear h0 h1
              go_wp2_with fail
              refine nA.mono ?_
              rintro e W1 ⟨rfl, hw1⟩
              go_wp2
              go_meet
              case rel => exact ⟨by rw [HD.out], hXb.out.next hw1⟩
            · have e3 : ¬ (j : Int) < (n : Int) := by omega
              have e3b : decide ((j : Int) < (n : Int)) = false := decide_eq_false e3
              have e3c : decide (j < n) = false := decide_eq_false h1
              have HD : Hid (decide (ob ≠ 0 ∧ j < n) = false) := decide_eq_false (fun x => h1 x.2)
              clear h0 h1
              go_wp2_with fail
              refine nA.mono ?_
              rintro e W1 ⟨rfl, hw1⟩
              go_wp2
              go_meet
              case rel => exact ⟨by rw [HD.out], hXb.out.next hw1⟩
          case rest =>
            obtain ⟨rfl, hXc⟩ := hcut
            clear hXb
            go_upto_if 88 with fail
            go_cut [7, 8, 9] (fun u7 u8 u9 wx => ∃ (j2 : Nat) (ok2 good2 : Bool) (a2 : Int), u7 = .int .i64 (j2 : Int) ∧ u8 = .bool ok2 ∧ u9 = .bool good2 ∧ Hid (Xi W wx p6 #[.int .i64 (k : Int), .int .i64 a, .int .i64 a2]) ∧ Hid (FinI k T n a a2 j2 ok2 good2))
            case first =>
              by_cases hA : ob ≠ 0 ∧ j < n
              case pos =>
                have hAd : decide (ob ≠ 0 ∧ j < n) = true := decide_eq_true hA
                rw [hAd]
                have HJ1 : Hid (j < n) := hA.2
                have HO : Hid (rNext ob (T.drop j) = match rdO ob (tAt T j) with | some n => some (n, T.drop (j + 1)) | none => none) := rNext_at hA.1 (by rw [← HnT.out]; exact hA.2)
                have hRd := fun W' => HRd.out ob o2 W' j
                obtain ⟨g', o', eg, c1, c2⟩ := HTk.out wc hXc.out.b j hA.2
                cases eg
                have HTn : Hid (∀ W', Below wc.heap.size wc W' → W'.cell? ⟨g, o + j * 2, none⟩ = some (.string (YtchinflkjcebjabGreatDoor.bk (tAt T j).1)) ∧ W'.cell? ⟨g, o + j * 2 + 1, none⟩ = some (.bool (tAt T j).2)) := fun W' hb => by
                  obtain ⟨g', o', eg, c1, c2⟩ := HTk.out W' (below2 hXc.out.b hb) j hA.2
                  cases eg
                  exact ⟨c1, c2⟩
                generalize rdO ob (tAt T j) = RO at *
                generalize YtchinflkjcebjabGreatDoor.bk (tAt T j).1 = xs at *
                generalize (tAt T j).2 = qs at *
                skip
                have n1 : (j : Int) < (n : Int) := by omega
                clear hA hAd
                go_upto_region 20 with fail
                go_wp2_with fail
                have bd : Below wc.heap.size wc wc.drew := (Below.refl _ wc).drew
                have HXd : Hid (Xi W wc.drew p6 #[.int .i64 (k : Int), .int .i64 a, .int .i64 0]) := hXc.out.next bd
                go_region_law (first
                  | (refine step_callw (by rfl) 39 [.tmp 90] #[3] [.int .i64 (k : Int)] (by rfl) (by rfl) (callB _) _ (HNB.out _) ?_; rintro v8 W8 ⟨rfl, hb8⟩; have X8 : Hid (Xi W W8 p6 #[.int .i64 (k : Int), .int .i64 a, .int .i64 0]) := HXd.out.next hb8.out; obtain ⟨d1, d2⟩ := HTn.out W8 (below2 bd hb8.out); skip)
                  | (refine step_callw (by rfl) 104 [.tmp 91, .tmp 95] #[3, 125] [.int .i64 (ob : Int), .agg #[.string xs, .bool qs]] (by rfl) (by rfl) (callRd _ _) _ (hRd _) ?_; rintro v9 W9 ⟨m9, rfl, h9⟩; have X9 : Hid (Xi W W9 p6 #[.int .i64 (k : Int), .int .i64 a, .int .i64 0]) := X8.out.next h9.out.2))
                all_goals
                  obtain ⟨z1, y1⟩ := blk_cell X9.out.c 2 (.int .i64 0) rfl
                  have X10 : Hid (Xi W (W9.setCell ⟨p6, 2, none⟩ (.int .i64 m9)) p6 _) := X9.out.set 2 (.int .i64 m9)
                  have H9 : Hid (∀ u, RO = some u → m9 = u) := h9.out.1
                  clear HXd hRd HTn bd c1 c2 d1 d2 X8 hb8 h9
                  go_wp2
                  go_meet
                  case rel => exact ⟨j + 1, RO.isSome, gk, m9, by go_num, rfl, rfl, X10, by
                    rw [HG.out]
                    cases hRO : RO with
                    | none => exact finB_none hS.out (by rw [HO.out, hRO]) HMo.out
                    | some u => exact finB_some hS.out (by rw [HO.out, hRO, H9.out u hRO]) HnT.out HJ1.out HMo.out⟩
              have hAd : decide (ob ≠ 0 ∧ j < n) = false := decide_eq_false hA
              rw [hAd]
              have nA := HB'.out wc
              by_cases h0 : ob = 0
              · have e1 : ((ob : Int) != 0) = false := by rw [bne, show ((ob : Int) == 0) = true from by rw [beq_iff_eq]; omega]; rfl
                have e2 : (ob : Int) = 0 := by omega
                have HO : Hid (ob = 0) := h0
                clear h0 hA hAd
                go_wp2_with fail
                refine nA.mono ?_
                rintro e W1 ⟨rfl, hw1⟩
                go_wp2
                go_meet
                case rel => exact ⟨j, ok, gk, 0, rfl, rfl, rfl, hXc.out.next hw1, by rw [HG.out]; exact finB_zero hS.out HO.out HnT.out hj2.out.2 HMo.out⟩
              · have e1 : ((ob : Int) != 0) = true := by rw [bne, show ((ob : Int) == 0) = false from by rw [beq_eq_false_iff_ne]; omega]; rfl
                have e2 : ¬ (ob : Int) = 0 := by omega
                have HO : Hid (rNext ob (T.drop j) = none) := rNext_end h0 (by rw [← HnT.out]; exact Nat.le_of_not_lt (fun x => hA ⟨h0, x⟩))
                clear h0 hA hAd
                go_wp2_with fail
                refine nA.mono ?_
                rintro e W1 ⟨rfl, hw1⟩
                go_wp2
                go_meet
                case rel => exact ⟨j, ok, false, 0, rfl, rfl, rfl, hXc.out.next hw1, finB_end hS.out HO.out HMo.out⟩
            case rest =>
              obtain ⟨j2, ok2, good2, a2, rfl, rfl, rfl, hXd, hF⟩ := hcut
              clear hXc HNB HB' HRd hS HMo HG
              have A2 := HA.out.next hXd.out.b
              have bd : Below wc.heap.size wc wc.drew := (Below.refl _ wc).drew
              have A2d := A2.next bd
              have HA2 : Hid (Bd wc.drew b ab s iq eq tq ia ea ta Es) := A2d
              have HO2 : Hid (wc.drew.ownsRow b 46 3 (.slice iq s.c.ins.length ia) s.c.ins.length (s.c.ins.flatMap ic)) := A2d.rows.ir
              obtain ⟨z0, -⟩ := blk_cell A2.box 0 (.slice iq s.c.ins.length ia) rfl
              obtain ⟨z0a, -⟩ := blk_cell (A2.next ((Below.refl _ wc).alloc (Nat.le_refl _) (.cells #[.int .i64 (k : Int), .int .i64 a, .int .i64 a2] 46))).box 0 (.slice iq s.c.ins.length ia) rfl
              obtain ⟨d0, -⟩ := blk_cell hXd.out.c 0 (.int .i64 (k : Int)) rfl
              obtain ⟨d1, -⟩ := blk_cell hXd.out.c 1 (.int .i64 a) rfl
              obtain ⟨d2, -⟩ := blk_cell hXd.out.c 2 (.int .i64 a2) rfl
              have HB2 : Hid (Below b W wc.drew) := (below2 hXd.out.b bd).mono HbW.out
              have hzr : b ≤ wc.drew.heap.size := Nat.le_trans HbW.out (below2 hXd.out.b bd).size
              have H1 : Hid (∀ u ∈ ([.int .i64 (k : Int), .int .i64 a, .int .i64 a2] : List Value), u.oneCell' = true) := ic_one ((k : Int), a, a2)
              have HLN : Hid (s.c.ins.length + 1 ≤ 1000000000) := by have := HL.out; show _ ≤ _; omega
              have HXX : Hid (∀ v4 w4, w4.ownsRow b 46 3 v4 (s.c.ins.length + 1) (s.c.ins.flatMap ic ++ [.int .i64 (k : Int), .int .i64 a, .int .i64 a2]) → (wc.drew.alloc (.cells #[.int .i64 (k : Int), .int .i64 a, .int .i64 a2] 46)).grownBy w4 (Value.slice iq s.c.ins.length ia).ownBlock → ∃ q4 c4, v4 = .slice q4 (s.c.ins.length + 1) c4 ∧ (w4.cell? ⟨ab, 0, none⟩ = some (.slice iq s.c.ins.length ia) ∧ w4.frozen? ⟨ab, 0, none⟩ = false) ∧ Hid (Bd (w4.setCell ⟨ab, 0, none⟩ (.slice q4 (s.c.ins.length + 1) c4)) b ab ⟨{ s.c with ins := s.c.ins ++ [((k : Int), a, a2)] }, s.begun⟩ q4 eq tq c4 ea ta Es ∧ Below b W (w4.setCell ⟨ab, 0, none⟩ (.slice q4 (s.c.ins.length + 1) c4)))) := fun v4 w4 ho hg => by
                obtain ⟨q4, c4, rfl, -, -⟩ := own_slice ho
                exact ⟨q4, c4, rfl, blk_cell (HA2.out.boxB HA2.out.rows.ir (by decide) hg) 0 _ rfl, HA2.out.appI (x := ((k : Int), a, a2)) hg ho HL.out, ((HB2.out.alloc hzr _).grown hg (by have := hzr; simp at this ⊢; omega) (own_ge HO2.out)).setCell (p := ⟨ab, 0, none⟩) HA2.out.lb _⟩
              have HU2 : Hid (∀ x, rIns T = some x → R = some ⟨{ s.c with ins := s.c.ins ++ [x] }, s.begun⟩) := fun x e => by rw [HU.out, e]; rfl
              have HU3 : Hid (rIns T = none → R = none) := fun e => by rw [HU.out, e]; rfl
              clear A2 A2d HA HX0 HT0 HTk HU bd hXd HSz
              generalize s.c.ins.length = ni at *
              go_wp2_with fail
              go_region_law (first
                | (refine step_app 22 46 _ 3 24 Tryz.underlying22 infoIns (by rfl) (by decide) (by decide) (by rfl) _ _ (by rfl) b (.slice iq ni ia) ni (s.c.ins.flatMap ic) (by rfl) (own_next HO2.out ((Below.refl _ wc.drew).alloc (Nat.le_refl _) _)) wc.drew.heap.size [.int .i64 (k : Int), .int .i64 a, .int .i64 a2] rfl H1.out (by rfl) (range_new wc.drew _ _) HLN.out (by have := hzr; simp at this ⊢; omega) ?_; intro v9 W9 ho9 hg9; obtain ⟨q9, c9, rfl, ⟨f0, f1⟩, HA9⟩ := HXX.out v9 W9 ho9.out hg9.out.1))
              all_goals
                clear ho9 hg9 HXX z0 z0a d0 d1 d2
                rcases hF.out with ⟨hNo, hb0⟩ | ⟨hYes, rfl, rfl, hjn⟩
                · have HFR : Hid (R = none) := HU3.out hNo
                  have hBf : B = false := by rw [HBo.out, HFR.out]; rfl
                  subst hBf
                  have HF' : Hid (∀ s', R = some s' → False) := fun s' e => by rw [HFR.out] at e; cases e
                  by_cases hj : j2 = n
                  · have e1 : ((j2 : Int) == (n : Int)) = true := by rw [beq_iff_eq]; omega
                    have e2 : (j2 : Int) = (n : Int) := by omega
                    rw [decide_eq_true hj, Bool.and_true] at hb0
                    clear hF hNo hj HU2 HU3
                    cases good2 with
                    | false =>
                      go_wp2
                      generalize W9.setCell ⟨ab, 0, none⟩ (.slice q9 (ni + 1) c9) = W5 at HA9 ⊢
                      first | (change bodyPost Tryz.prog Tryz.f89 _ Exit.ret _ _) | (simp only [Exit.noGoto]) | skip
                      go_ret
                      exact ⟨rfl, fun s' e => (HF'.out s' e).elim, HA9.out.2⟩
                    | true =>
                      rw [Bool.true_and] at hb0
                      subst hb0
                      go_wp2
                      generalize W9.setCell ⟨ab, 0, none⟩ (.slice q9 (ni + 1) c9) = W5 at HA9 ⊢
                      first | (change bodyPost Tryz.prog Tryz.f89 _ Exit.ret _ _) | (simp only [Exit.noGoto]) | skip
                      go_ret
                      exact ⟨rfl, fun s' e => (HF'.out s' e).elim, HA9.out.2⟩
                  · have e1 : ((j2 : Int) == (n : Int)) = false := by rw [beq_eq_false_iff_ne]; omega
                    have e2 : ¬ (j2 : Int) = (n : Int) := by omega
                    clear hF hNo hj HU2 HU3 hb0
                    cases good2 <;> cases ok2
                    all_goals
                      go_wp2
                      generalize W9.setCell ⟨ab, 0, none⟩ (.slice q9 (ni + 1) c9) = W5 at HA9 ⊢
                      first | (change bodyPost Tryz.prog Tryz.f89 _ Exit.ret _ _) | (simp only [Exit.noGoto]) | skip
                      go_ret
                      exact ⟨rfl, fun s' e => (HF'.out s' e).elim, HA9.out.2⟩
                · have HR1 := HU2.out _ hYes
                  have HR2 : Hid (R = some ⟨{ s.c with ins := s.c.ins ++ [((k : Int), a, a2)] }, s.begun⟩) := HR1
                  have hBt : B = true := by rw [HBo.out, HR1]; rfl
                  subst hBt
                  have e1 : ((j2 : Int) == (n : Int)) = true := by rw [beq_iff_eq]; omega
                  have e2 : (j2 : Int) = (n : Int) := by omega
                  clear hF hYes hjn HU2 HU3 HR1
                  go_wp2
                  generalize W9.setCell ⟨ab, 0, none⟩ (.slice q9 (ni + 1) c9) = W5 at HA9 ⊢
                  first | (change bodyPost Tryz.prog Tryz.f89 _ Exit.ret _ _) | (simp only [Exit.noGoto]) | skip
                  go_ret
                  refine ⟨rfl, ?_, HA9.out.2⟩
                  intro s' e
                  rw [HR2.out] at e
                  cases e
                  exact ⟨_, _, _, _, _, _, _, HA9.out.1⟩
end Go.Proofs.YtchinflkjcebjabGreatDoor
