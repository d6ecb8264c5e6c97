import Derived.Test.YtcjnejdemfemfaaGreatDoorCS0
namespace Go.Proofs.YtcjnejdemfemfaaGreatDoor
open Go.RowKit

abbrev av (iq eq tq : Option Addr) (ia ea ta : Nat) (s : St) : Array Value := #[.slice iq s.c.ins.length ia, .slice eq s.c.ens.length ea, .slice tq s.c.txs.length ta, .int .i64 s.c.main, .bool s.begun]
/-- The assembler in memory. -/
structure As (W : World) (b ab : Nat) (s : St) (iq eq tq : Option Addr) (ia ea ta : Nat) (Es : List Em) : Prop where
  box : W.heap[ab]? = some (.cells (av iq eq tq ia ea ta s) 59)
  rows : Rows W b (.slice iq s.c.ins.length ia) (.slice eq s.c.ens.length ea) (.slice tq s.c.txs.length ta) s.c.ins Es s.c.txs
  en : Es.map (·.1) = s.c.ens
  lb : b ≤ ab
  l1 : s.c.ens.length ≤ 60
  l2 : s.c.ins.length ≤ 60000
  l3 : s.c.txs.length ≤ 4000
  sp : SepE Es
theorem As.lt {W : World} {b ab : Nat} {s : St} {iq eq tq : Option Addr} {ia ea ta : Nat} {Es : List Em} (h : As W b ab s iq eq tq ia ea ta Es) : ab < W.heap.size := (Array.getElem?_eq_some_iff.1 h.box).1
theorem As.next {W W' : World} {b ab : Nat} {s : St} {iq eq tq : Option Addr} {ia ea ta : Nat} {Es : List Em} (h : As W b ab s iq eq tq ia ea ta Es) (k : Below W.heap.size W W') : As W' b ab s iq eq tq ia ea ta Es := ⟨(k.block _ h.lt).trans h.box, h.rows.next k, h.en, h.lb, h.l1, h.l2, h.l3, h.sp⟩
theorem As.entAt {W : World} {b ab : Nat} {s : St} {iq eq tq : Option Addr} {ia ea ta : Nat} {Es : List Em} (h : As W b ab s iq eq tq ia ea ta Es) (k : Nat) (hk : k < s.c.ens.length) : ∃ g, eq = some ⟨g, 0, none⟩ ∧ g < W.heap.size ∧ W.cell? ⟨g, k * 5 + 1, none⟩ = some (.int .i64 (enAt s.c.ens k).start) := by
  have hl : Es.length = s.c.ens.length := by rw [← h.en, List.length_map]
  obtain ⟨q', cap', hv, _, hr⟩ := own_slice h.rows.er
  obtain ⟨g, hq, hg⟩ := hr (by omega)
  obtain rfl := (Value.slice.inj hv).1
  subst hq
  refine ⟨g, rfl, (own_blk h.rows.er g rfl).lt, ?_⟩
  have e := flat_at ec 5 (fun _ => rfl) Es k 1 (by omega) (by decide)
  have := hg (k * 5 + 1) (.int .i64 (Es[k]'(by omega)).1.start) (e.trans rfl)
  rw [Nat.zero_add] at this
  rw [this]
  congr 2
  unfold enAt
  rw [← h.en, List.getD_eq_getElem?_getD, List.getElem?_map, List.getElem?_eq_getElem (by omega)]
  rfl
set_option maxRecDepth 100000 in
set_option maxHeartbeats 2000000 in
theorem isBare_any {W : World} {b ab : Nat} {s : St} {iq eq tq : Option Addr} {ia ea ta : Nat} {Es : List Em} (h : As W b ab s iq eq tq ia ea ta Es) :
    Calls Tryz.prog 58 #[.pointer (some ⟨ab, 0, none⟩)] W fun e w' => e = .returned (.bool (bareS s.c)) ∧ Below W.heap.size W w' := by
  obtain ⟨R, HR⟩ : ∃ R, Hid (R = bareS s.c) := ⟨_, rfl⟩
  rw [← HR.out]
  obtain ⟨x0, -⟩ := blk_cell h.box 0 (.slice iq s.c.ins.length ia) rfl
  obtain ⟨x1, -⟩ := blk_cell h.box 1 (.slice eq s.c.ens.length ea) rfl
  have hU : R = (decide (0 < s.c.ens.length) && (enAt s.c.ens (s.c.ens.length - 1)).start == (s.c.ins.length : Int)) := HR.out
  have l1 := h.l1
  have l2 := h.l2
  rcases Nat.eq_zero_or_pos s.c.ens.length with hz | hp
  · have HF : Hid (R = false) := by show R = false; rw [hU, hz]; rfl
    have k1 : IntKind.i64.wrap ((s.c.ens.length : Int) - 1) = -1 := by rw [hz]; decide
    have y0 := cell_regrown x0
    have y1 := cell_regrown x1
    clear h hU HR hz l1 l2
    generalize s.c.ens.length = n at *
    generalize s.c.ins.length = m at *
    go_enter Tryz.func58, Tryz.ntmps58
    go_upto_region 2 with fail
    try rw [k1]
    go_wp2_with fail
    refine wp_region_quiet_below (by kernel_rfl) (by kernel_rfl) ?_
    repeat (first | go_big_quiet_step (first | fail) | quiet_step (first | fail))
    refine wpQuiet_nil ?_
    intro _ hw'
    obtain ⟨⟨dq, osq⟩, hw''⟩ := hw'
    subst hw''
    have hY := below_regrown W dq osq
    change Exit.then _ _ Exit.normal _ (Sort.grow (redrawn W dq) osq)
    generalize Sort.grow (redrawn W dq) osq = Y at hY ⊢
    go_wp2
    go_ret
    exact ⟨by rw [HF.out]; rfl, hY⟩
  · obtain ⟨g, rfl, hg, c0⟩ := h.entAt (s.c.ens.length - 1) (by omega)
    have k1 : IntKind.i64.wrap ((s.c.ens.length : Int) - 1) = ((s.c.ens.length - 1 : Nat) : Int) := by rw [IntKind.wrap_i64]; omega
    have HF : Hid (R = ((enAt s.c.ens (s.c.ens.length - 1)).start == (s.c.ins.length : Int))) := by show R = _; rw [hU, decide_eq_true hp]; rfl
    have k2 : (0 : Int) ≤ ((s.c.ens.length - 1 : Nat) : Int) := by omega
    have k3 : ((s.c.ens.length - 1 : Nat) : Int) < (s.c.ens.length : Int) := by omega
    have y0 := cell_regrown x0
    have y1 := cell_regrown x1
    have yc := cell_regrown c0
    clear h hU HR hp l1 l2 hg
    generalize (enAt s.c.ens (s.c.ens.length - 1)).start = st at *
    generalize s.c.ens.length - 1 = k at *
    generalize s.c.ens.length = n at *
    generalize s.c.ins.length = m at *
    go_enter Tryz.func58, Tryz.ntmps58
    go_upto_region 2 with fail
    try rw [k1]
    go_wp2_with fail
    refine wp_region_quiet_below (by kernel_rfl) (by kernel_rfl) ?_
    repeat (first | go_big_quiet_step (first | fail) | quiet_step (first | fail))
    refine wpQuiet_nil ?_
    intro _ hw'
    obtain ⟨⟨dq, osq⟩, hw''⟩ := hw'
    subst hw''
    have hY := below_regrown W dq osq
    change Exit.then _ _ Exit.normal _ (Sort.grow (redrawn W dq) osq)
    generalize Sort.grow (redrawn W dq) osq = Y at hY ⊢
    go_wp2
    go_ret
    exact ⟨by rw [HF.out]; rfl, hY⟩
end Go.Proofs.YtcjnejdemfemfaaGreatDoor
namespace Go.Proofs.YtcjnejdemfemfaaGreatDoor
open Go.RowKit

def AsX (W : World) (b ab : Nat) (s : St) : Prop := ∃ iq eq tq ia ea ta Es, As W b ab s iq eq tq ia ea ta Es
theorem AsX.next {W W' : World} {b ab : Nat} {s : St} (h : AsX W b ab s) (k : Below W.heap.size W W') : AsX W' b ab s := by
  obtain ⟨iq, eq, tq, ia, ea, ta, Es, h⟩ := h
  exact ⟨iq, eq, tq, ia, ea, ta, Es, h.next k⟩
theorem Rows.setA {W : World} {b p j : Nat} {C : Array Value} {iv ev' tv' : Value} {ins : List In} {Es : List Em} {txs : List ByteArray} (h : Rows W b iv ev' tv' ins Es txs) (hp : W.heap[p]? = some (.cells C 59)) (u : Value) : Rows (W.setCell ⟨p, j, none⟩ u) b iv ev' tv' ins Es txs := h.keep fun g t n hb ht => set_heap (a := ⟨p, j, none⟩) (fun q => by
    have q' : g = p := q
    subst q'
    have hr : Blk W g 59 C.size := ⟨_, hp, Nat.le_refl _⟩
    refine hb.ne hr ?_ rfl
    rcases ht with e | e | e | e <;> (subst e; decide))
theorem As.main {W : World} {b ab : Nat} {s : St} {iq eq tq : Option Addr} {ia ea ta : Nat} {Es : List Em} (h : As W b ab s iq eq tq ia ea ta Es) (m : Int) : As ((W.setCell ⟨ab, 3, none⟩ (.int .i64 m)).setCell ⟨ab, 4, none⟩ (.bool true)) b ab ⟨{ s.c with main := m }, true⟩ iq eq tq ia ea ta Es :=
  ⟨set_blk (set_blk h.box (.int .i64 m)) (.bool true), (h.rows.setA h.box _).setA (set_blk h.box (.int .i64 m)) _, h.en, h.lb, h.l1, h.l2, h.l3, h.sp⟩
set_option maxRecDepth 100000 in
set_option maxHeartbeats 2000000 in
theorem lacks_any {W : World} {b ab : Nat} {s : St} {iq eq tq : Option Addr} {ia ea ta : Nat} {Es : List Em} (h : As W b ab s iq eq tq ia ea ta Es) :
    Calls Tryz.prog 29 #[.pointer (some ⟨ab, 0, none⟩)] W fun e w' => e = .returned (.bool (lackS s)) ∧ Below W.heap.size W w' := by
  obtain ⟨R, HR⟩ : ∃ R, Hid (R = lackS s) := ⟨_, rfl⟩
  rw [← HR.out]
  obtain ⟨x1, -⟩ := blk_cell h.box 1 (.slice eq s.c.ens.length ea) rfl
  obtain ⟨x3, -⟩ := blk_cell h.box 3 (.int .i64 s.c.main) rfl
  obtain ⟨x4, -⟩ := blk_cell h.box 4 (.bool s.begun) rfl
  have HU : Hid (R = (!s.begun || decide ((s.c.ens.length : Int) ≤ s.c.main) || bareS s.c)) := HR.out
  have c1 : ∀ d os, Calls Tryz.prog 58 #[.pointer (some ⟨ab, 0, none⟩)] (Sort.grow (redrawn W d) os) fun e w'' => e = .returned (.bool (bareS s.c)) ∧ ∃ z : Regrown, w'' = Sort.grow (redrawn W z.d) z.os := fun d os =>
    Calls.regrown_of (isBare_any (h.next (below_regrown W d os)))
  have y1 := cell_regrown x1
  have y3 := cell_regrown x3
  have y4 := cell_regrown x4
  clear h HR x1 x3 x4
  generalize bareS s.c = bb at *
  generalize s.c.ens.length = n at *
  generalize s.c.main = mn at *
  generalize s.begun = bg at *
  go_enter Tryz.func29, Tryz.ntmps29
  go_wp2_with fail
  cases bg with
  | false =>
    have HF : Hid (R = true) := by show R = true; rw [HU.out]; rfl
    clear HU
    refine wp_region_quiet_below (by kernel_rfl) (by kernel_rfl) ?_
    repeat (first | go_big_quiet_step (first | with_reducible exact c1 _ _) | quiet_step (first | with_reducible exact c1 _ _))
    refine wpQuiet_nil ?_
    intro _ hw'
    obtain ⟨⟨dq, osq⟩, hw''⟩ := hw'
    subst hw''
    have hY := below_regrown W dq osq
    change Exit.then _ _ Exit.normal _ (Sort.grow (redrawn W dq) osq)
    generalize Sort.grow (redrawn W dq) osq = Y at hY ⊢
    clear c1
    go_wp2
    go_ret
    exact ⟨by rw [HF.out]; rfl, hY⟩
  | true =>
    by_cases hle : (n : Int) ≤ mn
    · have k1 : decide ((n : Int) ≤ mn) = true := decide_eq_true hle
      have HF : Hid (R = true) := by show R = true; rw [HU.out, k1]; rfl
      clear HU
      refine wp_region_quiet_below (by kernel_rfl) (by kernel_rfl) ?_
      repeat (first | go_big_quiet_step (first | with_reducible exact c1 _ _) | quiet_step (first | with_reducible exact c1 _ _))
      refine wpQuiet_nil ?_
      intro _ hw'
      obtain ⟨⟨dq, osq⟩, hw''⟩ := hw'
      subst hw''
      have hY := below_regrown W dq osq
      change Exit.then _ _ Exit.normal _ (Sort.grow (redrawn W dq) osq)
      generalize Sort.grow (redrawn W dq) osq = Y at hY ⊢
      clear c1
      go_wp2
      go_ret
      exact ⟨by rw [HF.out]; rfl, hY⟩
    · have k1 : decide ((n : Int) ≤ mn) = false := decide_eq_false hle
      have HF : Hid (R = bb) := by show R = bb; rw [HU.out, k1]; cases bb <;> rfl
      clear HU
      refine wp_region_quiet_below (by kernel_rfl) (by kernel_rfl) ?_
      repeat (first | go_big_quiet_step (first | with_reducible exact c1 _ _) | quiet_step (first | with_reducible exact c1 _ _))
      refine wpQuiet_nil ?_
      intro _ hw'
      obtain ⟨⟨dq, osq⟩, hw''⟩ := hw'
      subst hw''
      have hY := below_regrown W dq osq
      change Exit.then _ _ Exit.normal _ (Sort.grow (redrawn W dq) osq)
      generalize Sort.grow (redrawn W dq) osq = Y at hY ⊢
      clear c1
      go_wp2
      go_ret
      exact ⟨by rw [HF.out]; rfl, hY⟩
set_option maxRecDepth 100000 in
set_option maxHeartbeats 2000000 in
theorem takesMain_any {W : World} {b ab : Nat} {s : St} (h : AsX W b ab s) (ht : Tabs W) {q : Option Addr} {n cap : Nat} {ws : List Bs} (hw : Wds W W.heap.size q n cap ws) (hn : 0 < n) :
    Calls Tryz.prog 54 #[.pointer (some ⟨ab, 0, none⟩), .slice q n cap] W fun e w' => e = .returned (.bool (takeMain s ws).isSome) ∧ Hid ((∀ s', takeMain s ws = some s' → AsX w' b ab s') ∧ Below b W w') := by
  obtain ⟨R, HR⟩ : ∃ R, Hid (R = takeMain s ws) := ⟨_, rfl⟩
  rw [← HR.out]
  obtain ⟨B, HB⟩ : ∃ B : Bool, Hid (B = R.isSome) := ⟨_, rfl⟩
  rw [← HB.out]
  obtain ⟨iq, eq, tq, ia, ea, ta, Es, ha⟩ := h
  have HbW : Hid (b ≤ W.heap.size) := by have h1 := ha.lb; have h2 := ha.lt; exact Nat.le_trans h1 (Nat.le_of_lt h2)
  obtain ⟨g, p, rfl, hg, c0⟩ := hw.at 0 hn
  rw [Nat.add_zero] at c0
  have hU : R = if wAt ws 0 = [109, 97, 105, 110] ∧ ws.length = 2 then (readO 8 (wAt ws 1)).map fun m => ⟨{ s.c with main := m }, true⟩ else none := HR.out
  rw [← hw.len] at hU
  have n0 : (0 : Int) < (n : Int) := by omega
  have hd0 : (YtcjnejdemfemfaaGreatDoor.bk (wAt ws 0)).data.toList = wAt ws 0 := bk_data _
  by_cases h1 : wAt ws 0 = [109, 97, 105, 110]
  case neg =>
    have HF : Hid (R = none) := by show R = none; rw [hU, if_neg (fun e => h1 e.1)]
    have e1 : ((YtcjnejdemfemfaaGreatDoor.bk (wAt ws 0)).toList == [109, 97, 105, 110]) = false := by rw [toL, hd0, beq_eq_false_iff_ne]; exact h1
    have hBf : B = false := by rw [HB.out, HF.out]; rfl
    subst hBf
    clear hw hU hd0 h1 HR ha ht
    generalize YtcjnejdemfemfaaGreatDoor.bk (wAt ws 0) = x0 at *
    go_enter Tryz.func54, Tryz.ntmps54
    go_wp2
    go_ret
    refine ⟨rfl, ?_, Below.refl _ _⟩
    intro s' e
    rw [HF.out] at e
    cases e
  have e1 : ((YtcjnejdemfemfaaGreatDoor.bk (wAt ws 0)).toList == [109, 97, 105, 110]) = true := by rw [toL, hd0, h1]; rfl
  by_cases h2 : n = 2
  case neg =>
    have HF : Hid (R = none) := by show R = none; rw [hU, if_neg (fun e => h2 e.2)]
    have e2 : ((n : Int) == 2) = false := by rw [beq_eq_false_iff_ne]; omega
    have hBf : B = false := by rw [HB.out, HF.out]; rfl
    subst hBf
    clear hw hU hd0 h1 HR ha ht h2
    generalize YtcjnejdemfemfaaGreatDoor.bk (wAt ws 0) = x0 at *
    go_enter Tryz.func54, Tryz.ntmps54
    go_wp2
    go_ret
    refine ⟨rfl, ?_, Below.refl _ _⟩
    intro s' e
    rw [HF.out] at e
    cases e
  rw [if_pos ⟨h1, h2⟩] at hU
  have HU : Hid (R = _) := hU
  have hl := hw.len
  have hz : (YtcjnejdemfemfaaGreatDoor.bk (wAt ws 1)).size ≤ 281474976710656 := by
    rw [bk_size]
    have e : wAt ws 1 = ws[1]'(by omega) := by unfold wAt; rw [List.getD_eq_getElem?_getD, List.getElem?_eq_getElem (by omega)]; rfl
    rw [e]
    exact hw.sz _ (List.getElem_mem _)
  obtain ⟨g', p', hgp, -, c1⟩ := hw.at 1 (by omega)
  cases hgp
  have rX := read_any 8 (YtcjnejdemfemfaaGreatDoor.bk (wAt ws 1)) W ht (by decide) hz
  rw [show lt (YtcjnejdemfemfaaGreatDoor.bk (wAt ws 1)) = wAt ws 1 from bk_data _] at rX
  have rY : Calls Tryz.prog 71 #[.int .i64 8, .string (YtcjnejdemfemfaaGreatDoor.bk (wAt ws 1))] W fun e w' => ∃ n' : Int, e = .returned (.tuple #[.int .i64 n', .bool (readO 8 (wAt ws 1)).isSome]) ∧ Hid ((∀ n, readO 8 (wAt ws 1) = some n → n' = n) ∧ Below W.heap.size W w') := rX
  have HA : Hid (As W b ab s iq eq tq ia ea ta Es) := ha
  have hBe : B = (readO 8 (wAt ws 1)).isSome := by rw [HB.out, HU.out]; cases readO 8 (wAt ws 1) <;> rfl
  obtain ⟨RO, HRO⟩ : ∃ RO, Hid (RO = readO 8 (wAt ws 1)) := ⟨_, rfl⟩
  rw [← HRO.out] at hBe rY HU
  rw [← hBe] at rY
  subst h2
  clear hw hU hd0 h1 HR ha ht rX hl hz HB hBe HRO n0
  generalize YtcjnejdemfemfaaGreatDoor.bk (wAt ws 0) = x0 at *
  generalize YtcjnejdemfemfaaGreatDoor.bk (wAt ws 1) = x1 at *
  go_enter Tryz.func54, Tryz.ntmps54
  go_upto_region 4 with (first
    | (go_at_call 71; refine rY.mono ?_; rintro e W1 ⟨m, rfl, hw1⟩)
    | go_in)
  have A1 := HA.out.next hw1.out.2
  obtain ⟨z3, y3⟩ := blk_cell A1.box 3 (.int .i64 s.c.main) rfl
  obtain ⟨z4, y4⟩ := blk_cell A1.box 4 (.bool s.begun) rfl
  have HA2 : Hid (As ((W1.setCell ⟨ab, 3, none⟩ (.int .i64 m)).setCell ⟨ab, 4, none⟩ (.bool true)) b ab ⟨{ s.c with main := m }, true⟩ iq eq tq ia ea ta Es) := A1.main m
  have HB2 : Hid (Below b W ((W1.setCell ⟨ab, 3, none⟩ (.int .i64 m)).setCell ⟨ab, 4, none⟩ (.bool true))) := ((hw1.out.2.mono HbW.out).setCell (p := ⟨ab, 3, none⟩) A1.lb _).setCell (p := ⟨ab, 4, none⟩) A1.lb _
  have HV : Hid (∀ n, RO = some n → m = n) := hw1.out.1
  clear A1 hw1 rY HA
  go_wp2
  generalize (W1.setCell ⟨ab, 3, none⟩ (.int .i64 m)).setCell ⟨ab, 4, none⟩ (.bool true) = W2 at HA2 HB2 ⊢
  go_ret
  refine ⟨rfl, ?_, HB2.out⟩
  intro s' e
  rw [HU.out] at e
  cases hRO : RO with
  | none => rw [hRO] at e; cases e
  | some v =>
    rw [hRO] at e
    cases e
    rw [← HV.out v hRO]
    exact ⟨_, _, _, _, _, _, _, HA2.out⟩
end Go.Proofs.YtcjnejdemfemfaaGreatDoor
namespace Go.Proofs.YtcjnejdemfemfaaGreatDoor
open Go.RowKit

theorem As.boxA {W W' : World} {b ab : Nat} {s : St} {iq eq tq : Option Addr} {ia ea ta : Nat} {Es : List Em} (h : As W b ab s iq eq tq ia ea ta Es) {D : Obj} {e : TypeId} {sz : Nat} {v : Value} {n : Nat} {xs : List Value} (ho : W.ownsRow b e sz v n xs) (he : 59 ≠ e) (hg : (W.alloc D).grownBy W' v.ownBlock) : W'.heap[ab]? = some (.cells (av iq eq tq ia ea ta s) 59) :=
  (hg.block ab (by have := h.lt; simp; omega) (fun q => own_ne ho (b := ab) (t := 59) (m := 5) ⟨_, h.box, Nat.le_refl _⟩ he q.symm)).trans ((Below.heap_alloc _ _ _ h.lt).trans h.box)
theorem As.appT {W W' : World} {b ab : Nat} {s : St} {iq eq tq : Option Addr} {ia ea ta : Nat} {Es : List Em} (h : As W b ab s iq eq tq ia ea ta Es) {D : Obj} {t : ByteArray} {q4 : Option Addr} {c4 : Nat} (hg : (W.alloc D).grownBy W' (Value.slice tq s.c.txs.length ta).ownBlock) (ho : W'.ownsRow b 9 1 (.slice q4 (s.c.txs.length + 1) c4) (s.c.txs.length + 1) (tv s.c.txs ++ [.string t])) (hl : s.c.txs.length < 4000) : As (W'.setCell ⟨ab, 2, none⟩ (.slice q4 (s.c.txs.length + 1) c4)) b ab ⟨{ s.c with txs := s.c.txs ++ [t] }, s.begun⟩ iq eq q4 ia ea c4 Es := by
  have hb := h.boxA h.rows.tr (by decide) hg
  have e : (s.c.txs ++ [t]).length = s.c.txs.length + 1 := by simp
  refine ⟨?_, ?_, h.en, h.lb, h.l1, h.l2, by show (s.c.txs ++ [t]).length ≤ _; omega, h.sp⟩
  · show _ = some (Obj.cells #[_, _, .slice q4 (s.c.txs ++ [t]).length c4, _, _] _)
    rw [e]
    exact set_blk hb _
  · show Rows _ _ _ _ (.slice q4 (s.c.txs ++ [t]).length c4) _ _ (s.c.txs ++ [t])
    rw [e]
    exact (h.rows.appT t D hg ho).setA hb _
theorem As.appI {W W' : World} {b ab : Nat} {s : St} {iq eq tq : Option Addr} {ia ea ta : Nat} {Es : List Em} (h : As W b ab s iq eq tq ia ea ta Es) {D : Obj} {x : In} {q4 : Option Addr} {c4 : Nat} (hg : (W.alloc D).grownBy W' (Value.slice iq s.c.ins.length ia).ownBlock) (ho : W'.ownsRow b 48 3 (.slice q4 (s.c.ins.length + 1) c4) (s.c.ins.length + 1) (s.c.ins.flatMap ic ++ ic x)) (hl : s.c.ins.length < 60000) : As (W'.setCell ⟨ab, 0, none⟩ (.slice q4 (s.c.ins.length + 1) c4)) b ab ⟨{ s.c with ins := s.c.ins ++ [x] }, s.begun⟩ q4 eq tq c4 ea ta Es := by
  have hb := h.boxA h.rows.ir (by decide) hg
  have e : (s.c.ins ++ [x]).length = s.c.ins.length + 1 := by simp
  refine ⟨?_, ?_, h.en, h.lb, h.l1, by show (s.c.ins ++ [x]).length ≤ _; omega, h.l3, h.sp⟩
  · show _ = some (Obj.cells #[.slice q4 (s.c.ins ++ [x]).length c4, _, _, _, _] _)
    rw [e]
    exact set_blk hb _
  · show Rows _ _ (.slice q4 (s.c.ins ++ [x]).length c4) _ _ (s.c.ins ++ [x]) _ _
    rw [e]
    exact (h.rows.appI x D hg ho).setA hb _
theorem As.appE {W W' : World} {b ab : Nat} {s : St} {iq eq tq : Option Addr} {ia ea ta : Nat} {Es : List Em} (h : As W b ab s iq eq tq ia ea ta Es) {D : Obj} {x : Em} {q4 : Option Addr} {c4 : Nat} (hg : (W.alloc D).grownBy W' (Value.slice eq s.c.ens.length ea).ownBlock) (ho : W'.ownsRow b 43 5 (.slice q4 (s.c.ens.length + 1) c4) (s.c.ens.length + 1) (Es.flatMap ec ++ ec x)) (hx : W.ownsRow b 41 1 (.slice x.2.1 x.1.sorts.length x.2.2) x.1.sorts.length (sv x.1.sorts)) (hl : s.c.ens.length < 60) (hsp : SepE (Es ++ [x])) : As (W'.setCell ⟨ab, 1, none⟩ (.slice q4 (s.c.ens.length + 1) c4)) b ab ⟨{ s.c with ens := s.c.ens ++ [x.1] }, s.begun⟩ iq q4 tq ia c4 ta (Es ++ [x]) := by
  have hb := h.boxA h.rows.er (by decide) hg
  have e : (s.c.ens ++ [x.1]).length = s.c.ens.length + 1 := by simp
  have eL : Es.length = s.c.ens.length := by rw [← h.en, List.length_map]
  refine ⟨?_, ?_, by show _ = s.c.ens ++ [x.1]; rw [List.map_append, h.en]; rfl, h.lb, by show (s.c.ens ++ [x.1]).length ≤ _; omega, h.l2, h.l3, hsp⟩
  · show _ = some (Obj.cells #[_, .slice q4 (s.c.ens ++ [x.1]).length c4, _, _, _] _)
    rw [e]
    exact set_blk hb _
  · show Rows _ _ _ (.slice q4 (s.c.ens ++ [x.1]).length c4) _ _ _ _
    rw [e]
    exact (h.rows.appE x D hg (by rw [eL]; exact ho) hx).setA hb _
set_option maxRecDepth 100000 in
set_option maxHeartbeats 2000000 in
theorem takesPool_any {W : World} {b ab : Nat} {s : St} (h : AsX W b ab s) {q : Option Addr} {n cap : Nat} {ws : List Bs} (hw : Wds W W.heap.size q n cap ws) (hne : ∀ x ∈ ws, x ≠ []) :
    Calls Tryz.prog 55 #[.pointer (some ⟨ab, 0, none⟩), .slice q n cap] W fun e w' => e = .returned (.bool (takePool s ws).isSome) ∧ Hid ((∀ s', takePool s ws = some s' → AsX w' b ab s') ∧ Below b W w') := by
  obtain ⟨R, HR⟩ : ∃ R, Hid (R = takePool s ws) := ⟨_, rfl⟩
  rw [← HR.out]
  obtain ⟨B, HB⟩ : ∃ B : Bool, Hid (B = R.isSome) := ⟨_, rfl⟩
  rw [← HB.out]
  obtain ⟨iq, eq, tq, ia, ea, ta, Es, ha⟩ := h
  have HbW : Hid (b ≤ W.heap.size) := by have h1 := ha.lb; have h2 := ha.lt; exact Nat.le_trans h1 (Nat.le_of_lt h2)
  have hU : R = if ws.length = 2 ∧ s.c.ens.length = 0 ∧ s.c.txs.length ≠ 4000 then (qdS (wAt ws 1)).map fun t => ⟨{ s.c with txs := s.c.txs ++ [YtcjnejdemfemfaaGreatDoor.bk t] }, s.begun⟩ else none := HR.out
  rw [← hw.len] at hU
  obtain ⟨x1, -⟩ := blk_cell ha.box 1 (.slice eq s.c.ens.length ea) rfl
  obtain ⟨x2, -⟩ := blk_cell ha.box 2 (.slice tq s.c.txs.length ta) rfl
  have l3 := ha.l3
  by_cases hc : n = 2 ∧ s.c.ens.length = 0 ∧ s.c.txs.length ≠ 4000
  case neg =>
    have HF : Hid (R = none) := by show R = none; rw [hU, if_neg hc]
    have hBf : B = false := by rw [HB.out, HF.out]; rfl
    have k : (¬ (n : Int) = 2) ∨ (n = 2 ∧ (0 : Int) < (s.c.ens.length : Int)) ∨ (n = 2 ∧ ¬ (0 : Int) < (s.c.ens.length : Int) ∧ (s.c.txs.length : Int) = 4000) := by
      by_cases h2 : n = 2
      · by_cases h3 : s.c.ens.length = 0
        · refine .inr (.inr ⟨h2, by omega, ?_⟩)
          by_cases h4 : s.c.txs.length = 4000
          · omega
          · exact absurd ⟨h2, h3, h4⟩ hc
        · exact .inr (.inl ⟨h2, by omega⟩)
      · exact .inl (by omega)
    subst hBf
    clear hw hU HR ha hc hne l3
    generalize s.c.ens.length = n1 at *
    generalize s.c.txs.length = n2 at *
    go_enter Tryz.func55, Tryz.ntmps55
    rcases k with k1 | ⟨rfl, k2⟩ | ⟨rfl, k2, k3⟩
    all_goals
      go_wp2
      go_ret
      refine ⟨rfl, ?_, Below.refl _ _⟩
      intro s' e
      rw [HF.out] at e
      cases e
  rw [if_pos hc] at hU
  obtain ⟨h2, h3, h4⟩ := hc
  have HU : Hid (R = _) := hU
  have hl := hw.len
  have hmem : wAt ws 1 ∈ ws := by
    have e : wAt ws 1 = ws[1]'(by omega) := by unfold wAt; rw [List.getD_eq_getElem?_getD, List.getElem?_eq_getElem (by omega)]; rfl
    rw [e]
    exact List.getElem_mem _
  have hz : (YtcjnejdemfemfaaGreatDoor.bk (wAt ws 1)).size ≤ 281474976710656 := by rw [bk_size]; exact hw.sz _ hmem
  have hz0 : 0 < (YtcjnejdemfemfaaGreatDoor.bk (wAt ws 1)).size := by
    rw [bk_size]
    exact List.length_pos_iff.2 (hne _ hmem)
  obtain ⟨g, p, rfl, hg, c1⟩ := hw.at 1 (by omega)
  have rY := readQuoted_any (YtcjnejdemfemfaaGreatDoor.bk (wAt ws 1)) hz0 (by omega) W
  rw [show lt (YtcjnejdemfemfaaGreatDoor.bk (wAt ws 1)) = wAt ws 1 from bk_data _] at rY
  have HA : Hid (As W b ab s iq eq tq ia ea ta Es) := ha
  have hBe : B = (qdS (wAt ws 1)).isSome := by rw [HB.out, HU.out]; cases qdS (wAt ws 1) <;> rfl
  obtain ⟨RO, HRO⟩ : ∃ RO, Hid (RO = qdS (wAt ws 1)) := ⟨_, rfl⟩
  rw [← HRO.out] at hBe rY HU
  rw [← hBe] at rY
  rw [h3] at x1
  have k3 : ¬ (s.c.txs.length : Int) = 4000 := by omega
  subst h2
  have HL : Hid (s.c.txs.length < 4000) := by show _ < _; omega
  have HLN : Hid (s.c.txs.length + 1 ≤ 1000000000) := by show _ ≤ _; omega
  clear hw hU HR ha hl hz hz0 HB hBe HRO hne hmem h3 h4 l3 hg
  generalize YtcjnejdemfemfaaGreatDoor.bk (wAt ws 1) = y1 at *
  go_enter Tryz.func55, Tryz.ntmps55
  go_upto_region 4 with (first
    | (go_at_call 72; refine rY.mono ?_; rintro e W1 ⟨t, rfl, hw1⟩)
    | go_in)
  have A1 := HA.out.next hw1.out.2
  obtain ⟨z2, -⟩ := blk_cell A1.box 2 (.slice tq s.c.txs.length ta) rfl
  have HA1 : Hid (As W1 b ab s iq eq tq ia ea ta Es) := A1
  have HO1 : Hid (W1.ownsRow b 9 1 (.slice tq s.c.txs.length ta) s.c.txs.length (tv s.c.txs)) := A1.rows.tr
  have HV : Hid (∀ t', RO = some t' → t = YtcjnejdemfemfaaGreatDoor.bk t') := hw1.out.1
  have HB1 : Hid (Below b W W1) := hw1.out.2.mono HbW.out
  have hzr : b ≤ W1.heap.size := Nat.le_trans HbW.out hw1.out.2.size
  have H1 := one1 (.string t) rfl
  have HX : Hid (∀ v4 w4, w4.ownsRow b 9 1 v4 (s.c.txs.length + 1) (tv s.c.txs ++ [.string t]) → (W1.alloc (.cells #[.string t] 9)).grownBy w4 (Value.slice tq s.c.txs.length ta).ownBlock → ∃ q4 c4, v4 = .slice q4 (s.c.txs.length + 1) c4 ∧ (w4.cell? ⟨ab, 2, none⟩ = some (.slice tq s.c.txs.length ta) ∧ w4.frozen? ⟨ab, 2, none⟩ = false) ∧ Hid (As (w4.setCell ⟨ab, 2, none⟩ (.slice q4 (s.c.txs.length + 1) c4)) b ab ⟨{ s.c with txs := s.c.txs ++ [t] }, s.begun⟩ iq eq q4 ia ea c4 Es ∧ Below b W (w4.setCell ⟨ab, 2, none⟩ (.slice q4 (s.c.txs.length + 1) c4)))) := fun v4 w4 ho hg => by
    obtain ⟨q4, c4, rfl, -, -⟩ := own_slice ho
    exact ⟨q4, c4, rfl, blk_cell (HA1.out.boxA HA1.out.rows.tr (by decide) hg) 2 _ rfl, HA1.out.appT hg ho HL.out, ((HB1.out.alloc hzr _).grown hg (by simp; omega) (own_ge HO1.out)).setCell (p := ⟨ab, 2, none⟩) HA1.out.lb _⟩
  clear A1 hw1 rY HA x1 x2
  generalize s.c.txs.length = nt at *
  go_wp2_with (first
    | (at_builtin; refine wpList_app 24 9 _ 1 16 Tryz.underlying24 info9 (by rfl) (by decide) (by decide) (by rfl) _ _ (by rfl) b (.slice tq nt ta) nt (tv s.c.txs) (by rfl) HO1.out _ (by rfl) H1 (by rfl) HLN.out hzr ?_; intro v4 w4 ho4 hg4; obtain ⟨q4, c4, rfl, ⟨f0, f1⟩, HA4⟩ := HX.out v4 w4 ho4.out hg4.out.1)
    | go_in)
  generalize w4.setCell ⟨ab, 2, none⟩ (.slice q4 (nt + 1) c4) = W5 at HA4 ⊢
  go_ret
  refine ⟨rfl, ?_, HA4.out.2⟩
  intro s' e
  rw [HU.out] at e
  cases hRO : RO with
  | none => rw [hRO] at e; cases e
  | some v =>
    rw [hRO] at e
    cases e
    show AsX W5 b ab ⟨{ s.c with txs := s.c.txs ++ [YtcjnejdemfemfaaGreatDoor.bk v] }, s.begun⟩
    rw [← HV.out v hRO]
    exact ⟨_, _, _, _, _, _, _, HA4.out.1⟩
end Go.Proofs.YtcjnejdemfemfaaGreatDoor
namespace Go.Proofs.YtcjnejdemfemfaaGreatDoor
open Go.RowKit

set_option maxRecDepth 100000 in
set_option maxHeartbeats 4000000 in
theorem takesInstr_any {W : World} {b ab : Nat} {s : St} (h : AsX W b ab s) (ht : Tabs W) {q : Option Addr} {n cap : Nat} {ws : List Bs} (hw : Wds W W.heap.size q n cap ws) (hn : 0 < n) :
    Calls Tryz.prog 57 #[.pointer (some ⟨ab, 0, none⟩), .slice q n cap] W fun e w' => e = .returned (.bool (takeIns s ws).isSome) ∧ Hid ((∀ s', takeIns s ws = some s' → AsX w' b ab s') ∧ Below b W w') := by
  obtain ⟨R, HR⟩ : ∃ R, Hid (R = takeIns s ws) := ⟨_, rfl⟩
  rw [← HR.out]
  obtain ⟨B, HB⟩ : ∃ B : Bool, Hid (B = R.isSome) := ⟨_, rfl⟩
  rw [← HB.out]
  obtain ⟨iq, eq, tq, ia, ea, ta, Es, ha⟩ := h
  have HbW : Hid (b ≤ W.heap.size) := by have h1 := ha.lb; have h2 := ha.lt; exact Nat.le_trans h1 (Nat.le_of_lt h2)
  have hU : R = if s.c.ens.length ≠ 0 ∧ s.c.ins.length ≠ 60000 then (rdIns ws).map fun x => ⟨{ s.c with ins := s.c.ins ++ [x] }, s.begun⟩ else none := HR.out
  obtain ⟨x0, -⟩ := blk_cell ha.box 0 (.slice iq s.c.ins.length ia) rfl
  obtain ⟨x1, -⟩ := blk_cell ha.box 1 (.slice eq s.c.ens.length ea) rfl
  have l2 := ha.l2
  by_cases hc : s.c.ens.length ≠ 0 ∧ s.c.ins.length ≠ 60000
  case neg =>
    have HF : Hid (R = none) := by show R = none; rw [hU, if_neg hc]
    have hBf : B = false := by rw [HB.out, HF.out]; rfl
    have k : s.c.ens.length = 0 ∨ ((¬ s.c.ens.length = 0) ∧ s.c.ins.length = 60000) := by omega
    subst hBf
    clear hw hU HR ha hc l2 ht
    generalize s.c.ens.length = n1 at *
    generalize s.c.ins.length = n2 at *
    go_enter Tryz.func57, Tryz.ntmps57
    rcases k with rfl | ⟨k1, rfl⟩
    all_goals
      go_wp2
      go_ret
      refine ⟨rfl, ?_, Below.refl _ _⟩
      intro s' e
      rw [HF.out] at e
      cases e
  rw [if_pos hc] at hU
  obtain ⟨h2, h3⟩ := hc
  have HU : Hid (R = _) := hU
  have rY := readInstr_any W q n cap ws ht hw hn
  have HA : Hid (As W b ab s iq eq tq ia ea ta Es) := ha
  have hBe : B = (rdIns ws).isSome := by rw [HB.out, HU.out]; cases rdIns ws <;> rfl
  obtain ⟨RO, HRO⟩ : ∃ RO, Hid (RO = rdIns ws) := ⟨_, rfl⟩
  rw [← HRO.out] at hBe rY HU
  rw [← hBe] at rY
  have k1 : ¬ (s.c.ens.length : Int) = 0 := by omega
  have k1n : ¬ s.c.ens.length = 0 := by omega
  have k1b : ((s.c.ens.length : Int) == 0) = false := by rw [beq_eq_false_iff_ne]; omega
  have k2b : ((s.c.ins.length : Int) == 60000) = false := by rw [beq_eq_false_iff_ne]; omega
  have k2 : ¬ (s.c.ins.length : Int) = 60000 := by omega
  have HL : Hid (s.c.ins.length < 60000) := by show _ < _; omega
  have HLN : Hid (s.c.ins.length + 1 ≤ 1000000000) := by show _ ≤ _; omega
  clear hw hU HR ha HB hBe HRO h2 h3 l2 ht hn
  generalize s.c.ens.length = ne at *
  go_enter Tryz.func57, Tryz.ntmps57
  go_upto_region 4 with (first
    | (go_at_call 74; refine rY.mono ?_; rintro e W1 ⟨o', a', b', rfl, hw1⟩)
    | go_in)
  obtain ⟨W2, hW2⟩ : ∃ W2, W2 = W1.alloc (.cells #[.int .i64 o', .int .i64 a', .int .i64 b'] 48) := ⟨_, rfl⟩
  have nb2 : Below W1.heap.size W1 W2 := by rw [hW2]; exact (Below.refl _ W1).alloc (Nat.le_refl _) _
  have d0 : W2.cell? ⟨W1.heap.size, 0, none⟩ = some (.int .i64 o') := by rw [hW2]; exact (cells_new W1 #[.int .i64 o', .int .i64 a', .int .i64 b'] 48 0 (.int .i64 o') rfl).1
  have d1 : W2.cell? ⟨W1.heap.size, 1, none⟩ = some (.int .i64 a') := by rw [hW2]; exact (cells_new W1 #[.int .i64 o', .int .i64 a', .int .i64 b'] 48 1 (.int .i64 a') rfl).1
  have d2 : W2.cell? ⟨W1.heap.size, 2, none⟩ = some (.int .i64 b') := by rw [hW2]; exact (cells_new W1 #[.int .i64 o', .int .i64 a', .int .i64 b'] 48 2 (.int .i64 b') rfl).1
  have hb2 : Below W.heap.size W W2 := below2 hw1.out.2 nb2
  rw [← hW2]
  clear hW2 nb2
  generalize W1.heap.size = p5 at *
  have A2 := HA.out.next hb2
  have bd : Below W2.heap.size W2 W2.drew := (Below.refl _ W2).drew
  have A2d := A2.next bd
  have HA2 : Hid (As W2.drew b ab s iq eq tq ia ea ta Es) := A2d
  have HO2 : Hid (W2.drew.ownsRow b 48 3 (.slice iq s.c.ins.length ia) s.c.ins.length (s.c.ins.flatMap ic)) := A2d.rows.ir
  obtain ⟨z0, -⟩ := blk_cell A2.box 0 (.slice iq s.c.ins.length ia) rfl
  obtain ⟨z0a, -⟩ := blk_cell (A2.next ((Below.refl _ W2).alloc (Nat.le_refl _) (.cells #[.int .i64 o', .int .i64 a', .int .i64 b'] 48))).box 0 (.slice iq s.c.ins.length ia) rfl
  have HV : Hid (∀ x, RO = some x → (o', a', b') = x) := hw1.out.1
  have HB2 : Hid (Below b W W2.drew) := (below2 hb2 bd).mono HbW.out
  have hzr : b ≤ W2.drew.heap.size := Nat.le_trans HbW.out (below2 hb2 bd).size
  have H1 : Hid (∀ u ∈ ([.int .i64 o', .int .i64 a', .int .i64 b'] : List Value), u.oneCell' = true) := ic_one (o', a', b')
  have HX : Hid (∀ v4 w4, w4.ownsRow b 48 3 v4 (s.c.ins.length + 1) (s.c.ins.flatMap ic ++ [.int .i64 o', .int .i64 a', .int .i64 b']) → (W2.drew.alloc (.cells #[.int .i64 o', .int .i64 a', .int .i64 b'] 48)).grownBy w4 (Value.slice iq s.c.ins.length ia).ownBlock → ∃ q4 c4, v4 = .slice q4 (s.c.ins.length + 1) c4 ∧ (w4.cell? ⟨ab, 0, none⟩ = some (.slice iq s.c.ins.length ia) ∧ w4.frozen? ⟨ab, 0, none⟩ = false) ∧ Hid (As (w4.setCell ⟨ab, 0, none⟩ (.slice q4 (s.c.ins.length + 1) c4)) b ab ⟨{ s.c with ins := s.c.ins ++ [(o', a', b')] }, s.begun⟩ q4 eq tq c4 ea ta Es ∧ Below b W (w4.setCell ⟨ab, 0, none⟩ (.slice q4 (s.c.ins.length + 1) c4)))) := fun v4 w4 ho hg => by
    obtain ⟨q4, c4, rfl, -, -⟩ := own_slice ho
    exact ⟨q4, c4, rfl, blk_cell (HA2.out.boxA HA2.out.rows.ir (by decide) hg) 0 _ rfl, HA2.out.appI (x := (o', a', b')) hg ho HL.out, ((HB2.out.alloc hzr _).grown hg (by have := hzr; simp at this ⊢; omega) (own_ge HO2.out)).setCell (p := ⟨ab, 0, none⟩) HA2.out.lb _⟩
  clear A2 A2d hw1 rY HA x0 x1 hb2 bd
  generalize s.c.ins.length = ni at *
  go_wp2_with fail
  go_region_law (first
    | (refine step_app 22 48 _ 3 24 Tryz.underlying22 infoIns (by rfl) (by decide) (by decide) (by rfl) _ _ (by rfl) b (.slice iq ni ia) ni (s.c.ins.flatMap ic) (by rfl) (own_next HO2.out ((Below.refl _ W2.drew).alloc (Nat.le_refl _) _)) W2.drew.heap.size [.int .i64 o', .int .i64 a', .int .i64 b'] rfl H1.out (by rfl) (range_new W2.drew _ _) HLN.out (by have := hzr; simp at this ⊢; omega) ?_; intro v9 W9 ho9 hg9; obtain ⟨q9, c9, rfl, ⟨f0, f1⟩, HA9⟩ := HX.out v9 W9 ho9.out hg9.out.1))
  all_goals
    clear ho9 hg9 HX z0 z0a d0 d1 d2
    go_wp2
    generalize W9.setCell ⟨ab, 0, none⟩ (.slice q9 (ni + 1) c9) = W5 at HA9 ⊢
    go_ret
    refine ⟨rfl, ?_, HA9.out.2⟩
    intro s' e
    rw [HU.out] at e
    cases hRO : RO with
    | none => rw [hRO] at e; cases e
    | some v =>
      rw [hRO] at e
      cases e
      show AsX W5 b ab ⟨{ s.c with ins := s.c.ins ++ [v] }, s.begun⟩
      rw [← HV.out v hRO]
      exact ⟨_, _, _, _, _, _, _, HA9.out.1⟩
end Go.Proofs.YtcjnejdemfemfaaGreatDoor
namespace Go.Proofs.YtcjnejdemfemfaaGreatDoor
open Go.RowKit

set_option maxRecDepth 100000 in
set_option maxHeartbeats 4000000 in
theorem takesEntry_any {W : World} {b ab : Nat} {s : St} (h : AsX W b ab s) (ht : Tabs W) {q : Option Addr} {n cap : Nat} {ws : List Bs} (hw : Wds W W.heap.size q n cap ws) :
    Calls Tryz.prog 56 #[.pointer (some ⟨ab, 0, none⟩), .slice q n cap] W fun e w' => e = .returned (.bool (takeEnt s ws).isSome) ∧ Hid ((∀ s', takeEnt s ws = some s' → AsX w' b ab s') ∧ Below b W w') := by
  obtain ⟨R, HR⟩ : ∃ R, Hid (R = takeEnt s ws) := ⟨_, rfl⟩
  rw [← HR.out]
  obtain ⟨B, HB⟩ : ∃ B : Bool, Hid (B = R.isSome) := ⟨_, rfl⟩
  rw [← HB.out]
  obtain ⟨iq, eq, tq, ia, ea, ta, Es, ha⟩ := h
  have HbW : Hid (b ≤ W.heap.size) := by have h1 := ha.lb; have h2 := ha.lt; exact Nat.le_trans h1 (Nat.le_of_lt h2)
  have hU : R = if s.c.ens.length ≠ 60 ∧ s.c.ins.length ≠ 60000 ∧ bareS s.c = false then (rdEnt ws).map fun e => ⟨{ s.c with ens := s.c.ens ++ [{ e with start := (s.c.ins.length : Int) }] }, s.begun⟩ else none := HR.out
  obtain ⟨x0, -⟩ := blk_cell ha.box 0 (.slice iq s.c.ins.length ia) rfl
  obtain ⟨x1, -⟩ := blk_cell ha.box 1 (.slice eq s.c.ens.length ea) rfl
  have l1 := ha.l1
  have cB := isBare_any ha
  by_cases hc : s.c.ens.length ≠ 60 ∧ s.c.ins.length ≠ 60000 ∧ bareS s.c = false
  case neg =>
    have HF : Hid (R = none) := by show R = none; rw [hU, if_neg hc]
    have hBf : B = false := by rw [HB.out, HF.out]; rfl
    have k : s.c.ens.length = 60 ∨ ((¬ (s.c.ens.length : Int) = 60) ∧ s.c.ins.length = 60000) ∨ ((¬ (s.c.ens.length : Int) = 60) ∧ (¬ (s.c.ins.length : Int) = 60000) ∧ bareS s.c = true) := by
      by_cases h1 : s.c.ens.length = 60
      · exact .inl h1
      · by_cases h2 : s.c.ins.length = 60000
        · exact .inr (.inl ⟨by omega, h2⟩)
        · refine .inr (.inr ⟨by omega, by omega, ?_⟩)
          cases hb : bareS s.c with
          | true => rfl
          | false => exact absurd ⟨h1, h2, hb⟩ hc
    subst hBf
    clear hw hU HR ha hc l1 ht
    generalize s.c.ens.length = n1 at *
    generalize s.c.ins.length = n2 at *
    generalize bareS s.c = bb at *
    go_enter Tryz.func56, Tryz.ntmps56
    rcases k with rfl | ⟨k1, rfl⟩ | ⟨k1, k2, rfl⟩
    · clear cB
      go_wp2
      go_ret
      refine ⟨rfl, ?_, Below.refl _ _⟩
      intro s' e
      rw [HF.out] at e
      cases e
    · clear cB
      go_wp2
      go_ret
      refine ⟨rfl, ?_, Below.refl _ _⟩
      intro s' e
      rw [HF.out] at e
      cases e
    · go_wp2_with (first
        | (go_at_call 58; refine cB.mono ?_; rintro e Wb ⟨rfl, hwb⟩)
        | go_in)
      go_ret
      refine ⟨rfl, ?_, hwb.mono HbW.out⟩
      intro s' e
      rw [HF.out] at e
      cases e
  rw [if_pos hc] at hU
  obtain ⟨h2, h3, h4⟩ := hc
  have HU : Hid (R = _) := hU
  have HA : Hid (As W b ab s iq eq tq ia ea ta Es) := ha
  have HRd : Hid (∀ Wb, Below W.heap.size W Wb → Calls Tryz.prog 73 #[.slice q n cap] Wb fun e w' => ∃ (nm : ByteArray) (pr rs : Int) (q' : Option Addr) (m c' : Nat), e = .returned (.tuple #[.agg #[.string nm, .int .i64 0, .int .i64 pr, .slice q' m c', .int .i64 rs], .bool (rdEnt ws).isSome]) ∧ Hid ((∃ so : List Int, m = so.length ∧ w'.ownsRow Wb.heap.size 41 1 (.slice q' so.length c') so.length (sv so) ∧ ∀ x, rdEnt ws = some x → x = ⟨nm, 0, pr, so, rs⟩) ∧ Below Wb.heap.size Wb w')) := fun Wb hb => readEntry_any Wb q n cap ws (ht.next hb) ((hw.below hb (Nat.le_refl _)).up hb.size)
  have hBe : B = (rdEnt ws).isSome := by rw [HB.out, HU.out]; cases rdEnt ws <;> rfl
  obtain ⟨RO, HRO⟩ : ∃ RO, Hid (RO = rdEnt ws) := ⟨_, rfl⟩
  rw [← HRO.out] at hBe HRd HU
  rw [← hBe] at HRd
  rw [h4] at cB
  have k1 : ¬ (s.c.ens.length : Int) = 60 := by omega
  have k2 : ¬ (s.c.ins.length : Int) = 60000 := by omega
  have k1b : ((s.c.ens.length : Int) == 60) = false := by rw [beq_eq_false_iff_ne]; omega
  have k2b : ((s.c.ins.length : Int) == 60000) = false := by rw [beq_eq_false_iff_ne]; omega
  have HL : Hid (s.c.ens.length < 60) := by show _ < _; omega
  have HLN : Hid (s.c.ens.length + 1 ≤ 1000000000) := by show _ ≤ _; omega
  clear hw hU HR ha HB hBe HRO h2 h3 h4 l1 ht
  go_enter Tryz.func56, Tryz.ntmps56
  go_upto_region 3 with (first
    | (go_at_call 58; refine cB.mono ?_; rintro e Wb ⟨rfl, hwb⟩)
    | go_in)
  have rY := HRd.out Wb hwb
  have HWb : Hid (Below W.heap.size W Wb) := hwb
  clear cB HRd hwb x0 x1
  go_upto_region 4 with (first
    | (go_at_call 73; refine rY.mono ?_; rintro e W1 ⟨nm, pr, rs, q', m, c', rfl, hw1⟩)
    | go_in)
  obtain ⟨⟨so, rfl, hso, hV⟩, hw1b⟩ := hw1.out
  have HV : Hid (∀ x, RO = some x → x = ⟨nm, 0, pr, so, rs⟩) := hV
  obtain ⟨W2, hW2⟩ : ∃ W2, W2 = W1.alloc (.cells (ev nm 0 pr (.slice q' so.length c') rs) 43) := ⟨_, rfl⟩
  have nb2 : Below W1.heap.size W1 W2 := by rw [hW2]; exact (Below.refl _ W1).alloc (Nat.le_refl _) _
  have P2 : W2.heap[W1.heap.size]? = some (.cells (ev nm 0 pr (.slice q' so.length c') rs) 43) := by rw [hW2]; exact World.alloc_heap_new W1 _
  rw [← hW2]
  clear hW2
  have hbW1 : Below W.heap.size W W1 := below2 HWb.out hw1b
  have HSN : Hid (SepE (Es ++ [(⟨nm, (s.c.ins.length : Int), pr, so, rs⟩, q', c')])) := HA.out.sp.snoc (HA.out.next HWb.out).rows.eb fun g hg => (hso.lt g (by rw [own_eb]; exact hg)).1
  have HS1 : Hid (W1.ownsRow b 41 1 (.slice q' so.length c') so.length (sv so)) := own_down hso (Nat.le_trans HbW.out HWb.out.size)
  have A2 := HA.out.next (below2 hbW1 nb2)
  obtain ⟨z0, -⟩ := blk_cell A2.box 0 (.slice iq s.c.ins.length ia) rfl
  obtain ⟨p1, f1⟩ := blk_cell P2 1 (.int .i64 0) rfl
  obtain ⟨W3, hW3⟩ : ∃ W3, W3 = W2.setCell ⟨W1.heap.size, 1, none⟩ (.int .i64 (s.c.ins.length : Int)) := ⟨_, rfl⟩
  have nb3 : Below W1.heap.size W1 W3 := by rw [hW3]; exact nb2.setCell (p := ⟨W1.heap.size, 1, none⟩) (Nat.le_refl _) _
  have P3 : W3.heap[W1.heap.size]? = some (.cells (ev nm (s.c.ins.length : Int) pr (.slice q' so.length c') rs) 43) := by rw [hW3]; exact set_blk P2 _
  have HW3 : Hid (W3 = W2.setCell ⟨W1.heap.size, 1, none⟩ (.int .i64 (s.c.ins.length : Int))) := hW3
  have A3 := HA.out.next (below2 hbW1 nb3)
  have HP3 : Hid (W3.heap[W1.heap.size]? = some (.cells (ev nm (s.c.ins.length : Int) pr (.slice q' so.length c') rs) 43)) := P3
  have HA3 : Hid (As W3 b ab s iq eq tq ia ea ta Es) := A3
  have HS3 : Hid (W3.ownsRow b 41 1 (.slice q' so.length c') so.length (sv so)) := own_next HS1.out nb3
  have HB3 : Hid (Below W.heap.size W W3) := below2 hbW1 nb3
  clear hso hV hw1 hw1b nb2 P2 hbW1 HS1 A2 hW3 nb3 P3 A3 rY
  go_upto_region 5 with fail
  rw [← HW3.out]
  clear HW3 z0 p1 f1
  generalize W1.heap.size = p5 at *
  obtain ⟨d0, -⟩ := blk_cell HP3.out 0 (.string nm) rfl
  obtain ⟨d1, -⟩ := blk_cell HP3.out 1 (.int .i64 (s.c.ins.length : Int)) rfl
  obtain ⟨d2, -⟩ := blk_cell HP3.out 2 (.int .i64 pr) rfl
  obtain ⟨d3, -⟩ := blk_cell HP3.out 3 (.slice q' so.length c') rfl
  obtain ⟨d4, -⟩ := blk_cell HP3.out 4 (.int .i64 rs) rfl
  have bd : Below W3.heap.size W3 W3.drew := (Below.refl _ W3).drew
  have A3d := HA3.out.next bd
  have HA2 : Hid (As W3.drew b ab s iq eq tq ia ea ta Es) := A3d
  have eL : Es.length = s.c.ens.length := by rw [← A3d.en, List.length_map]
  have HO2 : Hid (W3.drew.ownsRow b 43 5 (.slice eq s.c.ens.length ea) s.c.ens.length (Es.flatMap ec)) := by have := A3d.rows.er; rw [eL] at this; exact this
  have HS2 : Hid (W3.drew.ownsRow b 41 1 (.slice q' so.length c') so.length (sv so)) := own_next HS3.out bd
  obtain ⟨z0, -⟩ := blk_cell HA3.out.box 1 (.slice eq s.c.ens.length ea) rfl
  obtain ⟨z0a, -⟩ := blk_cell (HA3.out.next ((Below.refl _ W3).alloc (Nat.le_refl _) (.cells (ev nm (s.c.ins.length : Int) pr (.slice q' so.length c') rs) 43))).box 1 (.slice eq s.c.ens.length ea) rfl
  have HB2 : Hid (Below b W W3.drew) := (below2 HB3.out bd).mono HbW.out
  have hzr : b ≤ W3.drew.heap.size := Nat.le_trans HbW.out (below2 HB3.out bd).size
  have H1 : Hid (∀ u ∈ ([.string nm, .int .i64 (s.c.ins.length : Int), .int .i64 pr, .slice q' so.length c', .int .i64 rs] : List Value), u.oneCell' = true) := ec_one (⟨nm, (s.c.ins.length : Int), pr, so, rs⟩, q', c')
  have HX : Hid (∀ v4 w4, w4.ownsRow b 43 5 v4 (s.c.ens.length + 1) (Es.flatMap ec ++ [.string nm, .int .i64 (s.c.ins.length : Int), .int .i64 pr, .slice q' so.length c', .int .i64 rs]) → (W3.drew.alloc (.cells (ev nm (s.c.ins.length : Int) pr (.slice q' so.length c') rs) 43)).grownBy w4 (Value.slice eq s.c.ens.length ea).ownBlock → ∃ q4 c4, v4 = .slice q4 (s.c.ens.length + 1) c4 ∧ (w4.cell? ⟨ab, 1, none⟩ = some (.slice eq s.c.ens.length ea) ∧ w4.frozen? ⟨ab, 1, none⟩ = false) ∧ Hid (AsX (w4.setCell ⟨ab, 1, none⟩ (.slice q4 (s.c.ens.length + 1) c4)) b ab ⟨{ s.c with ens := s.c.ens ++ [⟨nm, (s.c.ins.length : Int), pr, so, rs⟩] }, s.begun⟩ ∧ Below b W (w4.setCell ⟨ab, 1, none⟩ (.slice q4 (s.c.ens.length + 1) c4)))) := fun v4 w4 ho hg => by
    obtain ⟨q4, c4, rfl, -, -⟩ := own_slice ho
    refine ⟨q4, c4, rfl, blk_cell (HA2.out.boxA HO2.out (by decide) hg) 1 _ rfl, ⟨_, _, _, _, _, _, _, HA2.out.appE (x := (⟨nm, (s.c.ins.length : Int), pr, so, rs⟩, q', c')) hg ho HS2.out HL.out HSN.out⟩, ((HB2.out.alloc hzr _).grown hg (by have := hzr; simp at this ⊢; omega) (own_ge HO2.out)).setCell (p := ⟨ab, 1, none⟩) HA2.out.lb _⟩
  have HU2 : Hid (∀ e : En, RO = some e → R = some ⟨{ s.c with ens := s.c.ens ++ [{ e with start := (s.c.ins.length : Int) }] }, s.begun⟩) := fun e h => by rw [HU.out, h]; rfl
  have HU3 : Hid (RO = none → R = none) := fun h => by rw [HU.out, h]; rfl
  clear A3d HA HA3 HS3 HP3 bd eL HB3 HU HSN
  generalize s.c.ins.length = ni at *
  generalize s.c.ens.length = ne at *
  generalize so.length = ns at *
  go_wp2_with fail
  go_region_law (first
    | (refine step_app 23 43 _ 5 64 Tryz.underlying23 infoEnt (by rfl) (by decide) (by decide) (by rfl) _ _ (by rfl) b (.slice eq ne ea) ne (Es.flatMap ec) (by rfl) (own_next HO2.out ((Below.refl _ W3.drew).alloc (Nat.le_refl _) _)) W3.drew.heap.size [.string nm, .int .i64 (ni : Int), .int .i64 pr, .slice q' ns c', .int .i64 rs] rfl H1.out (by rfl) (range_new W3.drew _ _) HLN.out (by have := hzr; simp at this ⊢; omega) ?_; intro v9 W9 ho9 hg9; obtain ⟨q9, c9, rfl, ⟨f0, f1⟩, HA9⟩ := HX.out v9 W9 ho9.out hg9.out.1))
  all_goals
    clear ho9 hg9 HX z0 z0a d0 d1 d2 d3 d4
    go_wp2
    generalize W9.setCell ⟨ab, 1, none⟩ (.slice q9 (ne + 1) c9) = W5 at HA9 ⊢
    go_ret
    refine ⟨rfl, ?_, HA9.out.2⟩
    intro s' e
    cases hRO : RO with
    | none => rw [HU3.out hRO] at e; cases e
    | some v =>
      rw [HU2.out v hRO] at e
      cases e
      rw [HV.out v hRO]
      exact HA9.out.1
end Go.Proofs.YtcjnejdemfemfaaGreatDoor
namespace Go.Proofs.YtcjnejdemfemfaaGreatDoor
open Go.RowKit

set_option maxRecDepth 100000 in
set_option maxHeartbeats 2000000 in
theorem takes_any {W : World} {b ab : Nat} {s : St} (h : AsX W b ab s) (ht : Tabs W) {q : Option Addr} {n cap : Nat} {ws : List Bs} (hw : Wds W W.heap.size q n cap ws) (hn : 0 < n) (hne : ∀ x ∈ ws, x ≠ []) :
    Calls Tryz.prog 28 #[.pointer (some ⟨ab, 0, none⟩), .slice q n cap] W fun e w' => e = .returned (.bool (takeS s ws).isSome) ∧ Hid ((∀ s', takeS s ws = some s' → AsX w' b ab s') ∧ Below b W w') := by
  have m1 := takesMain_any h ht hw hn
  have m2 := takesPool_any h hw hne
  have m3 := takesEntry_any h ht hw
  have m4 := takesInstr_any h ht hw hn
  have hU : takeS s ws = if s.begun = false then takeMain s ws else if wAt ws 0 = [112, 111, 111, 108] then takePool s ws else if wAt ws 0 = [102, 110] then takeEnt s ws else takeIns s ws := rfl
  obtain ⟨iq, eq, tq, ia, ea, ta, Es, ha⟩ := h
  obtain ⟨x4, -⟩ := blk_cell ha.box 4 (.bool s.begun) rfl
  obtain ⟨g, p, rfl, hg, c0⟩ := hw.at 0 hn
  rw [Nat.add_zero] at c0
  have n0 : (0 : Int) < (n : Int) := by omega
  have hd0 : (YtcjnejdemfemfaaGreatDoor.bk (wAt ws 0)).data.toList = wAt ws 0 := bk_data _
  generalize YtcjnejdemfemfaaGreatDoor.bk (wAt ws 0) = x0 at *
  rw [hU]
  cases hbg : s.begun with
  | false =>
    rw [if_pos rfl]
    rw [hbg] at x4
    generalize takeMain s ws = R at *
    generalize R.isSome = B at *
    clear m2 m3 m4 hU ha hw ht hne
    go_enter Tryz.func28, Tryz.ntmps28
    go_wp2_with (first
      | (go_at_call 54; refine m1.mono ?_; rintro e W1 ⟨rfl, hw1⟩)
      | go_in)
    go_ret
    exact ⟨rfl, hw1⟩
  | true =>
    rw [if_neg (by decide)]
    rw [hbg] at x4
    clear m1
    by_cases h1 : wAt ws 0 = [112, 111, 111, 108]
    · rw [if_pos h1]
      have e1 : (x0.toList == [112, 111, 111, 108]) = true := by rw [toL, hd0, h1]; rfl
      generalize takePool s ws = R at *
      generalize R.isSome = B at *
      clear m3 m4 hU ha hw ht hne h1 hd0
      go_enter Tryz.func28, Tryz.ntmps28
      go_wp2_with (first
        | (go_at_call 55; refine m2.mono ?_; rintro e W1 ⟨rfl, hw1⟩)
        | go_in)
      go_ret
      exact ⟨rfl, hw1⟩
    rw [if_neg h1]
    have e1 : (x0.toList == [112, 111, 111, 108]) = false := by rw [toL, hd0, beq_eq_false_iff_ne]; exact h1
    by_cases h2 : wAt ws 0 = [102, 110]
    · rw [if_pos h2]
      have e2 : (x0.toList == [102, 110]) = true := by rw [toL, hd0, h2]; rfl
      generalize takeEnt s ws = R at *
      generalize R.isSome = B at *
      clear m2 m4 hU ha hw ht hne h1 hd0 h2
      go_enter Tryz.func28, Tryz.ntmps28
      go_wp2_with (first
        | (go_at_call 56; refine m3.mono ?_; rintro e W1 ⟨rfl, hw1⟩)
        | go_in)
      go_ret
      exact ⟨rfl, hw1⟩
    rw [if_neg h2]
    have e2 : (x0.toList == [102, 110]) = false := by rw [toL, hd0, beq_eq_false_iff_ne]; exact h2
    generalize takeIns s ws = R at *
    generalize R.isSome = B at *
    clear m2 m3 hU ha hw ht hne h1 hd0 h2
    go_enter Tryz.func28, Tryz.ntmps28
    go_wp2_with (first
      | (go_at_call 57; refine m4.mono ?_; rintro e W1 ⟨rfl, hw1⟩)
      | go_in)
    go_ret
    exact ⟨rfl, hw1⟩
end Go.Proofs.YtcjnejdemfemfaaGreatDoor

