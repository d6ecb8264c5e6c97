import Derived.Test.YtchinflkjcebjabGreatDoorCSg
namespace Go.Proofs.YtchinflkjcebjabGreatDoor
open Go.RowKit

def rowC (k : Nat) : List Value := [.string (wdT.getD k e0), .int .i64 ((opA.getD k 0 : Nat) : Int), .int .i64 ((opB.getD k 0 : Nat) : Int)]
def insC : List Value := (List.range 24).flatMap rowC
theorem ins_range {w : World} (h : Tabs w) : w.rangeAt 0 0 insC := by
  intro j v hv
  have hj : j < 72 := by
    have h1 := (List.getElem?_eq_some_iff.1 hv).1
    have h2 : insC.length = 72 := by rfl
    omega
  rw [Nat.zero_add]
  obtain ⟨i, m, hi, hm, rfl⟩ : ∃ i m, i < 24 ∧ m < 3 ∧ j = i * 3 + m := ⟨j / 3, j % 3, by omega, by omega, by omega⟩
  have e := flat_at rowC 3 (fun _ => rfl) (List.range 24) i m (by simpa using hi) hm
  have hv' : (rowC i)[m]? = some v := by
    have e2 : (List.range 24)[i]'(by simpa using hi) = i := List.getElem_range _
    rw [e2] at e
    rw [← e]
    exact hv
  obtain ⟨a, b, c⟩ := h.ins i hi
  have hm' : m = 0 ∨ m = 1 ∨ m = 2 := by omega
  rcases hm' with rfl | rfl | rfl
  · rw [Nat.add_zero, a]; exact hv'
  · rw [b]; exact hv'
  · rw [c]; exact hv'
theorem insInfo : (Tryz.prog.info? 59).map (·.size) = some insC.length := by kernel_rfl
set_option maxRecDepth 100000 in
theorem ins_idx (k : Nat) (hk : k < 24) : ∀ w : World, (Instr.index 59 (.agg insC.toArray) (.int .i64 (k : Int))).run Tryz.prog w = .ok (.agg #[.string (wdT.getD k e0), .int .i64 ((opA.getD k 0 : Nat) : Int), .int .i64 ((opB.getD k 0 : Nat) : Int)]) w := by
  have h : k = 0 ∨ k = 1 ∨ k = 2 ∨ k = 3 ∨ k = 4 ∨ k = 5 ∨ k = 6 ∨ k = 7 ∨ k = 8 ∨ k = 9 ∨ k = 10 ∨ k = 11 ∨ k = 12 ∨ k = 13 ∨ k = 14 ∨ k = 15 ∨ k = 16 ∨ k = 17 ∨ k = 18 ∨ k = 19 ∨ k = 20 ∨ k = 21 ∨ k = 22 ∨ k = 23 := by omega
  rcases h with rfl | rfl | rfl | rfl | rfl | rfl | rfl | rfl | rfl | rfl | rfl | rfl | rfl | rfl | rfl | rfl | rfl | rfl | rfl | rfl | rfl | rfl | rfl | rfl
  all_goals exact fun w => by kernel_rfl
theorem op13 (k : Nat) (hk : k < 24) : opA.getD k 0 < 13 ∧ opB.getD k 0 < 13 := by
  have h : ∀ k : Fin 24, opA.getD k.1 0 < 13 ∧ opB.getD k.1 0 < 13 := by decide
  exact h ⟨k, hk⟩
theorem seekI_s (w : Bs) (k n : Nat) : seekI w (k + 1) n = if (wdT.getD n e0).data.toList = w then some n else seekI w k (n + 1) := rfl
def tailI (k : Nat) (oa ob : Nat) (ws : List Bs) : Option In := match nextO oa ws with
    | none => none
    | some (a, r) => match nextO ob r with
      | none => none
      | some (b, r') => if r' = [] then some ((k : Int), a, b) else none
theorem rdIns_none {ws : List Bs} (h : seekI (wAt ws 0) 24 0 = none) : rdIns ws = none := by unfold rdIns; rw [h]
theorem rdIns_some {ws : List Bs} {k : Nat} (h : seekI (wAt ws 0) 24 0 = some k) : rdIns ws = tailI k (opA.getD k 0) (opB.getD k 0) (ws.drop 1) := by unfold rdIns; rw [h]; rfl
theorem tail_eq {k oa ob : Nat} {ws r1 r2 : List Bs} {B1 B2 : Bool} {na nb : Int} {m : Nat} (h1 : B1 = (nextO oa ws).isSome) (k1 : ∀ a r0, nextO oa ws = some (a, r0) → na = a ∧ r1 = r0) (h2 : B2 = (nextO ob r1).isSome) (k2 : ∀ a r0, nextO ob r1 = some (a, r0) → nb = a ∧ r2 = r0) (hm : m = r2.length) :
    tailI k oa ob ws = if B1 = true ∧ B2 = true ∧ m = 0 then some ((k : Int), na, nb) else none := by
  unfold tailI
  cases e1 : nextO oa ws with
  | none => rw [e1] at h1; rw [h1, if_neg]; simp
  | some x =>
    obtain ⟨a, r0⟩ := x
    obtain ⟨rfl, rfl⟩ := k1 a r0 e1
    rw [e1] at h1
    subst h1
    simp only
    cases e2 : nextO ob r1 with
    | none => rw [e2] at h2; rw [h2]; simp
    | some y =>
      obtain ⟨b, r0'⟩ := y
      obtain ⟨rfl, rfl⟩ := k2 b r0' e2
      rw [e2] at h2
      subst h2
      simp only
      rw [hm]
      by_cases hr : r2 = []
      · subst hr; simp
      · rw [if_neg hr, if_neg]
        simp only [Option.isSome_some, true_and]
        exact fun e => hr (List.length_eq_zero_iff.1 e)
theorem next_v (o : Nat) (ho : o < 13) (w : World) (q : Option Addr) (n cap : Nat) (ws : List Bs) (ht : Tabs w) (h : Wds w w.heap.size q n cap ws) :
    Calls Tryz.prog 120 #[.int .i64 (o : Int), .slice q n cap] w fun e w' => ∃ v, e = .returned v ∧ (∃ (n' : Int) (q' : Option Addr) (m cap' : Nat) (B : Bool), v = .tuple #[.int .i64 n', .slice q' m cap', .bool B] ∧ Hid (B = (nextO o ws).isSome ∧ (∃ r : List Bs, Wds w w.heap.size q' m cap' r ∧ ∀ a r0, nextO o ws = some (a, r0) → n' = a ∧ r = r0) ∧ Below w.heap.size w w')) :=
  (next_any o ho w q n cap ws ht h).mono fun _ _ ⟨n', q', m, cap', a, b⟩ => ⟨_, a, n', q', m, cap', _, rfl, rfl, b.out.1, b.out.2⟩
theorem callnx (a b : Value) (w : World) : (callFunc 120 #[a, b]).run Tryz.prog w = .ok (.enter 120 #[a, b]) w := by kernel_rfl
/-- A result that is being made. -/
structure Res (w W : World) (C : Array Value) (t : TypeId) : Prop where
  b : Below w.heap.size w W
  c : W.heap[w.heap.size]? = some (.cells C t)
theorem Res.lt {w W : World} {C : Array Value} {t : TypeId} (h : Res w W C t) : w.heap.size < W.heap.size := (Array.getElem?_eq_some_iff.1 h.c).1
theorem Res.next {w W W' : World} {C : Array Value} {t : TypeId} (h : Res w W C t) (k : Below W.heap.size W W') : Res w W' C t := ⟨below2 h.b k, (k.block _ h.lt).trans h.c⟩
theorem Res.new (w : World) (C : Array Value) (t : TypeId) : Res w (w.alloc (.cells C t)) C t := ⟨(Below.refl _ w).alloc (Nat.le_refl _) _, World.alloc_heap_new w _⟩
theorem Res.set {w W : World} {C : Array Value} {t : TypeId} (h : Res w W C t) (j : Nat) (v : Value) : Res w (W.setCell ⟨w.heap.size, j, none⟩ v) (C.set! j v) t := ⟨h.b.setCell (p := ⟨w.heap.size, j, none⟩) (Nat.le_refl _) v, set_blk h.c v⟩
set_option maxRecDepth 100000 in
set_option maxHeartbeats 4000000 in
theorem readInstr_any (w : World) (q : Option Addr) (n cap : Nat) (ws : List Bs) (ht : Tabs w) (h : Wds w w.heap.size q n cap ws) (hn : 0 < n) :
    Calls Tryz.prog 101 #[.slice q n cap] w fun e w' => ∃ (o' a' b' : Int), e = .returned (.tuple #[.agg #[.int .i64 o', .int .i64 a', .int .i64 b'], .bool (rdIns ws).isSome]) ∧ Hid ((∀ x, rdIns ws = some x → (o', a', b') = x) ∧ Below w.heap.size w w') := by
  obtain ⟨R, HR⟩ : ∃ R, Hid (R = rdIns ws) := ⟨_, rfl⟩
  rw [← HR.out]
  obtain ⟨B, HB⟩ : ∃ B : Bool, Hid (B = R.isSome) := ⟨_, rfl⟩
  rw [← HB.out]
  have HN0 : Hid (seekI (wAt ws 0) 24 0 = none → R = none) := fun e => HR.out.trans (rdIns_none e)
  have HN1 : Hid (∀ k, seekI (wAt ws 0) 24 0 = some k → R = tailI k (opA.getD k 0) (opB.getD k 0) (ws.drop 1)) := fun k e => HR.out.trans (rdIns_some e)
  obtain ⟨X, hX⟩ : ∃ X, X = w.alloc (.cells #[.int .i64 0, .int .i64 0, .int .i64 0] 46) := ⟨_, rfl⟩
  have HX : Hid (Res w X #[.int .i64 0, .int .i64 0, .int .i64 0] 46) := by rw [hX]; exact Res.new w _ _
  have HTX : Hid (X.rangeAt 0 0 insC) := ins_range (ht.next HX.out.b)
  have HT : Hid (Tabs w) := ht
  have HH : Hid (Wds w w.heap.size q n cap ws) := h
  have n0 : (0 : Int) < (n : Int) := by omega
  have HD := h.drop 1 hn
  have hsl : ∀ w : World, (Instr.slice 24 (.slice q n cap) (some (.int .i64 1)) none none).run Tryz.prog w = .ok (.slice (cutQ q 1 cap) (n - 1) (cap - 1)) w := cut_run q n cap 1 hn
  have HDH : Hid (Wds w w.heap.size (cutQ q 1 cap) (n - 1) (cap - 1) (ws.drop 1)) := HD
  have HC0 : Hid (∀ W, Below w.heap.size w W → ∃ g o, q = some ⟨g, o, none⟩ ∧ W.cell? ⟨g, o, none⟩ = some (.string (YtchinflkjcebjabGreatDoor.bk (wAt ws 0)))) := fun W hb => by
    obtain ⟨g, o, e, hg, hc⟩ := (h.below hb (Nat.le_refl _)).at 0 hn
    exact ⟨g, o, e, hc⟩
  have hd0 : (YtchinflkjcebjabGreatDoor.bk (wAt ws 0)).data.toList = wAt ws 0 := bk_data _
  have HD0 : Hid ((YtchinflkjcebjabGreatDoor.bk (wAt ws 0)).data.toList = wAt ws 0) := hd0
  generalize YtchinflkjcebjabGreatDoor.bk (wAt ws 0) = x0 at *
  generalize cutQ q 1 cap = q1 at *
  generalize n - 1 = m1 at *
  generalize cap - 1 = cap1 at *
  generalize ws.drop 1 = ws1 at *
  clear h ht HR HD hd0
  go_enter Tryz.func101, Tryz.ntmps101
  go_upto_region 1 with fail
  rw [← hX]
  clear hX
  go_wp2_with (first | (refine wpList_load_mid (by rfl) 59 (.global 0) (by rfl) 0 0 (by rfl) insC _ HTX.out Tryz.underlying59 (by rfl) insInfo ?_) | go_in)
  go_loopw [12] (fun i wr => ∃ k : Nat, k ≤ 24 ∧ i = .int .i64 (k : Int) ∧ Hid (seekI (wAt ws 0) (24 - k) k = seekI (wAt ws 0) 24 0) ∧ Hid (Res w wr #[.int .i64 0, .int .i64 0, .int .i64 0] 46)) (fun i _ => 24 - (intOf i).toNat)
  case atStart => exact ⟨0, by omega, rfl, rfl, HX⟩
  case round =>
    clear HTX HX
    obtain ⟨k, hk, rfl, hI, hRs⟩ := hrel
    by_cases hlt : k < 24
    case neg =>
      obtain rfl : k = 24 := by omega
      have HF : Hid (R = none) := HN0.out hI.out.symm
      have hBf : B = false := by rw [HB.out, HF.out]; rfl
      subst hBf
      obtain ⟨x0, y0⟩ := blk_cell hRs.out.c 0 (.int .i64 0) rfl
      obtain ⟨x1, y1⟩ := blk_cell hRs.out.c 1 (.int .i64 0) rfl
      obtain ⟨x2, y2⟩ := blk_cell hRs.out.c 2 (.int .i64 0) rfl
      go_wp2
      first | (change bodyPost Tryz.prog Tryz.f101 _ Exit.ret _ _) | (simp only [Exit.noGoto]) | skip
      have HF2 : Hid (Res w (((wr.setCell ⟨w.heap.size, 0, none⟩ (.int .i64 0)).setCell ⟨w.heap.size, 1, none⟩ (.int .i64 0)).setCell ⟨w.heap.size, 2, none⟩ (.int .i64 0)) #[.int .i64 0, .int .i64 0, .int .i64 0] 46) := ((hRs.out.set 0 (.int .i64 0)).set 1 (.int .i64 0)).set 2 (.int .i64 0)
      generalize ((wr.setCell ⟨w.heap.size, 0, none⟩ (.int .i64 0)).setCell ⟨w.heap.size, 1, none⟩ (.int .i64 0)).setCell ⟨w.heap.size, 2, none⟩ (.int .i64 0) = W4 at HF2 ⊢
      obtain ⟨q0, -⟩ := blk_cell HF2.out.c 0 (.int .i64 0) rfl
      obtain ⟨q1, -⟩ := blk_cell HF2.out.c 1 (.int .i64 0) rfl
      obtain ⟨q2, -⟩ := blk_cell HF2.out.c 2 (.int .i64 0) rfl
      refine bodyPost_ret (v := .tuple #[.agg #[.int .i64 0, .int .i64 0, .int .i64 0], .bool false]) (by simp [results, Tryz.results101, go_sem, q0, q1, q2]) rfl ⟨0, 0, 0, rfl, ?_, HF2.out.b⟩
      intro t e
      rw [HF.out] at e
      cases e
    have hix := ins_idx k hlt
    obtain ⟨o1, o2⟩ := op13 k hlt
    have HS : Hid ((if (wdT.getD k e0).data.toList = wAt ws 0 then some k else seekI (wAt ws 0) (24 - (k + 1)) (k + 1)) = seekI (wAt ws 0) 24 0) := by
      have e := hI.out
      rw [show 24 - k = (24 - (k + 1)) + 1 by omega, seekI_s] at e
      exact e
    have HN2 := HN1.out k
    generalize opA.getD k 0 = oa at *
    generalize opB.getD k 0 = ob at *
    generalize wdT.getD k e0 = wd at *
    have k0 : (k : Int) < 24 := by omega
    obtain ⟨Y, hY0⟩ : ∃ Y, Y = wr.alloc (.cells #[.string wd, .int .i64 (oa : Int), .int .i64 (ob : Int)] 58) := ⟨_, rfl⟩
    have nbY : Below wr.heap.size wr Y := by rw [hY0]; exact (Below.refl _ wr).alloc (Nat.le_refl _) _
    have hRY : Hid (Res w Y #[.int .i64 0, .int .i64 0, .int .i64 0] 46) := hRs.out.next nbY
    have b0 : Y.cell? ⟨wr.heap.size, 0, none⟩ = some (.string wd) := by rw [hY0]; exact (cells_new wr #[.string wd, .int .i64 (oa : Int), .int .i64 (ob : Int)] 58 0 (.string wd) rfl).1
    have b1 : Y.cell? ⟨wr.heap.size, 1, none⟩ = some (.int .i64 (oa : Int)) := by rw [hY0]; exact (cells_new wr #[.string wd, .int .i64 (oa : Int), .int .i64 (ob : Int)] 58 1 (.int .i64 (oa : Int)) rfl).1
    have b2 : Y.cell? ⟨wr.heap.size, 2, none⟩ = some (.int .i64 (ob : Int)) := by rw [hY0]; exact (cells_new wr #[.string wd, .int .i64 (oa : Int), .int .i64 (ob : Int)] 58 2 (.int .i64 (ob : Int)) rfl).1
    have lY : wr.heap.size < Y.heap.size := by rw [hY0]; simp
    obtain ⟨g, p, rfl, c0⟩ := HC0.out Y hRY.out.b
    have HYb : Hid (∀ W, Below Y.heap.size Y W → W.cell? ⟨wr.heap.size, 1, none⟩ = some (.int .i64 (oa : Int)) ∧ W.cell? ⟨wr.heap.size, 2, none⟩ = some (.int .i64 (ob : Int))) := fun W hW => ⟨(hW.cell (p := ⟨wr.heap.size, 1, none⟩) lY).trans b1, (hW.cell (p := ⟨wr.heap.size, 2, none⟩) lY).trans b2⟩
    clear nbY lY b1 b2 hRs hI HN1 HN0
    go_upto_region 4 with fail
    rw [← hY0]
    clear hY0
    generalize wr.heap.size = pb at *
    go_wp2_with fail
    have b0' := cell_regrown b0
    have c0' := cell_regrown c0
    by_cases hx : wd.data.toList = wAt ws 0
    · have hx1 : (wd.toList == x0.toList) = true := by rw [toL, toL, HD0.out, hx]; simp
      rw [if_pos hx] at HS
      have HRt : Hid (R = tailI k oa ob ws1) := HN2 HS.out.symm
      clear HN2 HS hx
      refine wp_region_quiet_below (by kernel_rfl) (by kernel_rfl) ?_
      repeat (first | go_big_quiet_step (first | fail) | quiet_step (first | fail))
      refine wpQuiet_nil ?_
      intro _ hw'
      obtain ⟨⟨dq, osq⟩, hw''⟩ := hw'
      subst hw''
      have hY := below_regrown Y dq osq
      change Exit.then _ _ Exit.normal _ (Sort.grow (redrawn Y dq) osq)
      generalize Sort.grow (redrawn Y dq) osq = Z at hY ⊢
      have hRZ : Hid (Res w Z #[.int .i64 0, .int .i64 0, .int .i64 0] 46) := hRY.out.next hY
      obtain ⟨b1, b2⟩ := HYb.out Z hY
      have bd : Below Z.heap.size Z Z.drew := (Below.refl _ Z).drew
      have bwd : Below w.heap.size w Z.drew := below2 hRZ.out.b bd
      have n2 := next_v oa o1 Z.drew q1 m1 cap1 ws1 (HT.out.next bwd) ((HDH.out.below bwd (Nat.le_refl _)).up bwd.size)
      have HA : Hid (∀ W, Below Z.drew.heap.size Z.drew W → Res w W #[.int .i64 0, .int .i64 0, .int .i64 0] 46 ∧ W.cell? ⟨pb, 2, none⟩ = some (.int .i64 (ob : Int))) := fun W hW => by
        have hb := below2 bd hW
        exact ⟨hRZ.out.next hb, (HYb.out W (below2 hY hb)).2⟩
      clear b0 b0' c0 c0' hx1 hY bd bwd hRY HYb b2 HC0
      go_wp2_with fail
      go_region_law (first
        | (refine step_call (by rfl) 120 [.tmp 24, .tmp 26] #[56, 24] [.int .i64 (oa : Int), .slice q1 m1 cap1] (by rfl) (by rfl) (callnx _ _) _ n2 ?_; rintro v8 W8 ⟨na, qa, ma, ca, B1, rfl, hw8⟩))
      all_goals
        obtain ⟨e1, ⟨r1, d1, f1⟩, hb8⟩ := hw8.out
        have HE1 : Hid (B1 = (nextO oa ws1).isSome ∧ ∀ a r0, nextO oa ws1 = some (a, r0) → na = a ∧ r1 = r0) := ⟨e1, f1⟩
        obtain ⟨R8, c8⟩ := HA.out W8 hb8
        have n3 := next_v ob o2 W8 qa ma ca r1 (HT.out.next R8.b) ((d1.below hb8 (Nat.le_refl _)).up hb8.size)
        have HR8 : Hid (Res w W8 #[.int .i64 0, .int .i64 0, .int .i64 0] 46) := R8
        clear hw8 e1 f1 d1 n2 hb8 HA R8 b1
        go_upto_region 7 with (first
          | (go_at_call 120; refine n3.mono ?_; rintro e W9 ⟨v9, rfl, nb, qb, mb, cb, B2, rfl, hw9⟩)
          | go_in)
        obtain ⟨e2, ⟨r2, d2, f2⟩, hb9⟩ := hw9.out
        have HF : Hid (R = if B1 = true ∧ B2 = true ∧ mb = 0 then some ((k : Int), na, nb) else none) := HRt.out.trans (tail_eq HE1.out.1 HE1.out.2 e2 f2 d2.len)
        have R9 := HR8.out.next hb9
        obtain ⟨z0, y0⟩ := blk_cell R9.c 0 (.int .i64 0) rfl
        obtain ⟨z1, y1⟩ := blk_cell R9.c 1 (.int .i64 0) rfl
        obtain ⟨z2, y2⟩ := blk_cell R9.c 2 (.int .i64 0) rfl
        have HF2 : Hid (Res w (((W9.setCell ⟨w.heap.size, 0, none⟩ (.int .i64 (k : Int))).setCell ⟨w.heap.size, 1, none⟩ (.int .i64 na)).setCell ⟨w.heap.size, 2, none⟩ (.int .i64 nb)) #[.int .i64 (k : Int), .int .i64 na, .int .i64 nb] 46) := ((R9.set 0 (.int .i64 (k : Int))).set 1 (.int .i64 na)).set 2 (.int .i64 nb)
        clear hw9 e2 d2 f2 hb9 n3 R9 c8 HE1 HRt HR8
        have HFin : Hid (∀ b : Bool, (b = true ↔ B1 = true ∧ B2 = true ∧ mb = 0) → b = B ∧ ∀ x, R = some x → ((k : Int), na, nb) = x) := by
          intro b hb
          have e := HF.out
          have e' := HB.out
          by_cases hc : B1 = true ∧ B2 = true ∧ mb = 0
          · rw [if_pos hc] at e
            rw [e] at e'
            refine ⟨by rw [hb.2 hc, e']; rfl, fun x hx => ?_⟩
            rw [e] at hx
            cases hx
            rfl
          · rw [if_neg hc] at e
            rw [e] at e'
            refine ⟨by rw [e']; cases b with | false => rfl | true => exact absurd (hb.1 rfl) hc, fun x hx => ?_⟩
            rw [e] at hx
            cases hx
        by_cases hmb : mb = 0
        · have u0 : ((mb : Int) == 0) = true := by rw [beq_iff_eq]; omega
          cases B1 <;> cases B2
          all_goals
            go_wp2
            generalize ((W9.setCell ⟨w.heap.size, 0, none⟩ (.int .i64 (k : Int))).setCell ⟨w.heap.size, 1, none⟩ (.int .i64 na)).setCell ⟨w.heap.size, 2, none⟩ (.int .i64 nb) = W4 at HF2 ⊢
            obtain ⟨q0, -⟩ := blk_cell HF2.out.c 0 (.int .i64 (k : Int)) rfl
            obtain ⟨q1, -⟩ := blk_cell HF2.out.c 1 (.int .i64 na) rfl
            obtain ⟨q2, -⟩ := blk_cell HF2.out.c 2 (.int .i64 nb) rfl
          iterate 3
            obtain ⟨rfl, hv⟩ := HFin.out false (by simp)
            exact bodyPost_ret (v := .tuple #[.agg #[.int .i64 (k : Int), .int .i64 na, .int .i64 nb], .bool false]) (by simp [results, Tryz.results101, go_sem, q0, q1, q2]) rfl ⟨_, _, _, rfl, by first | exact hv | (intro a b c e; have := hv _ e; simpa using this), HF2.out.b⟩
          obtain ⟨rfl, hv⟩ := HFin.out true (by simp [hmb])
          exact bodyPost_ret (v := .tuple #[.agg #[.int .i64 (k : Int), .int .i64 na, .int .i64 nb], .bool true]) (by simp [results, Tryz.results101, go_sem, q0, q1, q2]) rfl ⟨_, _, _, rfl, by first | exact hv | (intro a b c e; have := hv _ e; simpa using this), HF2.out.b⟩
        · have u0 : ((mb : Int) == 0) = false := by rw [beq_eq_false_iff_ne]; omega
          obtain ⟨rfl, hv⟩ := HFin.out false (by simp [hmb])
          cases B1 <;> cases B2
          all_goals
            go_wp2
            generalize ((W9.setCell ⟨w.heap.size, 0, none⟩ (.int .i64 (k : Int))).setCell ⟨w.heap.size, 1, none⟩ (.int .i64 na)).setCell ⟨w.heap.size, 2, none⟩ (.int .i64 nb) = W4 at HF2 ⊢
            obtain ⟨q0, -⟩ := blk_cell HF2.out.c 0 (.int .i64 (k : Int)) rfl
            obtain ⟨q1, -⟩ := blk_cell HF2.out.c 1 (.int .i64 na) rfl
            obtain ⟨q2, -⟩ := blk_cell HF2.out.c 2 (.int .i64 nb) rfl
            exact bodyPost_ret (v := .tuple #[.agg #[.int .i64 (k : Int), .int .i64 na, .int .i64 nb], .bool false]) (by simp [results, Tryz.results101, go_sem, q0, q1, q2]) rfl ⟨_, _, _, rfl, by first | exact hv | (intro a b c e; have := hv _ e; simpa using this), HF2.out.b⟩
    · have hx1 : (wd.toList == x0.toList) = false := by rw [toL, toL, HD0.out, beq_eq_false_iff_ne]; exact hx
      rw [if_neg hx] at HS
      clear HN2 hx
      refine wp_region_quiet_below (by kernel_rfl) (by kernel_rfl) ?_
      repeat (first | go_big_quiet_step (first | fail) | quiet_step (first | fail))
      refine wpQuiet_nil ?_
      intro _ hw'
      obtain ⟨⟨dq, osq⟩, hw''⟩ := hw'
      subst hw''
      have hY := below_regrown Y dq osq
      change Exit.then _ _ Exit.normal _ (Sort.grow (redrawn Y dq) osq)
      generalize Sort.grow (redrawn Y dq) osq = Z at hY ⊢
      have hRZ : Hid (Res w Z #[.int .i64 0, .int .i64 0, .int .i64 0] 46) := hRY.out.next hY
      go_wp2
      exact ⟨⟨k + 1, by omega, by go_num, HS, hRZ⟩, by simp [intOf]; omega⟩
end Go.Proofs.YtchinflkjcebjabGreatDoor
