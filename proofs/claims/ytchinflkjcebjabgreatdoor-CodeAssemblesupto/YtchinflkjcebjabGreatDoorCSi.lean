import Derived.Test.YtchinflkjcebjabGreatDoorCSh
namespace Go.Proofs.YtchinflkjcebjabGreatDoor
open Go.RowKit

/-- A result and a value that are being made. -/
structure Mk2 (w W : World) (p2 p3 : Nat) (Z C : Array Value) (t : TypeId) : Prop where
  b : Below w.heap.size w W
  b2 : W.heap[p2]? = some (.cells Z t)
  b3 : W.heap[p3]? = some (.cells C t)
  ne : p2 ≠ p3
  l2 : w.heap.size ≤ p2
  l3 : w.heap.size ≤ p3
theorem Mk2.lt3 {w W : World} {p2 p3 : Nat} {Z C : Array Value} {t : TypeId} (h : Mk2 w W p2 p3 Z C t) : p3 < W.heap.size := (Array.getElem?_eq_some_iff.1 h.b3).1
theorem Mk2.lt2 {w W : World} {p2 p3 : Nat} {Z C : Array Value} {t : TypeId} (h : Mk2 w W p2 p3 Z C t) : p2 < W.heap.size := (Array.getElem?_eq_some_iff.1 h.b2).1
theorem Mk2.next {w W W' : World} {p2 p3 : Nat} {Z C : Array Value} {t : TypeId} (h : Mk2 w W p2 p3 Z C t) (k : Below W.heap.size W W') : Mk2 w W' p2 p3 Z C t := ⟨below2 h.b k, (k.block _ h.lt2).trans h.b2, (k.block _ h.lt3).trans h.b3, h.ne, h.l2, h.l3⟩
theorem Mk2.set {w W : World} {p2 p3 : Nat} {Z C : Array Value} {t : TypeId} (h : Mk2 w W p2 p3 Z C t) (j : Nat) (v : Value) : Mk2 w (W.setCell ⟨p3, j, none⟩ v) p2 p3 Z (C.set! j v) t :=
  ⟨h.b.setCell (p := ⟨p3, j, none⟩) h.l3 v, (set_heap (a := ⟨p3, j, none⟩) h.ne).trans h.b2, set_blk h.b3 v, h.ne, h.l2, h.l3⟩
theorem Mk2.res {w W : World} {p2 p3 : Nat} {Z C : Array Value} {t : TypeId} (h : Mk2 w W p2 p3 Z C t) (j : Nat) (v : Value) : Mk2 w (W.setCell ⟨p2, j, none⟩ v) p2 p3 (Z.set! j v) C t :=
  ⟨h.b.setCell (p := ⟨p2, j, none⟩) h.l2 v, set_blk h.b2 v, (set_heap (a := ⟨p2, j, none⟩) (Ne.symm h.ne)).trans h.b3, h.ne, h.l2, h.l3⟩
theorem Mk2.grown {w W W' : World} {p2 p3 : Nat} {Z C : Array Value} {t : TypeId} (h : Mk2 w W p2 p3 Z C t) {row : Option Nat} (hg : W.grownBy W' row) (hr : ∀ k, row = some k → w.heap.size ≤ k ∧ k ≠ p2 ∧ k ≠ p3) : Mk2 w W' p2 p3 Z C t :=
  ⟨h.b.grown hg h.b.size (fun k hk => (hr k hk).1), (hg.block p2 h.lt2 (fun q => (hr _ q.symm).2.1 rfl)).trans h.b2, (hg.block p3 h.lt3 (fun q => (hr _ q.symm).2.2 rfl)).trans h.b3, h.ne, h.l2, h.l3⟩
theorem sort_v (s : ByteArray) (w : World) (ht : Tabs w) : Calls Tryz.prog 119 #[.string s] w fun e w' => ∃ v, e = .returned v ∧ (v = .int .i64 (rdSort (lt s)) ∧ Hid (w' = w)) := (readSort_any s w ht).mono fun _ _ ⟨a, b⟩ => ⟨_, a, rfl, b⟩
theorem calls (a : Value) (w : World) : (callFunc 119 #[a]).run Tryz.prog w = .ok (.enter 119 #[a]) w := by kernel_rfl
theorem callm (a : Value) (w : World) : (callFunc 90 #[a]).run Tryz.prog w = .ok (.enter 90 #[a]) w := by kernel_rfl
theorem step_callw {P : Program} {w : World} {ops : Array Oper} {o : Oper} {a : Act} {K : Act → World → Prop} {Q : Exit → Act → World → Prop} {E : Prop} (hw : Region.wanted o (yielded ops a.tmps) = true) (f : FuncId) (xs : List Operand) (ts : Array TypeId) (us : List Value)
    (ho : o.op = .call { callee := .value (.func f), args := xs.toArray, argTypes := ts }) (hx : xs.map a.eval = us) (hcf : ∀ w : World, (callFunc f us.toArray).run P w = .ok (.enter f us.toArray) w)
    (Post : Value → World → Prop) (hc : Calls P f us.toArray w fun e w' => ∃ v, e = .returned v ∧ Post v w') (hK : ∀ v w', Post v w' → K (a.put o.dst v) w') : if Region.wanted o (yielded ops a.tmps) = true then Oper.wp P o a w K Q else E := by
  rw [if_pos hw]
  have hf : a.eval (.func f) = .func (.func f) #[] #[] := rfl
  have hr : (execOp a.eval o).run P w = .ok (.enter f us.toArray) w := by
    unfold execOp
    simp only [ho, resolve, invoke, Sem.run_bind, List.map_toArray, hx, hf]
    simp [go_sem, hcf]
  unfold Oper.wp
  rw [hr, Oper.upon_enter]
  refine hc.mono ?_
  rintro e w' ⟨v, rfl, hb⟩
  exact hK _ _ hb
def sts (ws : List Bs) : List Int := (ws.drop 4).map rdSort
theorem rdEnt_eq {ws : List Bs} (h : 4 ≤ ws.length) : rdEnt ws = match readO 12 (wAt ws 2) with
  | none => none
  | some p => if wAt ws 3 ≠ [45] ∧ rdSort (wAt ws 3) = 0 then none else if entS ⟨YtchinflkjcebjabGreatDoor.bk (wAt ws 1), 0, p, sts ws, if wAt ws 3 = [45] then 0 else rdSort (wAt ws 3)⟩ then some ⟨YtchinflkjcebjabGreatDoor.bk (wAt ws 1), 0, p, sts ws, if wAt ws 3 = [45] then 0 else rdSort (wAt ws 3)⟩ else none := by
  unfold rdEnt
  rw [if_neg (by omega)]
  rfl
theorem wAt_drop (ws : List Bs) (i j : Nat) : wAt (ws.drop i) j = wAt ws (i + j) := by
  unfold wAt
  rw [List.getD_eq_getElem?_getD, List.getD_eq_getElem?_getD, List.getElem?_drop]
theorem cut4_run (q : Option Addr) (n cap : Nat) (hk : 4 ≤ n) : ∀ w : World, (Instr.slice 24 (.slice q n cap) (some (.int .i64 4)) none none).run Tryz.prog w = .ok (.slice (cutQ q 4 cap) (n - 4) (cap - 4)) w := cut_run q n cap 4 hk
set_option maxRecDepth 100000 in
set_option maxHeartbeats 8000000 in
theorem readEntry_any (w : World) (q : Option Addr) (n cap : Nat) (ws : List Bs) (ht : Tabs w) (h : Wds w w.heap.size q n cap ws) :
    Calls Tryz.prog 100 #[.slice q n cap] w fun e w' => ∃ (nm : ByteArray) (pr rs : Int) (q' : Option Addr) (m c' : Nat), e = .returned (.tuple #[.agg #[.string nm, .int .i64 0, .int .i64 pr, .slice q' m c', .int .i64 rs], .bool (rdEnt ws).isSome]) ∧ Hid ((∃ so : List Int, m = so.length ∧ w'.ownsRow w.heap.size 48 1 (.slice q' so.length c') so.length (sv so) ∧ ∀ x, rdEnt ws = some x → x = ⟨nm, 0, pr, so, rs⟩) ∧ Below w.heap.size w w') := by
  obtain ⟨R, HR⟩ : ∃ R, Hid (R = rdEnt ws) := ⟨_, rfl⟩
  rw [← HR.out]
  obtain ⟨B, HB⟩ : ∃ B : Bool, Hid (B = R.isSome) := ⟨_, rfl⟩
  rw [← HB.out]
  obtain ⟨X, hX⟩ : ∃ X, X = w.alloc (.cells (ev e0 0 0 (.slice none 0 0) 0) 50) := ⟨_, rfl⟩
  have HX : Hid (Res w X (ev e0 0 0 (.slice none 0 0) 0) 50) := by rw [hX]; exact Res.new w _ _
  by_cases h4 : 4 ≤ n
  case neg =>
    have HF : Hid (R = none) := by show R = none; rw [HR.out]; unfold rdEnt; rw [if_pos (by have := h.len; omega)]
    have hBf : B = false := by rw [HB.out, HF.out]; rfl
    have n4 : (n : Int) < 4 := by omega
    subst hBf
    obtain ⟨x0, y0⟩ := blk_cell HX.out.c 0 (.string e0) rfl
    obtain ⟨x1, y1⟩ := blk_cell HX.out.c 1 (.int .i64 0) rfl
    obtain ⟨x2, y2⟩ := blk_cell HX.out.c 2 (.int .i64 0) rfl
    obtain ⟨x3, y3⟩ := blk_cell HX.out.c 3 (.slice none 0 0) rfl
    obtain ⟨x4, y4⟩ := blk_cell HX.out.c 4 (.int .i64 0) rfl
    have HF2 : Hid (Res w (((((X.setCell ⟨w.heap.size, 0, none⟩ (.string e0)).setCell ⟨w.heap.size, 1, none⟩ (.int .i64 0)).setCell ⟨w.heap.size, 2, none⟩ (.int .i64 0)).setCell ⟨w.heap.size, 3, none⟩ (.slice none 0 0)).setCell ⟨w.heap.size, 4, none⟩ (.int .i64 0)) (ev e0 0 0 (.slice none 0 0) 0) 50) := ((((HX.out.set 0 (.string e0)).set 1 (.int .i64 0)).set 2 (.int .i64 0)).set 3 (.slice none 0 0)).set 4 (.int .i64 0)
    clear h ht HR h4 HX
    go_enter Tryz.func100, Tryz.ntmps100
    go_upto_region 1 with fail
    rw [← hX]
    clear hX
    go_wp2
    generalize ((((X.setCell ⟨w.heap.size, 0, none⟩ (.string e0)).setCell ⟨w.heap.size, 1, none⟩ (.int .i64 0)).setCell ⟨w.heap.size, 2, none⟩ (.int .i64 0)).setCell ⟨w.heap.size, 3, none⟩ (.slice none 0 0)).setCell ⟨w.heap.size, 4, none⟩ (.int .i64 0) = W4 at HF2 ⊢
    obtain ⟨q0, -⟩ := blk_cell HF2.out.c 0 (.string e0) rfl
    obtain ⟨q1, -⟩ := blk_cell HF2.out.c 1 (.int .i64 0) rfl
    obtain ⟨q2, -⟩ := blk_cell HF2.out.c 2 (.int .i64 0) rfl
    obtain ⟨q3, -⟩ := blk_cell HF2.out.c 3 (.slice none 0 0) rfl
    obtain ⟨q4, -⟩ := blk_cell HF2.out.c 4 (.int .i64 0) rfl
    refine bodyPost_ret (v := .tuple #[.agg (ev e0 0 0 (.slice none 0 0) 0), .bool false]) (by simp [results, Tryz.results100, go_sem, q0, q1, q2, q3, q4]) rfl ⟨e0, 0, 0, none, 0, 0, rfl, ⟨[], rfl, World.ownsRow_nil _ _ _ _, ?_⟩, HF2.out.b⟩
    intro t e
    rw [HF.out] at e
    cases e
  have n4 : (4 : Int) ≤ (n : Int) := by omega
  have hE := rdEnt_eq (ws := ws) (by rw [← h.len]; exact h4)
  rw [← HR.out] at hE
  have HD := h.drop 4 h4
  have hsl := cut4_run q n cap h4
  have hg : ∀ i, i < 4 → (YtchinflkjcebjabGreatDoor.bk (wAt ws i)).size ≤ 281474976710656 := fun i hi => by
    rw [bk_size]
    have hl := h.len
    have e : wAt ws i = ws[i]'(by omega) := by unfold wAt; rw [List.getD_eq_getElem?_getD, List.getElem?_eq_getElem (by omega)]; rfl
    rw [e]
    exact h.sz _ (List.getElem_mem _)
  have HC : Hid (∀ W, Below w.heap.size w W → ∃ g o, q = some ⟨g, o, none⟩ ∧ W.cell? ⟨g, o + 1, none⟩ = some (.string (YtchinflkjcebjabGreatDoor.bk (wAt ws 1))) ∧ W.cell? ⟨g, o + 2, none⟩ = some (.string (YtchinflkjcebjabGreatDoor.bk (wAt ws 2))) ∧ W.cell? ⟨g, o + 3, none⟩ = some (.string (YtchinflkjcebjabGreatDoor.bk (wAt ws 3)))) := fun W hb => by
    obtain ⟨g, o, rfl, hg, hc1⟩ := (h.below hb (Nat.le_refl _)).at 1 (by omega)
    obtain ⟨g', o', e, -, hc2⟩ := (h.below hb (Nat.le_refl _)).at 2 (by omega)
    cases e
    obtain ⟨g', o', e, -, hc3⟩ := (h.below hb (Nat.le_refl _)).at 3 (by omega)
    cases e
    exact ⟨g, o, rfl, hc1, hc2, hc3⟩
  have hg1 := hg 1 (by decide)
  have HRd : Hid (∀ W, Below w.heap.size w W → Calls Tryz.prog 98 #[.int .i64 12, .string (YtchinflkjcebjabGreatDoor.bk (wAt ws 2))] W fun e w' => ∃ n' : Int, e = .returned (.tuple #[.int .i64 n', .bool (readO 12 (wAt ws 2)).isSome]) ∧ Hid ((∀ n, readO 12 (wAt ws 2) = some n → n' = n) ∧ Below W.heap.size W w')) := fun W hb => by
    have := read_any 12 (YtchinflkjcebjabGreatDoor.bk (wAt ws 2)) W (ht.next hb) (by decide) (hg 2 (by decide))
    rw [show lt (YtchinflkjcebjabGreatDoor.bk (wAt ws 2)) = wAt ws 2 from bk_data _] at this
    exact this
  have HCl : Hid (∀ W, Calls Tryz.prog 96 #[.string (YtchinflkjcebjabGreatDoor.bk (wAt ws 1))] W fun e w' => e = .returned (.string (YtchinflkjcebjabGreatDoor.bk (wAt ws 1))) ∧ Below W.heap.size W w') := fun W => clone_any _ W (by omega)
  have HSr : Hid (∀ W, Below w.heap.size w W → Calls Tryz.prog 119 #[.string (YtchinflkjcebjabGreatDoor.bk (wAt ws 3))] W fun e w' => e = .returned (.int .i64 (rdSort (wAt ws 3))) ∧ w' = W) := fun W hb => by
    have := readSort_any (YtchinflkjcebjabGreatDoor.bk (wAt ws 3)) W (ht.next hb)
    rw [show lt (YtchinflkjcebjabGreatDoor.bk (wAt ws 3)) = wAt ws 3 from bk_data _] at this
    exact this
  have HT : Hid (Tabs w) := ht
  have HDH : Hid (Wds w w.heap.size (cutQ q 4 cap) (n - 4) (cap - 4) (ws.drop 4)) := HD
  have HLs : Hid ((ws.drop 4).length = n - 4) := HD.len.symm
  obtain ⟨SO, HSO⟩ : ∃ SO, Hid (SO = sts ws) := ⟨_, rfl⟩
  have HSL : Hid (SO.length = n - 4) := by show _ = _; rw [HSO.out]; unfold sts; rw [List.length_map]; exact HLs.out
  have HSj : Hid (∀ j, j < n - 4 → SO.take (j + 1) = SO.take j ++ [rdSort (wAt (ws.drop 4) j)]) := fun j hj => by
    have hj' : j < SO.length := by rw [HSL.out]; exact hj
    rw [List.take_succ_eq_append_getElem hj']
    congr 2
    have hj2 : j < (ws.drop 4).length := by rw [HLs.out]; exact hj
    have e2 : wAt (ws.drop 4) j = (ws.drop 4)[j] := by unfold wAt; rw [List.getD_eq_getElem?_getD, List.getElem?_eq_getElem hj2]; rfl
    rw [e2]
    have e3 : SO[j]? = some (rdSort (ws.drop 4)[j]) := by rw [HSO.out]; unfold sts; rw [List.getElem?_map, List.getElem?_eq_getElem hj2]; rfl
    rw [List.getElem?_eq_getElem hj'] at e3
    exact Option.some.inj e3
  have hbig : n - 4 ≤ 1000 := by have := h.big; have := h.len; omega
  rw [← HSO.out] at hE
  have HE : Hid (R = _) := hE
  generalize YtchinflkjcebjabGreatDoor.bk (wAt ws 1) = nm at *
  have hx3 : (YtchinflkjcebjabGreatDoor.bk (wAt ws 3)).data.toList = wAt ws 3 := bk_data _
  have HX3 : Hid ((YtchinflkjcebjabGreatDoor.bk (wAt ws 3)).data.toList = wAt ws 3) := hx3
  generalize YtchinflkjcebjabGreatDoor.bk (wAt ws 2) = x2 at *
  generalize YtchinflkjcebjabGreatDoor.bk (wAt ws 3) = x3 at *
  generalize readO 12 (wAt ws 2) = RO at *
  obtain ⟨B1, HB1⟩ : ∃ B1 : Bool, Hid (B1 = RO.isSome) := ⟨_, rfl⟩
  rw [← HB1.out] at HRd
  generalize rdSort (wAt ws 3) = rs3 at *
  generalize wAt ws 3 = w3 at *
  have HnN : Hid (nm.size ≤ 281474976710656) := hg1
  clear h ht HR HD hg hg1 hx3 hE HSO HLs
  generalize cutQ q 4 cap = q4 at *
  generalize ws.drop 4 = ws4 at *
  have n40 : ((n - 4 : Nat) : Int) ≤ 1000 := by omega
  generalize n - 4 = m4 at *
  generalize cap - 4 = cap4 at *
  have rX := HRd.out X HX.out.b
  obtain ⟨g, p, rfl, c1, c2, c3⟩ := HC.out X HX.out.b
  go_enter Tryz.func100, Tryz.ntmps100
  go_upto_region 1 with fail
  rw [← hX]
  clear hX
  go_upto_region 4 with (first
    | (go_at_call 98; refine rX.mono ?_; rintro e W1 ⟨cnt, rfl, hw1⟩)
    | go_in)
  have HR1 : Hid (Res w W1 (ev e0 0 0 (.slice none 0 0) 0) 50) := HX.out.next hw1.out.2
  have HCn : Hid (∀ n, RO = some n → cnt = n) := hw1.out.1
  clear rX c1 c2 c3 hw1 HX HRd
  obtain ⟨g', p', hgp, c1, -, -⟩ := HC.out W1 HR1.out.b
  cases hgp
  have rC := HCl.out W1
  go_upto_region 5 with (first
    | (go_at_call 96; refine rC.mono ?_; rintro e W2 ⟨rfl, hw2⟩)
    | go_in)
  have hR2 := HR1.out.next hw2
  obtain ⟨W3, hW3⟩ : ∃ W3, W3 = W2.alloc (.cells (ev nm 0 cnt (.slice none 0 0) 0) 50) := ⟨_, rfl⟩
  have nb3 : Below W2.heap.size W2 W3 := by rw [hW3]; exact (Below.refl _ W2).alloc (Nat.le_refl _) _
  have HM3 : Hid (Mk2 w W3 w.heap.size W2.heap.size (ev e0 0 0 (.slice none 0 0) 0) (ev nm 0 cnt (.slice none 0 0) 0) 50) := ⟨below2 hR2.b nb3, (nb3.block _ hR2.lt).trans hR2.c, by rw [hW3]; exact World.alloc_heap_new W2 _, Nat.ne_of_lt hR2.lt, Nat.le_refl _, Nat.le_of_lt hR2.lt⟩
  rw [← hW3]
  clear hW3 nb3 hw2 rC HR1 HCl c1 hR2
  generalize W2.heap.size = p3 at *
  obtain ⟨g', p', hgp, -, -, c3⟩ := HC.out W3 HM3.out.b
  cases hgp
  clear HC
  -- the ways to the loop
  have HOK : Hid (∀ (OK : Bool) (rs : Int), (OK = true ↔ B1 = true ∧ (w3 = [45] ∨ rs3 ≠ 0)) → rs = (if w3 = [45] then 0 else rs3) → (OK = true → R = if entS ⟨nm, 0, cnt, SO, rs⟩ then some ⟨nm, 0, cnt, SO, rs⟩ else none) ∧ (OK = false → R = none)) := by
    intro OK rs hOK hrs
    have e := HE.out
    rw [← hrs] at e
    have e1 := HB1.out
    cases hRO : RO with
    | none =>
      rw [hRO] at e e1
      refine ⟨fun q => ?_, fun _ => e⟩
      have := (hOK.1 q).1
      rw [e1] at this
      cases this
    | some v =>
      rw [hRO] at e e1
      have hv := HCn.out v hRO
      subst hv
      simp only at e
      by_cases hc : w3 = [45] ∨ rs3 ≠ 0
      · rw [if_neg (by rintro ⟨a, b⟩; rcases hc with q | q; exact a q; exact q b)] at e
        refine ⟨fun _ => e, fun q => ?_⟩
        have := hOK.2 ⟨e1, hc⟩
        rw [q] at this
        cases this
      · rw [if_pos ⟨fun q => hc (.inl q), Classical.not_not.1 fun q => hc (.inr q)⟩] at e
        refine ⟨fun q => absurd (hOK.1 q).2 hc, fun _ => e⟩
  clear HE HB1 HCn
  have HSX : Hid (w3 = [45] ↔ x3.data.toList = [45]) := by show _ ↔ _; rw [HX3.out]
  have hPath : Hid (∀ (OK : Bool) (rs : Int), True) := fun _ _ => trivial
  clear hPath
  by_cases h45 : w3 = [45]
  case pos =>
    have e1 : (x3.toList == [45]) = true := by rw [toL, HX3.out, h45]; rfl
    have hP := HOK.out B1 0 (by simp [h45]) (by simp [h45])
    obtain ⟨rs, HP, HMW⟩ : ∃ rs : Int, Hid ((B1 = true → R = if entS ⟨nm, 0, cnt, SO, rs⟩ then some ⟨nm, 0, cnt, SO, rs⟩ else none) ∧ (B1 = false → R = none)) ∧ Hid (Mk2 w W3 w.heap.size p3 (ev e0 0 0 (.slice none 0 0) 0) (ev nm 0 cnt (.slice none 0 0) rs) 50) := ⟨0, hP, HM3⟩
    clear hP HOK HM3 HSr HX3 HSX
    cases B1 with
    | false =>
      have HPF : Hid (R = none) := HP.out.2 rfl
      clear HP
      go_upto_region 8 with fail
      generalize W3 = W at *
      go_wp2_with fail
      go_loopw [44] (fun i wr => ∃ (j : Nat) (qj : Option Addr) (cj : Nat), j ≤ m4 ∧ i = .int .i64 (j : Int) ∧ Hid (Mk2 w wr w.heap.size p3 (ev e0 0 0 (.slice none 0 0) 0) (ev nm 0 cnt (.slice qj j cj) rs) 50) ∧ Hid (wr.ownsRow w.heap.size 48 1 (.slice qj j cj) j (sv (SO.take j)))) (fun i _ => m4 - (intOf i).toNat)
      case atStart => exact ⟨0, none, 0, Nat.zero_le _, rfl, HMW, by rw [List.take_zero]; exact World.ownsRow_nil _ _ _ _⟩
      case round =>
        clear HMW
        obtain ⟨j, qj, cj, hj, rfl, hM, hO⟩ := hrel
        by_cases hlt : j < m4
        case neg =>
          obtain rfl : j = m4 := by omega
          have hO' : Hid (wr.ownsRow w.heap.size 48 1 (.slice qj SO.length cj) SO.length (sv SO)) := by
            have e := hO.out
            rw [List.take_of_length_le (by rw [HSL.out]; exact Nat.le_refl _)] at e
            rw [HSL.out]
            exact e
          clear hO
          obtain ⟨d0, -⟩ := blk_cell hM.out.b3 0 (.string nm) rfl
          obtain ⟨d1, -⟩ := blk_cell hM.out.b3 1 (.int .i64 0) rfl
          obtain ⟨d2, -⟩ := blk_cell hM.out.b3 2 (.int .i64 cnt) rfl
          obtain ⟨d3, -⟩ := blk_cell hM.out.b3 3 (.slice qj j cj) rfl
          obtain ⟨d4, -⟩ := blk_cell hM.out.b3 4 (.int .i64 rs) rfl
          obtain ⟨z0, y0⟩ := blk_cell hM.out.b2 0 (.string e0) rfl
          obtain ⟨z1, y1⟩ := blk_cell hM.out.b2 1 (.int .i64 0) rfl
          obtain ⟨z2, y2⟩ := blk_cell hM.out.b2 2 (.int .i64 0) rfl
          obtain ⟨z3, y3⟩ := blk_cell hM.out.b2 3 (.slice none 0 0) rfl
          obtain ⟨z4, y4⟩ := blk_cell hM.out.b2 4 (.int .i64 0) rfl
          have hBf : B = false := by rw [HB.out, HPF.out]; rfl
          subst hBf
          go_wp2_with fail
          go_region_law (first | fail)
          all_goals
            have HF2 : Hid (Mk2 w (((((wr.setCell ⟨w.heap.size, 0, none⟩ (.string nm)).setCell ⟨w.heap.size, 1, none⟩ (.int .i64 0)).setCell ⟨w.heap.size, 2, none⟩ (.int .i64 cnt)).setCell ⟨w.heap.size, 3, none⟩ (.slice qj j cj)).setCell ⟨w.heap.size, 4, none⟩ (.int .i64 rs)) w.heap.size p3 (ev nm 0 cnt (.slice qj j cj) rs) (ev nm 0 cnt (.slice qj j cj) rs) 50) := ((((hM.out.res 0 _).res 1 _).res 2 _).res 3 _).res 4 _
            have hOF : Hid ((((((wr.setCell ⟨w.heap.size, 0, none⟩ (.string nm)).setCell ⟨w.heap.size, 1, none⟩ (.int .i64 0)).setCell ⟨w.heap.size, 2, none⟩ (.int .i64 cnt)).setCell ⟨w.heap.size, 3, none⟩ (.slice qj j cj)).setCell ⟨w.heap.size, 4, none⟩ (.int .i64 rs)).ownsRow w.heap.size 48 1 (.slice qj SO.length cj) SO.length (sv SO)) :=
              own_setB (own_setB (own_setB (own_setB (own_setB hO'.out hM.out.b2 (by decide) _) (hM.out.res 0 _).b2 (by decide) _) ((hM.out.res 0 _).res 1 _).b2 (by decide) _) (((hM.out.res 0 _).res 1 _).res 2 _).b2 (by decide) _) ((((hM.out.res 0 _).res 1 _).res 2 _).res 3 _).b2 (by decide) _
            have HF3 : Hid (Mk2 w (((((wr.setCell ⟨w.heap.size, 0, none⟩ (.string nm)).setCell ⟨w.heap.size, 1, none⟩ (.int .i64 0)).setCell ⟨w.heap.size, 2, none⟩ (.int .i64 cnt)).setCell ⟨w.heap.size, 3, none⟩ (.slice qj j cj)).setCell ⟨w.heap.size, 4, none⟩ (.int .i64 rs)).drew w.heap.size p3 (ev nm 0 cnt (.slice qj j cj) rs) (ev nm 0 cnt (.slice qj j cj) rs) 50) := HF2.out.next (Below.refl _ _).drew
            have hOG : Hid ((((((wr.setCell ⟨w.heap.size, 0, none⟩ (.string nm)).setCell ⟨w.heap.size, 1, none⟩ (.int .i64 0)).setCell ⟨w.heap.size, 2, none⟩ (.int .i64 cnt)).setCell ⟨w.heap.size, 3, none⟩ (.slice qj j cj)).setCell ⟨w.heap.size, 4, none⟩ (.int .i64 rs)).drew.ownsRow w.heap.size 48 1 (.slice qj SO.length cj) SO.length (sv SO)) := own_next hOF.out (Below.refl _ _).drew
            clear HF2 hOF
            generalize (((((wr.setCell ⟨w.heap.size, 0, none⟩ (.string nm)).setCell ⟨w.heap.size, 1, none⟩ (.int .i64 0)).setCell ⟨w.heap.size, 2, none⟩ (.int .i64 cnt)).setCell ⟨w.heap.size, 3, none⟩ (.slice qj j cj)).setCell ⟨w.heap.size, 4, none⟩ (.int .i64 rs)).drew = WF at HF3 hOG ⊢
            obtain ⟨k0, -⟩ := blk_cell HF3.out.b2 0 (.string nm) rfl
            obtain ⟨k1, -⟩ := blk_cell HF3.out.b2 1 (.int .i64 0) rfl
            obtain ⟨k2, -⟩ := blk_cell HF3.out.b2 2 (.int .i64 cnt) rfl
            obtain ⟨k3, -⟩ := blk_cell HF3.out.b2 3 (.slice qj j cj) rfl
            obtain ⟨k4, -⟩ := blk_cell HF3.out.b2 4 (.int .i64 rs) rfl
            go_wp2
            first | (change bodyPost Tryz.prog Tryz.f100 _ Exit.ret _ _) | (simp only [Exit.noGoto]) | skip
            refine bodyPost_ret (v := .tuple #[.agg (ev nm 0 cnt (.slice qj j cj) rs), .bool false]) (by simp [results, Tryz.results100, go_sem, k0, k1, k2, k3, k4]) rfl ⟨nm, cnt, rs, qj, j, cj, by rfl, ⟨SO, HSL.out.symm, hOG.out, ?_⟩, HF3.out.b⟩
            intro t e
            rw [HPF.out] at e
            cases e
        obtain ⟨g2, p2, hq4, hg2, cw⟩ := HDH.out.at j (by exact hlt)
        have bd : Below wr.heap.size wr wr.drew := (Below.refl _ wr).drew
        have cw' : wr.cell? ⟨g2, p2 + j, none⟩ = some (.string (YtchinflkjcebjabGreatDoor.bk (wAt ws4 j))) := (hM.out.b.cell (p := ⟨g2, p2 + j, none⟩) hg2).trans cw
        have n2 := sort_v (YtchinflkjcebjabGreatDoor.bk (wAt ws4 j)) wr.drew (HT.out.next (below2 hM.out.b bd))
        rw [show lt (YtchinflkjcebjabGreatDoor.bk (wAt ws4 j)) = wAt ws4 j from bk_data _] at n2
        have HS1 : Hid (SO.take (j + 1) = SO.take j ++ [rdSort (wAt ws4 j)]) := HSj.out j hlt
        generalize YtchinflkjcebjabGreatDoor.bk (wAt ws4 j) = xw at *
        generalize rdSort (wAt ws4 j) = vr at *
        have hMd := hM.out.next bd
        have hOd := own_next hO.out bd
        have HW8 : Hid (∀ W8, W8 = wr.drew → Mk2 w W8 w.heap.size p3 (ev e0 0 0 (.slice none 0 0) 0) (ev nm 0 cnt (.slice qj j cj) rs) 50 ∧ W8.ownsRow w.heap.size 48 1 (.slice qj j cj) j (sv (SO.take j))) := fun W8 e => by subst e; exact ⟨hMd, hOd⟩
        obtain ⟨x3, -⟩ := blk_cell hM.out.b3 3 (.slice qj j cj) rfl
        have HWA : Hid (∀ W8 W9, Mk2 w W8 w.heap.size p3 (ev e0 0 0 (.slice none 0 0) 0) (ev nm 0 cnt (.slice qj j cj) rs) 50 → W8.ownsRow w.heap.size 48 1 (.slice qj j cj) j (sv (SO.take j)) → (W8.alloc (.cells #[.int .i64 vr] 48)).grownBy W9 (Value.slice qj j cj).ownBlock → Mk2 w W9 w.heap.size p3 (ev e0 0 0 (.slice none 0 0) 0) (ev nm 0 cnt (.slice qj j cj) rs) 50) := fun W8 W9 hm ho hg => by
          refine (hm.next ((Below.refl _ W8).alloc (Nat.le_refl _) _)).grown hg (fun g hg' => ⟨own_ge ho g hg', fun e => ?_, fun e => ?_⟩)
          · subst e; exact own_ne ho (b := w.heap.size) (t := 50) (m := 5) ⟨_, hm.b2, Nat.le_refl _⟩ (by decide) hg'
          · subst e; exact own_ne ho (b := g) (t := 50) (m := 5) ⟨_, hm.b3, Nat.le_refl _⟩ (by decide) hg'
        have H1 : Hid (∀ u ∈ ([.int .i64 vr] : List Value), u.oneCell' = true) := fun u hu => by obtain rfl := List.mem_singleton.1 hu; rfl
        have j0 : (j : Int) < (m4 : Int) := by omega
        subst hq4
        clear bd hMd hOd hM hO cw hg2 HSj HT HDH
        go_wp2_with fail
        go_region_law (first
          | (refine step_call (by rfl) 119 [.tmp 50] #[9] [.string xw] (by rfl) (by rfl) (calls _) _ n2 ?_; rintro v8 W8 ⟨rfl, hw8⟩; obtain ⟨m8, o8⟩ := HW8.out W8 hw8.out; obtain ⟨x8, -⟩ := blk_cell m8.b3 3 (.slice qj j cj) rfl; obtain ⟨x8a, -⟩ := blk_cell (m8.next ((Below.refl _ W8).alloc (Nat.le_refl _) (.cells #[.int .i64 vr] 48))).b3 3 (.slice qj j cj) rfl)
          | (refine step_app 47 48 _ 1 8 Tryz.underlying47 infoSort (by rfl) (by decide) (by decide) (by rfl) _ _ (by rfl) w.heap.size (.slice qj j cj) j (sv (SO.take j)) (by rfl) (own_next o8 ((Below.refl _ W8).alloc (Nat.le_refl _) _)) W8.heap.size [.int .i64 vr] rfl H1.out (by rfl) (range_new W8 _ _) (by omega) (by have := m8.b.size; simp; omega) ?_; intro v9 W9 ho9 hg9; have m9 := HWA.out W8 W9 m8 o8 hg9.out.1; obtain ⟨x9, y9⟩ := blk_cell m9.b3 3 (.slice qj j cj) rfl; obtain ⟨q9, c9, rfl, -, -⟩ := own_slice ho9.out))
        all_goals
          have HM10 : Hid (Mk2 w (W9.setCell ⟨p3, 3, none⟩ (.slice q9 (j + 1) c9)) w.heap.size p3 (ev e0 0 0 (.slice none 0 0) 0) (ev nm 0 cnt (.slice q9 (j + 1) c9) rs) 50) := m9.set 3 _
          have hO10 : Hid ((W9.setCell ⟨p3, 3, none⟩ (.slice q9 (j + 1) c9)).ownsRow w.heap.size 48 1 (.slice q9 (j + 1) c9) (j + 1) (sv (SO.take j) ++ [.int .i64 vr])) := own_setB ho9.out m9.b3 (by decide) _
          clear m9 ho9 hg9 x8 x8a x9 y9 m8 o8 hw8 HWA HW8 n2 x3
          generalize W9.setCell ⟨p3, 3, none⟩ (.slice q9 (j + 1) c9) = W10 at *
          go_wp2
          exact ⟨⟨j + 1, q9, c9, by omega, by go_num, HM10, by rw [HS1.out, sv_app]; exact hO10⟩, by simp [intOf]; omega⟩
    | true =>
      have HPT : Hid (R = if entS ⟨nm, 0, cnt, SO, rs⟩ then some ⟨nm, 0, cnt, SO, rs⟩ else none) := HP.out.1 rfl
      clear HP
      go_upto_region 8 with fail
      generalize W3 = W at *
      go_wp2_with fail
      go_loopw [44] (fun i wr => ∃ (j : Nat) (qj : Option Addr) (cj : Nat), j ≤ m4 ∧ i = .int .i64 (j : Int) ∧ Hid (Mk2 w wr w.heap.size p3 (ev e0 0 0 (.slice none 0 0) 0) (ev nm 0 cnt (.slice qj j cj) rs) 50) ∧ Hid (wr.ownsRow w.heap.size 48 1 (.slice qj j cj) j (sv (SO.take j)))) (fun i _ => m4 - (intOf i).toNat)
      case atStart => exact ⟨0, none, 0, Nat.zero_le _, rfl, HMW, by rw [List.take_zero]; exact World.ownsRow_nil _ _ _ _⟩
      case round =>
        clear HMW
        obtain ⟨j, qj, cj, hj, rfl, hM, hO⟩ := hrel
        by_cases hlt : j < m4
        case neg =>
          obtain rfl : j = m4 := by omega
          have hO' : Hid (wr.ownsRow w.heap.size 48 1 (.slice qj SO.length cj) SO.length (sv SO)) := by
            have e := hO.out
            rw [List.take_of_length_le (by rw [HSL.out]; exact Nat.le_refl _)] at e
            rw [HSL.out]
            exact e
          clear hO
          obtain ⟨d0, -⟩ := blk_cell hM.out.b3 0 (.string nm) rfl
          obtain ⟨d1, -⟩ := blk_cell hM.out.b3 1 (.int .i64 0) rfl
          obtain ⟨d2, -⟩ := blk_cell hM.out.b3 2 (.int .i64 cnt) rfl
          obtain ⟨d3, -⟩ := blk_cell hM.out.b3 3 (.slice qj j cj) rfl
          obtain ⟨d4, -⟩ := blk_cell hM.out.b3 4 (.int .i64 rs) rfl
          obtain ⟨z0, y0⟩ := blk_cell hM.out.b2 0 (.string e0) rfl
          obtain ⟨z1, y1⟩ := blk_cell hM.out.b2 1 (.int .i64 0) rfl
          obtain ⟨z2, y2⟩ := blk_cell hM.out.b2 2 (.int .i64 0) rfl
          obtain ⟨z3, y3⟩ := blk_cell hM.out.b2 3 (.slice none 0 0) rfl
          obtain ⟨z4, y4⟩ := blk_cell hM.out.b2 4 (.int .i64 0) rfl
          have bd : Below wr.heap.size wr wr.drew := (Below.refl _ wr).drew
          have n3 : Calls Tryz.prog 90 #[.agg (ev nm 0 cnt (.slice qj j cj) rs)] wr.drew fun e w' => ∃ v, e = .returned v ∧ (v = .bool (entS ⟨nm, 0, cnt, SO, rs⟩) ∧ Hid (Below wr.drew.heap.size wr.drew w')) := by
            have e1 := entry_any (⟨nm, 0, cnt, SO, rs⟩, qj, cj) wr.drew (HT.out.next (below2 hM.out.b bd)) (row_of_own (own_next hO'.out bd)) (Nat.le_trans HnN.out (by decide)) (by have := HSL.out; show SO.length ≤ _; omega)
            have e2 : (ec (⟨nm, 0, cnt, SO, rs⟩, qj, cj)).toArray = (ev nm 0 cnt (.slice qj j cj) rs) := by show #[_, _, _, Value.slice qj SO.length cj, _] = _; rw [HSL.out]
            rw [e2] at e1
            exact e1.mono fun _ _ ⟨a, b⟩ => ⟨_, a, rfl, b⟩
          have HW8 : Hid (∀ W8, Below wr.drew.heap.size wr.drew W8 → Mk2 w W8 w.heap.size p3 (ev e0 0 0 (.slice none 0 0) 0) (ev nm 0 cnt (.slice qj j cj) rs) 50 ∧ W8.ownsRow w.heap.size 48 1 (.slice qj SO.length cj) SO.length (sv SO)) := fun W8 hb => ⟨hM.out.next (below2 bd hb), own_next hO'.out (below2 bd hb)⟩
          generalize entS ⟨nm, 0, cnt, SO, rs⟩ = EB at *
          have hBE : B = EB := by rw [HB.out, HPT.out]; cases EB <;> rfl
          subst hBE
          clear bd
          go_wp2_with fail
          go_region_law (first
            | (refine step_callw (by rfl) 90 [.tmp 59] #[50] [.agg (ev nm 0 cnt (.slice qj j cj) rs)] (by rfl) (by rfl) (callm _) _ n3 ?_; rintro v8 W8 ⟨rfl, hb8⟩; obtain ⟨m8, o8⟩ := HW8.out W8 hb8.out; have M8 : Hid (Mk2 w W8 w.heap.size p3 (ev e0 0 0 (.slice none 0 0) 0) (ev nm 0 cnt (.slice qj j cj) rs) 50) := m8; obtain ⟨g0, -⟩ := blk_cell m8.b3 0 (.string nm) rfl; obtain ⟨g1, -⟩ := blk_cell m8.b3 1 (.int .i64 0) rfl; obtain ⟨g2, -⟩ := blk_cell m8.b3 2 (.int .i64 cnt) rfl; obtain ⟨g3, -⟩ := blk_cell m8.b3 3 (.slice qj j cj) rfl; obtain ⟨g4, -⟩ := blk_cell m8.b3 4 (.int .i64 rs) rfl; obtain ⟨v0, h0⟩ := blk_cell m8.b2 0 (.string e0) rfl; obtain ⟨v1, h1⟩ := blk_cell m8.b2 1 (.int .i64 0) rfl; obtain ⟨v2, h2⟩ := blk_cell m8.b2 2 (.int .i64 0) rfl; obtain ⟨v3, h3⟩ := blk_cell m8.b2 3 (.slice none 0 0) rfl; obtain ⟨v4, h4⟩ := blk_cell m8.b2 4 (.int .i64 0) rfl))
          all_goals
            have HF2 : Hid (Mk2 w (((((W8.setCell ⟨w.heap.size, 0, none⟩ (.string nm)).setCell ⟨w.heap.size, 1, none⟩ (.int .i64 0)).setCell ⟨w.heap.size, 2, none⟩ (.int .i64 cnt)).setCell ⟨w.heap.size, 3, none⟩ (.slice qj j cj)).setCell ⟨w.heap.size, 4, none⟩ (.int .i64 rs)) w.heap.size p3 (ev nm 0 cnt (.slice qj j cj) rs) (ev nm 0 cnt (.slice qj j cj) rs) 50) := ((((M8.out.res 0 _).res 1 _).res 2 _).res 3 _).res 4 _
            have hOF : Hid ((((((W8.setCell ⟨w.heap.size, 0, none⟩ (.string nm)).setCell ⟨w.heap.size, 1, none⟩ (.int .i64 0)).setCell ⟨w.heap.size, 2, none⟩ (.int .i64 cnt)).setCell ⟨w.heap.size, 3, none⟩ (.slice qj j cj)).setCell ⟨w.heap.size, 4, none⟩ (.int .i64 rs)).ownsRow w.heap.size 48 1 (.slice qj SO.length cj) SO.length (sv SO)) :=
              own_setB (own_setB (own_setB (own_setB (own_setB o8 M8.out.b2 (by decide) _) (M8.out.res 0 _).b2 (by decide) _) ((M8.out.res 0 _).res 1 _).b2 (by decide) _) (((M8.out.res 0 _).res 1 _).res 2 _).b2 (by decide) _) ((((M8.out.res 0 _).res 1 _).res 2 _).res 3 _).b2 (by decide) _
            have HF3 := HF2
            have hOG := hOF
            clear HF2 hOF
            generalize (((((W8.setCell ⟨w.heap.size, 0, none⟩ (.string nm)).setCell ⟨w.heap.size, 1, none⟩ (.int .i64 0)).setCell ⟨w.heap.size, 2, none⟩ (.int .i64 cnt)).setCell ⟨w.heap.size, 3, none⟩ (.slice qj j cj)).setCell ⟨w.heap.size, 4, none⟩ (.int .i64 rs)) = WF at HF3 hOG ⊢
            obtain ⟨k0, -⟩ := blk_cell HF3.out.b2 0 (.string nm) rfl
            obtain ⟨k1, -⟩ := blk_cell HF3.out.b2 1 (.int .i64 0) rfl
            obtain ⟨k2, -⟩ := blk_cell HF3.out.b2 2 (.int .i64 cnt) rfl
            obtain ⟨k3, -⟩ := blk_cell HF3.out.b2 3 (.slice qj j cj) rfl
            obtain ⟨k4, -⟩ := blk_cell HF3.out.b2 4 (.int .i64 rs) rfl
            go_wp2
            first | (change bodyPost Tryz.prog Tryz.f100 _ Exit.ret _ _) | (simp only [Exit.noGoto]) | skip
            refine bodyPost_ret (v := .tuple #[.agg (ev nm 0 cnt (.slice qj j cj) rs), .bool B]) (by simp [results, Tryz.results100, go_sem, k0, k1, k2, k3, k4]) rfl ⟨nm, cnt, rs, qj, j, cj, by rfl, ⟨SO, HSL.out.symm, hOG.out, ?_⟩, HF3.out.b⟩
            intro t e
            rw [HPT.out] at e
            cases B with
            | false => cases e
            | true => cases e; rfl
        obtain ⟨g2, p2, hq4, hg2, cw⟩ := HDH.out.at j (by exact hlt)
        have bd : Below wr.heap.size wr wr.drew := (Below.refl _ wr).drew
        have cw' : wr.cell? ⟨g2, p2 + j, none⟩ = some (.string (YtchinflkjcebjabGreatDoor.bk (wAt ws4 j))) := (hM.out.b.cell (p := ⟨g2, p2 + j, none⟩) hg2).trans cw
        have n2 := sort_v (YtchinflkjcebjabGreatDoor.bk (wAt ws4 j)) wr.drew (HT.out.next (below2 hM.out.b bd))
        rw [show lt (YtchinflkjcebjabGreatDoor.bk (wAt ws4 j)) = wAt ws4 j from bk_data _] at n2
        have HS1 : Hid (SO.take (j + 1) = SO.take j ++ [rdSort (wAt ws4 j)]) := HSj.out j hlt
        generalize YtchinflkjcebjabGreatDoor.bk (wAt ws4 j) = xw at *
        generalize rdSort (wAt ws4 j) = vr at *
        have hMd := hM.out.next bd
        have hOd := own_next hO.out bd
        have HW8 : Hid (∀ W8, W8 = wr.drew → Mk2 w W8 w.heap.size p3 (ev e0 0 0 (.slice none 0 0) 0) (ev nm 0 cnt (.slice qj j cj) rs) 50 ∧ W8.ownsRow w.heap.size 48 1 (.slice qj j cj) j (sv (SO.take j))) := fun W8 e => by subst e; exact ⟨hMd, hOd⟩
        obtain ⟨x3, -⟩ := blk_cell hM.out.b3 3 (.slice qj j cj) rfl
        have HWA : Hid (∀ W8 W9, Mk2 w W8 w.heap.size p3 (ev e0 0 0 (.slice none 0 0) 0) (ev nm 0 cnt (.slice qj j cj) rs) 50 → W8.ownsRow w.heap.size 48 1 (.slice qj j cj) j (sv (SO.take j)) → (W8.alloc (.cells #[.int .i64 vr] 48)).grownBy W9 (Value.slice qj j cj).ownBlock → Mk2 w W9 w.heap.size p3 (ev e0 0 0 (.slice none 0 0) 0) (ev nm 0 cnt (.slice qj j cj) rs) 50) := fun W8 W9 hm ho hg => by
          refine (hm.next ((Below.refl _ W8).alloc (Nat.le_refl _) _)).grown hg (fun g hg' => ⟨own_ge ho g hg', fun e => ?_, fun e => ?_⟩)
          · subst e; exact own_ne ho (b := w.heap.size) (t := 50) (m := 5) ⟨_, hm.b2, Nat.le_refl _⟩ (by decide) hg'
          · subst e; exact own_ne ho (b := g) (t := 50) (m := 5) ⟨_, hm.b3, Nat.le_refl _⟩ (by decide) hg'
        have H1 : Hid (∀ u ∈ ([.int .i64 vr] : List Value), u.oneCell' = true) := fun u hu => by obtain rfl := List.mem_singleton.1 hu; rfl
        have j0 : (j : Int) < (m4 : Int) := by omega
        subst hq4
        clear bd hMd hOd hM hO cw hg2 HSj HT HDH
        go_wp2_with fail
        go_region_law (first
          | (refine step_call (by rfl) 119 [.tmp 50] #[9] [.string xw] (by rfl) (by rfl) (calls _) _ n2 ?_; rintro v8 W8 ⟨rfl, hw8⟩; obtain ⟨m8, o8⟩ := HW8.out W8 hw8.out; obtain ⟨x8, -⟩ := blk_cell m8.b3 3 (.slice qj j cj) rfl; obtain ⟨x8a, -⟩ := blk_cell (m8.next ((Below.refl _ W8).alloc (Nat.le_refl _) (.cells #[.int .i64 vr] 48))).b3 3 (.slice qj j cj) rfl)
          | (refine step_app 47 48 _ 1 8 Tryz.underlying47 infoSort (by rfl) (by decide) (by decide) (by rfl) _ _ (by rfl) w.heap.size (.slice qj j cj) j (sv (SO.take j)) (by rfl) (own_next o8 ((Below.refl _ W8).alloc (Nat.le_refl _) _)) W8.heap.size [.int .i64 vr] rfl H1.out (by rfl) (range_new W8 _ _) (by omega) (by have := m8.b.size; simp; omega) ?_; intro v9 W9 ho9 hg9; have m9 := HWA.out W8 W9 m8 o8 hg9.out.1; obtain ⟨x9, y9⟩ := blk_cell m9.b3 3 (.slice qj j cj) rfl; obtain ⟨q9, c9, rfl, -, -⟩ := own_slice ho9.out))
        all_goals
          have HM10 : Hid (Mk2 w (W9.setCell ⟨p3, 3, none⟩ (.slice q9 (j + 1) c9)) w.heap.size p3 (ev e0 0 0 (.slice none 0 0) 0) (ev nm 0 cnt (.slice q9 (j + 1) c9) rs) 50) := m9.set 3 _
          have hO10 : Hid ((W9.setCell ⟨p3, 3, none⟩ (.slice q9 (j + 1) c9)).ownsRow w.heap.size 48 1 (.slice q9 (j + 1) c9) (j + 1) (sv (SO.take j) ++ [.int .i64 vr])) := own_setB ho9.out m9.b3 (by decide) _
          clear m9 ho9 hg9 x8 x8a x9 y9 m8 o8 hw8 HWA HW8 n2 x3
          generalize W9.setCell ⟨p3, 3, none⟩ (.slice q9 (j + 1) c9) = W10 at *
          go_wp2
          exact ⟨⟨j + 1, q9, c9, by omega, by go_num, HM10, by rw [HS1.out, sv_app]; exact hO10⟩, by simp [intOf]; omega⟩
  case neg =>
    have e1 : (x3.toList == [45]) = false := by rw [toL, HX3.out, beq_eq_false_iff_ne]; exact h45
    have rS := HSr.out W3 HM3.out.b
    have HOK2 : Hid (∀ OK : Bool, (OK = true ↔ B1 = true ∧ rs3 ≠ 0) → (OK = true → R = if entS ⟨nm, 0, cnt, SO, rs3⟩ then some ⟨nm, 0, cnt, SO, rs3⟩ else none) ∧ (OK = false → R = none)) := fun OK hOK => HOK.out OK rs3 (by rw [hOK]; simp [h45]) (by simp [h45])
    have HMW : Hid (Mk2 w (W3.setCell ⟨p3, 4, none⟩ (.int .i64 rs3)) w.heap.size p3 (ev e0 0 0 (.slice none 0 0) 0) (ev nm 0 cnt (.slice none 0 0) rs3) 50) := HM3.out.set 4 _
    obtain ⟨z4, y4⟩ := blk_cell HM3.out.b3 4 (.int .i64 0) rfl
    clear HOK HSr HX3 HSX HM3
    generalize rs3 = rs at *
    go_upto_region 7 with (first
      | (go_at_call 119; refine rS.mono ?_; rintro e W9 ⟨rfl, hw9⟩; subst hw9)
      | go_in)
    generalize W9.setCell ⟨p3, 4, none⟩ (.int .i64 rs) = W at *
    obtain ⟨f4, -⟩ := blk_cell HMW.out.b3 4 (.int .i64 rs) rfl
    clear c3 z4 y4
    cases B1 with
    | false =>
      have HPF : Hid (R = none) := (HOK2.out false (by simp)).2 rfl
      clear HOK2
      go_upto_region 8 with fail
      clear f4
      go_wp2_with fail
      go_loopw [44] (fun i wr => ∃ (j : Nat) (qj : Option Addr) (cj : Nat), j ≤ m4 ∧ i = .int .i64 (j : Int) ∧ Hid (Mk2 w wr w.heap.size p3 (ev e0 0 0 (.slice none 0 0) 0) (ev nm 0 cnt (.slice qj j cj) rs) 50) ∧ Hid (wr.ownsRow w.heap.size 48 1 (.slice qj j cj) j (sv (SO.take j)))) (fun i _ => m4 - (intOf i).toNat)
      case atStart => exact ⟨0, none, 0, Nat.zero_le _, rfl, HMW, by rw [List.take_zero]; exact World.ownsRow_nil _ _ _ _⟩
      case round =>
        clear HMW
        obtain ⟨j, qj, cj, hj, rfl, hM, hO⟩ := hrel
        by_cases hlt : j < m4
        case neg =>
          obtain rfl : j = m4 := by omega
          have hO' : Hid (wr.ownsRow w.heap.size 48 1 (.slice qj SO.length cj) SO.length (sv SO)) := by
            have e := hO.out
            rw [List.take_of_length_le (by rw [HSL.out]; exact Nat.le_refl _)] at e
            rw [HSL.out]
            exact e
          clear hO
          obtain ⟨d0, -⟩ := blk_cell hM.out.b3 0 (.string nm) rfl
          obtain ⟨d1, -⟩ := blk_cell hM.out.b3 1 (.int .i64 0) rfl
          obtain ⟨d2, -⟩ := blk_cell hM.out.b3 2 (.int .i64 cnt) rfl
          obtain ⟨d3, -⟩ := blk_cell hM.out.b3 3 (.slice qj j cj) rfl
          obtain ⟨d4, -⟩ := blk_cell hM.out.b3 4 (.int .i64 rs) rfl
          obtain ⟨z0, y0⟩ := blk_cell hM.out.b2 0 (.string e0) rfl
          obtain ⟨z1, y1⟩ := blk_cell hM.out.b2 1 (.int .i64 0) rfl
          obtain ⟨z2, y2⟩ := blk_cell hM.out.b2 2 (.int .i64 0) rfl
          obtain ⟨z3, y3⟩ := blk_cell hM.out.b2 3 (.slice none 0 0) rfl
          obtain ⟨z4, y4⟩ := blk_cell hM.out.b2 4 (.int .i64 0) rfl
          have hBf : B = false := by rw [HB.out, HPF.out]; rfl
          subst hBf
          go_wp2_with fail
          go_region_law (first | fail)
          all_goals
            have HF2 : Hid (Mk2 w (((((wr.setCell ⟨w.heap.size, 0, none⟩ (.string nm)).setCell ⟨w.heap.size, 1, none⟩ (.int .i64 0)).setCell ⟨w.heap.size, 2, none⟩ (.int .i64 cnt)).setCell ⟨w.heap.size, 3, none⟩ (.slice qj j cj)).setCell ⟨w.heap.size, 4, none⟩ (.int .i64 rs)) w.heap.size p3 (ev nm 0 cnt (.slice qj j cj) rs) (ev nm 0 cnt (.slice qj j cj) rs) 50) := ((((hM.out.res 0 _).res 1 _).res 2 _).res 3 _).res 4 _
            have hOF : Hid ((((((wr.setCell ⟨w.heap.size, 0, none⟩ (.string nm)).setCell ⟨w.heap.size, 1, none⟩ (.int .i64 0)).setCell ⟨w.heap.size, 2, none⟩ (.int .i64 cnt)).setCell ⟨w.heap.size, 3, none⟩ (.slice qj j cj)).setCell ⟨w.heap.size, 4, none⟩ (.int .i64 rs)).ownsRow w.heap.size 48 1 (.slice qj SO.length cj) SO.length (sv SO)) :=
              own_setB (own_setB (own_setB (own_setB (own_setB hO'.out hM.out.b2 (by decide) _) (hM.out.res 0 _).b2 (by decide) _) ((hM.out.res 0 _).res 1 _).b2 (by decide) _) (((hM.out.res 0 _).res 1 _).res 2 _).b2 (by decide) _) ((((hM.out.res 0 _).res 1 _).res 2 _).res 3 _).b2 (by decide) _
            have HF3 : Hid (Mk2 w (((((wr.setCell ⟨w.heap.size, 0, none⟩ (.string nm)).setCell ⟨w.heap.size, 1, none⟩ (.int .i64 0)).setCell ⟨w.heap.size, 2, none⟩ (.int .i64 cnt)).setCell ⟨w.heap.size, 3, none⟩ (.slice qj j cj)).setCell ⟨w.heap.size, 4, none⟩ (.int .i64 rs)).drew w.heap.size p3 (ev nm 0 cnt (.slice qj j cj) rs) (ev nm 0 cnt (.slice qj j cj) rs) 50) := HF2.out.next (Below.refl _ _).drew
            have hOG : Hid ((((((wr.setCell ⟨w.heap.size, 0, none⟩ (.string nm)).setCell ⟨w.heap.size, 1, none⟩ (.int .i64 0)).setCell ⟨w.heap.size, 2, none⟩ (.int .i64 cnt)).setCell ⟨w.heap.size, 3, none⟩ (.slice qj j cj)).setCell ⟨w.heap.size, 4, none⟩ (.int .i64 rs)).drew.ownsRow w.heap.size 48 1 (.slice qj SO.length cj) SO.length (sv SO)) := own_next hOF.out (Below.refl _ _).drew
            clear HF2 hOF
            generalize (((((wr.setCell ⟨w.heap.size, 0, none⟩ (.string nm)).setCell ⟨w.heap.size, 1, none⟩ (.int .i64 0)).setCell ⟨w.heap.size, 2, none⟩ (.int .i64 cnt)).setCell ⟨w.heap.size, 3, none⟩ (.slice qj j cj)).setCell ⟨w.heap.size, 4, none⟩ (.int .i64 rs)).drew = WF at HF3 hOG ⊢
            obtain ⟨k0, -⟩ := blk_cell HF3.out.b2 0 (.string nm) rfl
            obtain ⟨k1, -⟩ := blk_cell HF3.out.b2 1 (.int .i64 0) rfl
            obtain ⟨k2, -⟩ := blk_cell HF3.out.b2 2 (.int .i64 cnt) rfl
            obtain ⟨k3, -⟩ := blk_cell HF3.out.b2 3 (.slice qj j cj) rfl
            obtain ⟨k4, -⟩ := blk_cell HF3.out.b2 4 (.int .i64 rs) rfl
            go_wp2
            first | (change bodyPost Tryz.prog Tryz.f100 _ Exit.ret _ _) | (simp only [Exit.noGoto]) | skip
            refine bodyPost_ret (v := .tuple #[.agg (ev nm 0 cnt (.slice qj j cj) rs), .bool false]) (by simp [results, Tryz.results100, go_sem, k0, k1, k2, k3, k4]) rfl ⟨nm, cnt, rs, qj, j, cj, by rfl, ⟨SO, HSL.out.symm, hOG.out, ?_⟩, HF3.out.b⟩
            intro t e
            rw [HPF.out] at e
            cases e
        obtain ⟨g2, p2, hq4, hg2, cw⟩ := HDH.out.at j (by exact hlt)
        have bd : Below wr.heap.size wr wr.drew := (Below.refl _ wr).drew
        have cw' : wr.cell? ⟨g2, p2 + j, none⟩ = some (.string (YtchinflkjcebjabGreatDoor.bk (wAt ws4 j))) := (hM.out.b.cell (p := ⟨g2, p2 + j, none⟩) hg2).trans cw
        have n2 := sort_v (YtchinflkjcebjabGreatDoor.bk (wAt ws4 j)) wr.drew (HT.out.next (below2 hM.out.b bd))
        rw [show lt (YtchinflkjcebjabGreatDoor.bk (wAt ws4 j)) = wAt ws4 j from bk_data _] at n2
        have HS1 : Hid (SO.take (j + 1) = SO.take j ++ [rdSort (wAt ws4 j)]) := HSj.out j hlt
        generalize YtchinflkjcebjabGreatDoor.bk (wAt ws4 j) = xw at *
        generalize rdSort (wAt ws4 j) = vr at *
        have hMd := hM.out.next bd
        have hOd := own_next hO.out bd
        have HW8 : Hid (∀ W8, W8 = wr.drew → Mk2 w W8 w.heap.size p3 (ev e0 0 0 (.slice none 0 0) 0) (ev nm 0 cnt (.slice qj j cj) rs) 50 ∧ W8.ownsRow w.heap.size 48 1 (.slice qj j cj) j (sv (SO.take j))) := fun W8 e => by subst e; exact ⟨hMd, hOd⟩
        obtain ⟨x3, -⟩ := blk_cell hM.out.b3 3 (.slice qj j cj) rfl
        have HWA : Hid (∀ W8 W9, Mk2 w W8 w.heap.size p3 (ev e0 0 0 (.slice none 0 0) 0) (ev nm 0 cnt (.slice qj j cj) rs) 50 → W8.ownsRow w.heap.size 48 1 (.slice qj j cj) j (sv (SO.take j)) → (W8.alloc (.cells #[.int .i64 vr] 48)).grownBy W9 (Value.slice qj j cj).ownBlock → Mk2 w W9 w.heap.size p3 (ev e0 0 0 (.slice none 0 0) 0) (ev nm 0 cnt (.slice qj j cj) rs) 50) := fun W8 W9 hm ho hg => by
          refine (hm.next ((Below.refl _ W8).alloc (Nat.le_refl _) _)).grown hg (fun g hg' => ⟨own_ge ho g hg', fun e => ?_, fun e => ?_⟩)
          · subst e; exact own_ne ho (b := w.heap.size) (t := 50) (m := 5) ⟨_, hm.b2, Nat.le_refl _⟩ (by decide) hg'
          · subst e; exact own_ne ho (b := g) (t := 50) (m := 5) ⟨_, hm.b3, Nat.le_refl _⟩ (by decide) hg'
        have H1 : Hid (∀ u ∈ ([.int .i64 vr] : List Value), u.oneCell' = true) := fun u hu => by obtain rfl := List.mem_singleton.1 hu; rfl
        have j0 : (j : Int) < (m4 : Int) := by omega
        subst hq4
        clear bd hMd hOd hM hO cw hg2 HSj HT HDH
        go_wp2_with fail
        go_region_law (first
          | (refine step_call (by rfl) 119 [.tmp 50] #[9] [.string xw] (by rfl) (by rfl) (calls _) _ n2 ?_; rintro v8 W8 ⟨rfl, hw8⟩; obtain ⟨m8, o8⟩ := HW8.out W8 hw8.out; obtain ⟨x8, -⟩ := blk_cell m8.b3 3 (.slice qj j cj) rfl; obtain ⟨x8a, -⟩ := blk_cell (m8.next ((Below.refl _ W8).alloc (Nat.le_refl _) (.cells #[.int .i64 vr] 48))).b3 3 (.slice qj j cj) rfl)
          | (refine step_app 47 48 _ 1 8 Tryz.underlying47 infoSort (by rfl) (by decide) (by decide) (by rfl) _ _ (by rfl) w.heap.size (.slice qj j cj) j (sv (SO.take j)) (by rfl) (own_next o8 ((Below.refl _ W8).alloc (Nat.le_refl _) _)) W8.heap.size [.int .i64 vr] rfl H1.out (by rfl) (range_new W8 _ _) (by omega) (by have := m8.b.size; simp; omega) ?_; intro v9 W9 ho9 hg9; have m9 := HWA.out W8 W9 m8 o8 hg9.out.1; obtain ⟨x9, y9⟩ := blk_cell m9.b3 3 (.slice qj j cj) rfl; obtain ⟨q9, c9, rfl, -, -⟩ := own_slice ho9.out))
        all_goals
          have HM10 : Hid (Mk2 w (W9.setCell ⟨p3, 3, none⟩ (.slice q9 (j + 1) c9)) w.heap.size p3 (ev e0 0 0 (.slice none 0 0) 0) (ev nm 0 cnt (.slice q9 (j + 1) c9) rs) 50) := m9.set 3 _
          have hO10 : Hid ((W9.setCell ⟨p3, 3, none⟩ (.slice q9 (j + 1) c9)).ownsRow w.heap.size 48 1 (.slice q9 (j + 1) c9) (j + 1) (sv (SO.take j) ++ [.int .i64 vr])) := own_setB ho9.out m9.b3 (by decide) _
          clear m9 ho9 hg9 x8 x8a x9 y9 m8 o8 hw8 HWA HW8 n2 x3
          generalize W9.setCell ⟨p3, 3, none⟩ (.slice q9 (j + 1) c9) = W10 at *
          go_wp2
          exact ⟨⟨j + 1, q9, c9, by omega, by go_num, HM10, by rw [HS1.out, sv_app]; exact hO10⟩, by simp [intOf]; omega⟩
    | true =>
      by_cases hr0 : rs = 0
      · have f5 : (rs != 0) = false := by simp [hr0]
        have HPF : Hid (R = none) := (HOK2.out false (by simp [hr0])).2 rfl
        clear HOK2 hr0
        go_upto_region 8 with fail
        try rw [f5]
        clear f4
        go_wp2_with fail
        go_loopw [44] (fun i wr => ∃ (j : Nat) (qj : Option Addr) (cj : Nat), j ≤ m4 ∧ i = .int .i64 (j : Int) ∧ Hid (Mk2 w wr w.heap.size p3 (ev e0 0 0 (.slice none 0 0) 0) (ev nm 0 cnt (.slice qj j cj) rs) 50) ∧ Hid (wr.ownsRow w.heap.size 48 1 (.slice qj j cj) j (sv (SO.take j)))) (fun i _ => m4 - (intOf i).toNat)
        case atStart => exact ⟨0, none, 0, Nat.zero_le _, rfl, HMW, by rw [List.take_zero]; exact World.ownsRow_nil _ _ _ _⟩
        case round =>
          clear HMW
          obtain ⟨j, qj, cj, hj, rfl, hM, hO⟩ := hrel
          by_cases hlt : j < m4
          case neg =>
            obtain rfl : j = m4 := by omega
            have hO' : Hid (wr.ownsRow w.heap.size 48 1 (.slice qj SO.length cj) SO.length (sv SO)) := by
              have e := hO.out
              rw [List.take_of_length_le (by rw [HSL.out]; exact Nat.le_refl _)] at e
              rw [HSL.out]
              exact e
            clear hO
            obtain ⟨d0, -⟩ := blk_cell hM.out.b3 0 (.string nm) rfl
            obtain ⟨d1, -⟩ := blk_cell hM.out.b3 1 (.int .i64 0) rfl
            obtain ⟨d2, -⟩ := blk_cell hM.out.b3 2 (.int .i64 cnt) rfl
            obtain ⟨d3, -⟩ := blk_cell hM.out.b3 3 (.slice qj j cj) rfl
            obtain ⟨d4, -⟩ := blk_cell hM.out.b3 4 (.int .i64 rs) rfl
            obtain ⟨z0, y0⟩ := blk_cell hM.out.b2 0 (.string e0) rfl
            obtain ⟨z1, y1⟩ := blk_cell hM.out.b2 1 (.int .i64 0) rfl
            obtain ⟨z2, y2⟩ := blk_cell hM.out.b2 2 (.int .i64 0) rfl
            obtain ⟨z3, y3⟩ := blk_cell hM.out.b2 3 (.slice none 0 0) rfl
            obtain ⟨z4, y4⟩ := blk_cell hM.out.b2 4 (.int .i64 0) rfl
            have hBf : B = false := by rw [HB.out, HPF.out]; rfl
            subst hBf
            go_wp2_with fail
            go_region_law (first | fail)
            all_goals
              have HF2 : Hid (Mk2 w (((((wr.setCell ⟨w.heap.size, 0, none⟩ (.string nm)).setCell ⟨w.heap.size, 1, none⟩ (.int .i64 0)).setCell ⟨w.heap.size, 2, none⟩ (.int .i64 cnt)).setCell ⟨w.heap.size, 3, none⟩ (.slice qj j cj)).setCell ⟨w.heap.size, 4, none⟩ (.int .i64 rs)) w.heap.size p3 (ev nm 0 cnt (.slice qj j cj) rs) (ev nm 0 cnt (.slice qj j cj) rs) 50) := ((((hM.out.res 0 _).res 1 _).res 2 _).res 3 _).res 4 _
              have hOF : Hid ((((((wr.setCell ⟨w.heap.size, 0, none⟩ (.string nm)).setCell ⟨w.heap.size, 1, none⟩ (.int .i64 0)).setCell ⟨w.heap.size, 2, none⟩ (.int .i64 cnt)).setCell ⟨w.heap.size, 3, none⟩ (.slice qj j cj)).setCell ⟨w.heap.size, 4, none⟩ (.int .i64 rs)).ownsRow w.heap.size 48 1 (.slice qj SO.length cj) SO.length (sv SO)) :=
                own_setB (own_setB (own_setB (own_setB (own_setB hO'.out hM.out.b2 (by decide) _) (hM.out.res 0 _).b2 (by decide) _) ((hM.out.res 0 _).res 1 _).b2 (by decide) _) (((hM.out.res 0 _).res 1 _).res 2 _).b2 (by decide) _) ((((hM.out.res 0 _).res 1 _).res 2 _).res 3 _).b2 (by decide) _
              have HF3 : Hid (Mk2 w (((((wr.setCell ⟨w.heap.size, 0, none⟩ (.string nm)).setCell ⟨w.heap.size, 1, none⟩ (.int .i64 0)).setCell ⟨w.heap.size, 2, none⟩ (.int .i64 cnt)).setCell ⟨w.heap.size, 3, none⟩ (.slice qj j cj)).setCell ⟨w.heap.size, 4, none⟩ (.int .i64 rs)).drew w.heap.size p3 (ev nm 0 cnt (.slice qj j cj) rs) (ev nm 0 cnt (.slice qj j cj) rs) 50) := HF2.out.next (Below.refl _ _).drew
              have hOG : Hid ((((((wr.setCell ⟨w.heap.size, 0, none⟩ (.string nm)).setCell ⟨w.heap.size, 1, none⟩ (.int .i64 0)).setCell ⟨w.heap.size, 2, none⟩ (.int .i64 cnt)).setCell ⟨w.heap.size, 3, none⟩ (.slice qj j cj)).setCell ⟨w.heap.size, 4, none⟩ (.int .i64 rs)).drew.ownsRow w.heap.size 48 1 (.slice qj SO.length cj) SO.length (sv SO)) := own_next hOF.out (Below.refl _ _).drew
              clear HF2 hOF
              generalize (((((wr.setCell ⟨w.heap.size, 0, none⟩ (.string nm)).setCell ⟨w.heap.size, 1, none⟩ (.int .i64 0)).setCell ⟨w.heap.size, 2, none⟩ (.int .i64 cnt)).setCell ⟨w.heap.size, 3, none⟩ (.slice qj j cj)).setCell ⟨w.heap.size, 4, none⟩ (.int .i64 rs)).drew = WF at HF3 hOG ⊢
              obtain ⟨k0, -⟩ := blk_cell HF3.out.b2 0 (.string nm) rfl
              obtain ⟨k1, -⟩ := blk_cell HF3.out.b2 1 (.int .i64 0) rfl
              obtain ⟨k2, -⟩ := blk_cell HF3.out.b2 2 (.int .i64 cnt) rfl
              obtain ⟨k3, -⟩ := blk_cell HF3.out.b2 3 (.slice qj j cj) rfl
              obtain ⟨k4, -⟩ := blk_cell HF3.out.b2 4 (.int .i64 rs) rfl
              go_wp2
              first | (change bodyPost Tryz.prog Tryz.f100 _ Exit.ret _ _) | (simp only [Exit.noGoto]) | skip
              refine bodyPost_ret (v := .tuple #[.agg (ev nm 0 cnt (.slice qj j cj) rs), .bool false]) (by simp [results, Tryz.results100, go_sem, k0, k1, k2, k3, k4]) rfl ⟨nm, cnt, rs, qj, j, cj, by rfl, ⟨SO, HSL.out.symm, hOG.out, ?_⟩, HF3.out.b⟩
              intro t e
              rw [HPF.out] at e
              cases e
          obtain ⟨g2, p2, hq4, hg2, cw⟩ := HDH.out.at j (by exact hlt)
          have bd : Below wr.heap.size wr wr.drew := (Below.refl _ wr).drew
          have cw' : wr.cell? ⟨g2, p2 + j, none⟩ = some (.string (YtchinflkjcebjabGreatDoor.bk (wAt ws4 j))) := (hM.out.b.cell (p := ⟨g2, p2 + j, none⟩) hg2).trans cw
          have n2 := sort_v (YtchinflkjcebjabGreatDoor.bk (wAt ws4 j)) wr.drew (HT.out.next (below2 hM.out.b bd))
          rw [show lt (YtchinflkjcebjabGreatDoor.bk (wAt ws4 j)) = wAt ws4 j from bk_data _] at n2
          have HS1 : Hid (SO.take (j + 1) = SO.take j ++ [rdSort (wAt ws4 j)]) := HSj.out j hlt
          generalize YtchinflkjcebjabGreatDoor.bk (wAt ws4 j) = xw at *
          generalize rdSort (wAt ws4 j) = vr at *
          have hMd := hM.out.next bd
          have hOd := own_next hO.out bd
          have HW8 : Hid (∀ W8, W8 = wr.drew → Mk2 w W8 w.heap.size p3 (ev e0 0 0 (.slice none 0 0) 0) (ev nm 0 cnt (.slice qj j cj) rs) 50 ∧ W8.ownsRow w.heap.size 48 1 (.slice qj j cj) j (sv (SO.take j))) := fun W8 e => by subst e; exact ⟨hMd, hOd⟩
          obtain ⟨x3, -⟩ := blk_cell hM.out.b3 3 (.slice qj j cj) rfl
          have HWA : Hid (∀ W8 W9, Mk2 w W8 w.heap.size p3 (ev e0 0 0 (.slice none 0 0) 0) (ev nm 0 cnt (.slice qj j cj) rs) 50 → W8.ownsRow w.heap.size 48 1 (.slice qj j cj) j (sv (SO.take j)) → (W8.alloc (.cells #[.int .i64 vr] 48)).grownBy W9 (Value.slice qj j cj).ownBlock → Mk2 w W9 w.heap.size p3 (ev e0 0 0 (.slice none 0 0) 0) (ev nm 0 cnt (.slice qj j cj) rs) 50) := fun W8 W9 hm ho hg => by
            refine (hm.next ((Below.refl _ W8).alloc (Nat.le_refl _) _)).grown hg (fun g hg' => ⟨own_ge ho g hg', fun e => ?_, fun e => ?_⟩)
            · subst e; exact own_ne ho (b := w.heap.size) (t := 50) (m := 5) ⟨_, hm.b2, Nat.le_refl _⟩ (by decide) hg'
            · subst e; exact own_ne ho (b := g) (t := 50) (m := 5) ⟨_, hm.b3, Nat.le_refl _⟩ (by decide) hg'
          have H1 : Hid (∀ u ∈ ([.int .i64 vr] : List Value), u.oneCell' = true) := fun u hu => by obtain rfl := List.mem_singleton.1 hu; rfl
          have j0 : (j : Int) < (m4 : Int) := by omega
          subst hq4
          clear bd hMd hOd hM hO cw hg2 HSj HT HDH
          go_wp2_with fail
          go_region_law (first
            | (refine step_call (by rfl) 119 [.tmp 50] #[9] [.string xw] (by rfl) (by rfl) (calls _) _ n2 ?_; rintro v8 W8 ⟨rfl, hw8⟩; obtain ⟨m8, o8⟩ := HW8.out W8 hw8.out; obtain ⟨x8, -⟩ := blk_cell m8.b3 3 (.slice qj j cj) rfl; obtain ⟨x8a, -⟩ := blk_cell (m8.next ((Below.refl _ W8).alloc (Nat.le_refl _) (.cells #[.int .i64 vr] 48))).b3 3 (.slice qj j cj) rfl)
            | (refine step_app 47 48 _ 1 8 Tryz.underlying47 infoSort (by rfl) (by decide) (by decide) (by rfl) _ _ (by rfl) w.heap.size (.slice qj j cj) j (sv (SO.take j)) (by rfl) (own_next o8 ((Below.refl _ W8).alloc (Nat.le_refl _) _)) W8.heap.size [.int .i64 vr] rfl H1.out (by rfl) (range_new W8 _ _) (by omega) (by have := m8.b.size; simp; omega) ?_; intro v9 W9 ho9 hg9; have m9 := HWA.out W8 W9 m8 o8 hg9.out.1; obtain ⟨x9, y9⟩ := blk_cell m9.b3 3 (.slice qj j cj) rfl; obtain ⟨q9, c9, rfl, -, -⟩ := own_slice ho9.out))
          all_goals
            have HM10 : Hid (Mk2 w (W9.setCell ⟨p3, 3, none⟩ (.slice q9 (j + 1) c9)) w.heap.size p3 (ev e0 0 0 (.slice none 0 0) 0) (ev nm 0 cnt (.slice q9 (j + 1) c9) rs) 50) := m9.set 3 _
            have hO10 : Hid ((W9.setCell ⟨p3, 3, none⟩ (.slice q9 (j + 1) c9)).ownsRow w.heap.size 48 1 (.slice q9 (j + 1) c9) (j + 1) (sv (SO.take j) ++ [.int .i64 vr])) := own_setB ho9.out m9.b3 (by decide) _
            clear m9 ho9 hg9 x8 x8a x9 y9 m8 o8 hw8 HWA HW8 n2 x3
            generalize W9.setCell ⟨p3, 3, none⟩ (.slice q9 (j + 1) c9) = W10 at *
            go_wp2
            exact ⟨⟨j + 1, q9, c9, by omega, by go_num, HM10, by rw [HS1.out, sv_app]; exact hO10⟩, by simp [intOf]; omega⟩
      · have f5 : (rs != 0) = true := by simp [hr0]
        have HPT : Hid (R = if entS ⟨nm, 0, cnt, SO, rs⟩ then some ⟨nm, 0, cnt, SO, rs⟩ else none) := (HOK2.out true (by simp [hr0])).1 rfl
        clear HOK2 hr0
        go_upto_region 8 with fail
        try rw [f5]
        clear f4
        go_wp2_with fail
        go_loopw [44] (fun i wr => ∃ (j : Nat) (qj : Option Addr) (cj : Nat), j ≤ m4 ∧ i = .int .i64 (j : Int) ∧ Hid (Mk2 w wr w.heap.size p3 (ev e0 0 0 (.slice none 0 0) 0) (ev nm 0 cnt (.slice qj j cj) rs) 50) ∧ Hid (wr.ownsRow w.heap.size 48 1 (.slice qj j cj) j (sv (SO.take j)))) (fun i _ => m4 - (intOf i).toNat)
        case atStart => exact ⟨0, none, 0, Nat.zero_le _, rfl, HMW, by rw [List.take_zero]; exact World.ownsRow_nil _ _ _ _⟩
        case round =>
          clear HMW
          obtain ⟨j, qj, cj, hj, rfl, hM, hO⟩ := hrel
          by_cases hlt : j < m4
          case neg =>
            obtain rfl : j = m4 := by omega
            have hO' : Hid (wr.ownsRow w.heap.size 48 1 (.slice qj SO.length cj) SO.length (sv SO)) := by
              have e := hO.out
              rw [List.take_of_length_le (by rw [HSL.out]; exact Nat.le_refl _)] at e
              rw [HSL.out]
              exact e
            clear hO
            obtain ⟨d0, -⟩ := blk_cell hM.out.b3 0 (.string nm) rfl
            obtain ⟨d1, -⟩ := blk_cell hM.out.b3 1 (.int .i64 0) rfl
            obtain ⟨d2, -⟩ := blk_cell hM.out.b3 2 (.int .i64 cnt) rfl
            obtain ⟨d3, -⟩ := blk_cell hM.out.b3 3 (.slice qj j cj) rfl
            obtain ⟨d4, -⟩ := blk_cell hM.out.b3 4 (.int .i64 rs) rfl
            obtain ⟨z0, y0⟩ := blk_cell hM.out.b2 0 (.string e0) rfl
            obtain ⟨z1, y1⟩ := blk_cell hM.out.b2 1 (.int .i64 0) rfl
            obtain ⟨z2, y2⟩ := blk_cell hM.out.b2 2 (.int .i64 0) rfl
            obtain ⟨z3, y3⟩ := blk_cell hM.out.b2 3 (.slice none 0 0) rfl
            obtain ⟨z4, y4⟩ := blk_cell hM.out.b2 4 (.int .i64 0) rfl
            have bd : Below wr.heap.size wr wr.drew := (Below.refl _ wr).drew
            have n3 : Calls Tryz.prog 90 #[.agg (ev nm 0 cnt (.slice qj j cj) rs)] wr.drew fun e w' => ∃ v, e = .returned v ∧ (v = .bool (entS ⟨nm, 0, cnt, SO, rs⟩) ∧ Hid (Below wr.drew.heap.size wr.drew w')) := by
              have e1 := entry_any (⟨nm, 0, cnt, SO, rs⟩, qj, cj) wr.drew (HT.out.next (below2 hM.out.b bd)) (row_of_own (own_next hO'.out bd)) (Nat.le_trans HnN.out (by decide)) (by have := HSL.out; show SO.length ≤ _; omega)
              have e2 : (ec (⟨nm, 0, cnt, SO, rs⟩, qj, cj)).toArray = (ev nm 0 cnt (.slice qj j cj) rs) := by show #[_, _, _, Value.slice qj SO.length cj, _] = _; rw [HSL.out]
              rw [e2] at e1
              exact e1.mono fun _ _ ⟨a, b⟩ => ⟨_, a, rfl, b⟩
            have HW8 : Hid (∀ W8, Below wr.drew.heap.size wr.drew W8 → Mk2 w W8 w.heap.size p3 (ev e0 0 0 (.slice none 0 0) 0) (ev nm 0 cnt (.slice qj j cj) rs) 50 ∧ W8.ownsRow w.heap.size 48 1 (.slice qj SO.length cj) SO.length (sv SO)) := fun W8 hb => ⟨hM.out.next (below2 bd hb), own_next hO'.out (below2 bd hb)⟩
            generalize entS ⟨nm, 0, cnt, SO, rs⟩ = EB at *
            have hBE : B = EB := by rw [HB.out, HPT.out]; cases EB <;> rfl
            subst hBE
            clear bd
            go_wp2_with fail
            go_region_law (first
              | (refine step_callw (by rfl) 90 [.tmp 59] #[50] [.agg (ev nm 0 cnt (.slice qj j cj) rs)] (by rfl) (by rfl) (callm _) _ n3 ?_; rintro v8 W8 ⟨rfl, hb8⟩; obtain ⟨m8, o8⟩ := HW8.out W8 hb8.out; have M8 : Hid (Mk2 w W8 w.heap.size p3 (ev e0 0 0 (.slice none 0 0) 0) (ev nm 0 cnt (.slice qj j cj) rs) 50) := m8; obtain ⟨g0, -⟩ := blk_cell m8.b3 0 (.string nm) rfl; obtain ⟨g1, -⟩ := blk_cell m8.b3 1 (.int .i64 0) rfl; obtain ⟨g2, -⟩ := blk_cell m8.b3 2 (.int .i64 cnt) rfl; obtain ⟨g3, -⟩ := blk_cell m8.b3 3 (.slice qj j cj) rfl; obtain ⟨g4, -⟩ := blk_cell m8.b3 4 (.int .i64 rs) rfl; obtain ⟨v0, h0⟩ := blk_cell m8.b2 0 (.string e0) rfl; obtain ⟨v1, h1⟩ := blk_cell m8.b2 1 (.int .i64 0) rfl; obtain ⟨v2, h2⟩ := blk_cell m8.b2 2 (.int .i64 0) rfl; obtain ⟨v3, h3⟩ := blk_cell m8.b2 3 (.slice none 0 0) rfl; obtain ⟨v4, h4⟩ := blk_cell m8.b2 4 (.int .i64 0) rfl))
            all_goals
              have HF2 : Hid (Mk2 w (((((W8.setCell ⟨w.heap.size, 0, none⟩ (.string nm)).setCell ⟨w.heap.size, 1, none⟩ (.int .i64 0)).setCell ⟨w.heap.size, 2, none⟩ (.int .i64 cnt)).setCell ⟨w.heap.size, 3, none⟩ (.slice qj j cj)).setCell ⟨w.heap.size, 4, none⟩ (.int .i64 rs)) w.heap.size p3 (ev nm 0 cnt (.slice qj j cj) rs) (ev nm 0 cnt (.slice qj j cj) rs) 50) := ((((M8.out.res 0 _).res 1 _).res 2 _).res 3 _).res 4 _
              have hOF : Hid ((((((W8.setCell ⟨w.heap.size, 0, none⟩ (.string nm)).setCell ⟨w.heap.size, 1, none⟩ (.int .i64 0)).setCell ⟨w.heap.size, 2, none⟩ (.int .i64 cnt)).setCell ⟨w.heap.size, 3, none⟩ (.slice qj j cj)).setCell ⟨w.heap.size, 4, none⟩ (.int .i64 rs)).ownsRow w.heap.size 48 1 (.slice qj SO.length cj) SO.length (sv SO)) :=
                own_setB (own_setB (own_setB (own_setB (own_setB o8 M8.out.b2 (by decide) _) (M8.out.res 0 _).b2 (by decide) _) ((M8.out.res 0 _).res 1 _).b2 (by decide) _) (((M8.out.res 0 _).res 1 _).res 2 _).b2 (by decide) _) ((((M8.out.res 0 _).res 1 _).res 2 _).res 3 _).b2 (by decide) _
              have HF3 := HF2
              have hOG := hOF
              clear HF2 hOF
              generalize (((((W8.setCell ⟨w.heap.size, 0, none⟩ (.string nm)).setCell ⟨w.heap.size, 1, none⟩ (.int .i64 0)).setCell ⟨w.heap.size, 2, none⟩ (.int .i64 cnt)).setCell ⟨w.heap.size, 3, none⟩ (.slice qj j cj)).setCell ⟨w.heap.size, 4, none⟩ (.int .i64 rs)) = WF at HF3 hOG ⊢
              obtain ⟨k0, -⟩ := blk_cell HF3.out.b2 0 (.string nm) rfl
              obtain ⟨k1, -⟩ := blk_cell HF3.out.b2 1 (.int .i64 0) rfl
              obtain ⟨k2, -⟩ := blk_cell HF3.out.b2 2 (.int .i64 cnt) rfl
              obtain ⟨k3, -⟩ := blk_cell HF3.out.b2 3 (.slice qj j cj) rfl
              obtain ⟨k4, -⟩ := blk_cell HF3.out.b2 4 (.int .i64 rs) rfl
              go_wp2
              first | (change bodyPost Tryz.prog Tryz.f100 _ Exit.ret _ _) | (simp only [Exit.noGoto]) | skip
              refine bodyPost_ret (v := .tuple #[.agg (ev nm 0 cnt (.slice qj j cj) rs), .bool B]) (by simp [results, Tryz.results100, go_sem, k0, k1, k2, k3, k4]) rfl ⟨nm, cnt, rs, qj, j, cj, by rfl, ⟨SO, HSL.out.symm, hOG.out, ?_⟩, HF3.out.b⟩
              intro t e
              rw [HPT.out] at e
              cases B with
              | false => cases e
              | true => cases e; rfl
          obtain ⟨g2, p2, hq4, hg2, cw⟩ := HDH.out.at j (by exact hlt)
          have bd : Below wr.heap.size wr wr.drew := (Below.refl _ wr).drew
          have cw' : wr.cell? ⟨g2, p2 + j, none⟩ = some (.string (YtchinflkjcebjabGreatDoor.bk (wAt ws4 j))) := (hM.out.b.cell (p := ⟨g2, p2 + j, none⟩) hg2).trans cw
          have n2 := sort_v (YtchinflkjcebjabGreatDoor.bk (wAt ws4 j)) wr.drew (HT.out.next (below2 hM.out.b bd))
          rw [show lt (YtchinflkjcebjabGreatDoor.bk (wAt ws4 j)) = wAt ws4 j from bk_data _] at n2
          have HS1 : Hid (SO.take (j + 1) = SO.take j ++ [rdSort (wAt ws4 j)]) := HSj.out j hlt
          generalize YtchinflkjcebjabGreatDoor.bk (wAt ws4 j) = xw at *
          generalize rdSort (wAt ws4 j) = vr at *
          have hMd := hM.out.next bd
          have hOd := own_next hO.out bd
          have HW8 : Hid (∀ W8, W8 = wr.drew → Mk2 w W8 w.heap.size p3 (ev e0 0 0 (.slice none 0 0) 0) (ev nm 0 cnt (.slice qj j cj) rs) 50 ∧ W8.ownsRow w.heap.size 48 1 (.slice qj j cj) j (sv (SO.take j))) := fun W8 e => by subst e; exact ⟨hMd, hOd⟩
          obtain ⟨x3, -⟩ := blk_cell hM.out.b3 3 (.slice qj j cj) rfl
          have HWA : Hid (∀ W8 W9, Mk2 w W8 w.heap.size p3 (ev e0 0 0 (.slice none 0 0) 0) (ev nm 0 cnt (.slice qj j cj) rs) 50 → W8.ownsRow w.heap.size 48 1 (.slice qj j cj) j (sv (SO.take j)) → (W8.alloc (.cells #[.int .i64 vr] 48)).grownBy W9 (Value.slice qj j cj).ownBlock → Mk2 w W9 w.heap.size p3 (ev e0 0 0 (.slice none 0 0) 0) (ev nm 0 cnt (.slice qj j cj) rs) 50) := fun W8 W9 hm ho hg => by
            refine (hm.next ((Below.refl _ W8).alloc (Nat.le_refl _) _)).grown hg (fun g hg' => ⟨own_ge ho g hg', fun e => ?_, fun e => ?_⟩)
            · subst e; exact own_ne ho (b := w.heap.size) (t := 50) (m := 5) ⟨_, hm.b2, Nat.le_refl _⟩ (by decide) hg'
            · subst e; exact own_ne ho (b := g) (t := 50) (m := 5) ⟨_, hm.b3, Nat.le_refl _⟩ (by decide) hg'
          have H1 : Hid (∀ u ∈ ([.int .i64 vr] : List Value), u.oneCell' = true) := fun u hu => by obtain rfl := List.mem_singleton.1 hu; rfl
          have j0 : (j : Int) < (m4 : Int) := by omega
          subst hq4
          clear bd hMd hOd hM hO cw hg2 HSj HT HDH
          go_wp2_with fail
          go_region_law (first
            | (refine step_call (by rfl) 119 [.tmp 50] #[9] [.string xw] (by rfl) (by rfl) (calls _) _ n2 ?_; rintro v8 W8 ⟨rfl, hw8⟩; obtain ⟨m8, o8⟩ := HW8.out W8 hw8.out; obtain ⟨x8, -⟩ := blk_cell m8.b3 3 (.slice qj j cj) rfl; obtain ⟨x8a, -⟩ := blk_cell (m8.next ((Below.refl _ W8).alloc (Nat.le_refl _) (.cells #[.int .i64 vr] 48))).b3 3 (.slice qj j cj) rfl)
            | (refine step_app 47 48 _ 1 8 Tryz.underlying47 infoSort (by rfl) (by decide) (by decide) (by rfl) _ _ (by rfl) w.heap.size (.slice qj j cj) j (sv (SO.take j)) (by rfl) (own_next o8 ((Below.refl _ W8).alloc (Nat.le_refl _) _)) W8.heap.size [.int .i64 vr] rfl H1.out (by rfl) (range_new W8 _ _) (by omega) (by have := m8.b.size; simp; omega) ?_; intro v9 W9 ho9 hg9; have m9 := HWA.out W8 W9 m8 o8 hg9.out.1; obtain ⟨x9, y9⟩ := blk_cell m9.b3 3 (.slice qj j cj) rfl; obtain ⟨q9, c9, rfl, -, -⟩ := own_slice ho9.out))
          all_goals
            have HM10 : Hid (Mk2 w (W9.setCell ⟨p3, 3, none⟩ (.slice q9 (j + 1) c9)) w.heap.size p3 (ev e0 0 0 (.slice none 0 0) 0) (ev nm 0 cnt (.slice q9 (j + 1) c9) rs) 50) := m9.set 3 _
            have hO10 : Hid ((W9.setCell ⟨p3, 3, none⟩ (.slice q9 (j + 1) c9)).ownsRow w.heap.size 48 1 (.slice q9 (j + 1) c9) (j + 1) (sv (SO.take j) ++ [.int .i64 vr])) := own_setB ho9.out m9.b3 (by decide) _
            clear m9 ho9 hg9 x8 x8a x9 y9 m8 o8 hw8 HWA HW8 n2 x3
            generalize W9.setCell ⟨p3, 3, none⟩ (.slice q9 (j + 1) c9) = W10 at *
            go_wp2
            exact ⟨⟨j + 1, q9, c9, by omega, by go_num, HM10, by rw [HS1.out, sv_app]; exact hO10⟩, by simp [intOf]; omega⟩
end Go.Proofs.YtchinflkjcebjabGreatDoor
