import Derived.Test.YtchinflkjcebjabGreatDoorCPe
namespace Go.Proofs.YtchinflkjcebjabGreatDoor
open Go.RowKit

theorem step_run {P : Program} {w : World} {ops : Array Oper} {o : Oper} {a : Act} {K : Act → World → Prop} {Q : Exit → Act → World → Prop} {E : Prop} {v' : Value} {w' : World} (hgd : o.guard = none) (s x : Operand) (t t2 ty : TypeId)
    (ho : o.op = .call { callee := .builtin .append, args := #[s, x], argTypes := #[t, t2] }) (hty : o.type = ty) (va vb : Value) (hs : a.eval s = va) (hx : a.eval x = vb) (hr : (Builtin.append_ #[t, t2] ty #[va, vb]).run P w = .ok v' w') (h : K (a.put o.dst v') w') : if Region.wanted o (yielded ops a.tmps) = true then Oper.wp P o a w K Q else E := by
  have hw : Region.wanted o (yielded ops a.tmps) = true := by simp [Region.wanted, hgd]
  rw [if_pos hw]
  unfold Oper.wp execOp
  subst hty
  simp only [ho, resolve, invoke, builtin, Sem.run_bind, Sem.run_pure, Result.andThen_ok, List.map_toArray, List.map_cons, List.map_nil, hs, hx, hr]
  exact h
theorem callL (a b : Value) (w : World) : (callFunc 28 #[a, b]).run Tryz.prog w = .ok (.enter 28 #[a, b]) w := by kernel_rfl
theorem callI (a : Value) (w : World) : (callFunc 32 #[a]).run Tryz.prog w = .ok (.enter 32 #[a]) w := by kernel_rfl
theorem instrWords_v (op a b : Int) (w : World) (hok : insS (op, a, b) = true) (ht : Tabs w) :
    Calls Tryz.prog 32 #[.agg #[.int .i64 op, .int .i64 a, .int .i64 b]] w fun e w' => ∃ v, e = .returned v ∧ (∃ q cap, v = .slice q (iwB (op, a, b)).length cap ∧ Hid (w'.ownsRow w.heap.size 9 1 (.slice q (iwB (op, a, b)).length cap) (iwB (op, a, b)).length (tv (iwB (op, a, b))) ∧ Below w.heap.size w w')) := by
  obtain ⟨⟨a0, a1⟩, b0, b1⟩ := ins_i64 hok
  exact (instrWords_any op a b w hok ht a0 a1 b0 b1).mono fun _ _ ⟨q, cp, h1, h2⟩ => ⟨_, h1, q, cp, rfl, h2⟩
theorem iw_size {x : In} (h : insS x = true) : (∀ s ∈ iwB x, s.size ≤ 100000000) ∧ (iwB x).length ≤ 1000 := by
  obtain ⟨⟨a0, a1⟩, b0, b1⟩ := ins_i64 h
  have h2 : (insW x).length ≤ 3 := by
    unfold insW
    simp only [List.length_append, List.length_cons, List.length_nil]
    split <;> split <;> simp
  refine ⟨fun s hs => ?_, by unfold iwB; rw [List.length_map]; omega⟩
  unfold iwB at hs
  obtain ⟨y, hy, rfl⟩ := List.mem_map.1 hs
  rw [bk_size]
  unfold insW at hy
  simp only [List.mem_append, List.mem_cons, List.not_mem_nil, or_false] at hy
  rcases hy with rfl | hy | hy
  · have := getD_len wdT 21 (by decide +kernel) x.1.toNat; omega
  · split at hy
    · cases hy
    · obtain rfl := List.mem_singleton.1 hy; have := opW_len (opA.getD x.1.toNat 0) _ a0 a1; omega
  · split at hy
    · cases hy
    · obtain rfl := List.mem_singleton.1 hy; have := opW_len (opB.getD x.1.toNat 0) _ b0 b1; omega
theorem ew_size {e : En} (h : EntOk e) : (∀ s ∈ ewB e, s.size ≤ 100000000) ∧ (ewB e).length ≤ 1000 := by
  have h2 : (entW e).length = 4 + e.sorts.length := by unfold entW; simp; omega
  have := h.sl
  refine ⟨fun s hs => ?_, by unfold ewB; rw [List.length_map]; omega⟩
  unfold ewB at hs
  obtain ⟨y, hy, rfl⟩ := List.mem_map.1 hs
  rw [bk_size]
  have := entW_word h y hy
  omega
theorem line_v (ws : List ByteArray) (w : World) (base : Nat) (v : Value) (m : Nat) (l : List UInt8) (ho : w.ownsRow base 5 1 v m (bv l)) (hb : base ≤ w.heap.size) (B : Nat) (q : Option Addr) (cap : Nat) (hw : w.ownsRow B 9 1 (.slice q ws.length cap) ws.length (tv ws)) (hm : m + (lnS (dl ws)).length ≤ 900000000) (hwl : ws.length ≤ 1000) (hsz : ∀ s ∈ ws, s.size ≤ 100000000) :
    Calls Tryz.prog 28 #[v, .slice q ws.length cap] w fun e w' => ∃ v', e = .returned v' ∧ Hid (Grew w w' base v v' (m + (lnS (dl ws)).length) (l ++ lnS (dl ws))) := line_any ws w base v m l ho hb B q cap hw hm (by omega) hsz
set_option maxRecDepth 100000 in
set_option maxHeartbeats 8000000 in
theorem print_any {w : World} {B : Nat} {iq eq tq : Option Addr} {Es : List Em} {c : Cd} (h : CodeM w B iq eq tq Es c) (ia ea ta : Nat) (hB : B ≤ w.heap.size) (ht : Tabs w) :
    Calls Tryz.prog 13 #[codeV iq eq tq ia ea ta c] w fun e w' => e = .returned (.tuple #[.string (if validS c = 0 then YtchinflkjcebjabGreatDoor.bk (printS c) else e0), .int .i64 (validS c)]) ∧ Below w.heap.size w w' := by
  obtain ⟨C, HCd⟩ : ∃ C : Array Value, Hid (C = #[.slice iq c.ins.length ia, .slice eq c.ens.length ea, .slice tq c.txs.length ta, .int .i64 c.main]) := ⟨_, rfl⟩
  have hil : (c.ins.length : Int) ≤ 9223372036854775807 := by have := h.il; omega
  have hel : (c.ens.length : Int) ≤ 9223372036854775807 := by have := h.el; omega
  have htl : (c.txs.length : Int) ≤ 9223372036854775807 := by have := h.tl; omega
  have B1 : Below w.heap.size w (w.alloc (.cells #[.slice iq c.ins.length ia, .slice eq c.ens.length ea, .slice tq c.txs.length ta, .int .i64 c.main] 26)) := (Below.refl _ w).alloc (Nat.le_refl _) _
  have K1 : (w.alloc (.cells #[.slice iq c.ins.length ia, .slice eq c.ens.length ea, .slice tq c.txs.length ta, .int .i64 c.main] 26)).heap[w.heap.size]? = some (.cells #[.slice iq c.ins.length ia, .slice eq c.ens.length ea, .slice tq c.txs.length ta, .int .i64 c.main] 26) := World.alloc_heap_new w _
  have hlt1 : w.heap.size < (w.alloc (.cells #[.slice iq c.ins.length ia, .slice eq c.ens.length ea, .slice tq c.txs.length ta, .int .i64 c.main] 26)).heap.size := by simp
  have x := fun j v hv => (cells_new w #[.slice iq c.ins.length ia, .slice eq c.ens.length ea, .slice tq c.txs.length ta, .int .i64 c.main] 26 j v hv).1
  have x0 := x 0 (.slice iq c.ins.length ia) rfl
  have x1 := x 1 (.slice eq c.ens.length ea) rfl
  have x2 := x 2 (.slice tq c.txs.length ta) rfl
  have x3 := x 3 (.int .i64 c.main) rfl
  clear x
  have v1 := valid_any (h.below B1 hB) ia ea ta (by have := B1.size; omega) (ht.next B1)
  obtain ⟨RS, HRS⟩ : ∃ RS, Hid (RS = if validS c = 0 then YtchinflkjcebjabGreatDoor.bk (printS c) else e0) := ⟨_, rfl⟩
  rw [← HRS.out]
  by_cases hv0 : validS c = 0
  case neg =>
    have HE : Hid (RS = e0) := by
      show RS = e0
      rw [HRS.out, if_neg hv0]
    generalize validS c = R at v1 hv0 ⊢
    have hv1 : (R == 0) = false := beq_false_of_ne hv0
    unfold codeV at v1 ⊢
    clear HRS
    go_enter Tryz.func13, Tryz.ntmps13
    go_upto_region 1 with fail
    generalize w.alloc (.cells #[.slice iq c.ins.length ia, .slice eq c.ens.length ea, .slice tq c.txs.length ta, .int .i64 c.main] 26) = X at *
    go_wp2_with fail
    refine v1.mono ?_
    rintro e w1 ⟨rfl, hb1⟩
    go_wp2
    exact bodyPost_ret (v := .tuple #[.string e0, .int .i64 R]) (by simp [results, Tryz.results13, go_sem]) rfl ⟨by rw [HE.out], below2 B1 hb1⟩
  have HE : Hid (RS = YtchinflkjcebjabGreatDoor.bk (printS c)) := by
    show RS = _
    rw [HRS.out, if_pos hv0]
  have hk := code_ok.1 hv0
  have HK : Hid (CodeOk c) := hk
  have HH : Hid (CodeM w B iq eq tq Es c) := h
  have HT : Hid (Tabs w) := ht
  have HL : Hid (Es.length = c.ens.length) := h.len
  have HEn : Hid (∀ j (hj : j < Es.length), YtchinflkjcebjabGreatDoor.enAt c.ens j = Es[j].1 ∧ EntOk Es[j].1) := fun j hj => by
    refine ⟨h.enAt j hj, ?_⟩
    have : Es[j].1 ∈ c.ens := by rw [← h.en]; exact List.mem_map_of_mem (List.getElem_mem hj)
    exact ent_ok.1 (hk.es _ this)
  have hPL := print_len hk
  obtain ⟨PR, HPR⟩ : ∃ PR, Hid (PR = printS c) := ⟨_, rfl⟩
  rw [← HPR.out] at hPL
  have HSZ : Hid (∀ W, Below w.heap.size w W → CodeM W B iq eq tq Es c ∧ Tabs W) := fun W hW => ⟨h.below hW hB, ht.next hW⟩
  have k1 := hk.el
  have k2 := hk.il
  have k3 := hk.tl
  have k0 := hk.m0
  have k4 := hk.ml
  have m8 : mayS 8 c.main = true := by
    rw [may_iff]
    have a : shLo.getD 8 0 = 0 := rfl
    have b : shHi.getD 8 0 = 59 := rfl
    exact ⟨by omega, by omega, fun h => by omega⟩
  have HWd : Hid (∀ W, Below w.heap.size w W → Calls Tryz.prog 29 #[.int .i64 8, .int .i64 c.main] W fun e w' => e = .returned (.string (YtchinflkjcebjabGreatDoor.bk (Lib.itoa c.main))) ∧ Below W.heap.size W w') := fun W hW => word_any 8 c.main W (by decide) m8 (ht.next hW) (by omega) (by omega)
  rw [hv0] at v1 ⊢
  unfold codeV at v1 ⊢
  clear HRS h ht hk m8
  go_enter Tryz.func13, Tryz.ntmps13
  go_upto_region 1 with fail
  generalize w.alloc (.cells #[.slice iq c.ins.length ia, .slice eq c.ens.length ea, .slice tq c.txs.length ta, .int .i64 c.main] 26) = X at *
  go_wp2_with fail
  refine v1.mono ?_
  rintro e w1 ⟨rfl, hb1⟩
  replace x3 := (hb1.cell (p := ⟨w.heap.size, 3, none⟩) hlt1).trans x3
  have K2 : w1.heap[w.heap.size]? = some (.cells C 26) := by rw [HCd.out]; exact (hb1.block _ hlt1).trans K1
  have bw1 : Below w.heap.size w w1 := below2 B1 hb1
  have n1 := HWd.out w1 bw1
  have E1 : ES w w1 C (.slice none 0 0) 0 [] := ⟨World.ownsRow_nil _ _ _ _, bw1, K2⟩
  have HE1 : Hid (ES w w1 C (.slice none 0 0) 0 []) := E1
  clear v1 x0 x1 x2 K1 K2 E1 B1 hb1 hlt1
  go_wp2_with fail
  refine n1.mono ?_
  rintro e w2 ⟨rfl, hb2⟩
  have HE2 := HE1.out.next hb2
  obtain ⟨W2, hW2⟩ : ∃ W2, W2 = w2.alloc (.cells #[.string ⟨#[109, 97, 105, 110]⟩, .string (YtchinflkjcebjabGreatDoor.bk (Lib.itoa c.main))] 9) := ⟨_, rfl⟩
  have nbL : Below w2.heap.size w2 W2 := by rw [hW2]; exact (Below.refl _ w2).alloc (Nat.le_refl _) _
  have OL : W2.ownsRow w2.heap.size 9 1 (.slice (some ⟨w2.heap.size, 0, none⟩) 2 2) 2 (tv [⟨#[109, 97, 105, 110]⟩, YtchinflkjcebjabGreatDoor.bk (Lib.itoa c.main)]) := by rw [hW2]; exact own_lit w2 [.string ⟨#[109, 97, 105, 110]⟩, .string (YtchinflkjcebjabGreatDoor.bk (Lib.itoa c.main))] 9 2 rfl (by decide)
  have HEL := HE2.next nbL
  have hdl : dl [(⟨#[109, 97, 105, 110]⟩ : ByteArray), YtchinflkjcebjabGreatDoor.bk (Lib.itoa c.main)] = [[109, 97, 105, 110], Lib.itoa c.main] := by unfold dl; simp only [List.map_cons, List.map_nil, bk_data]
  have hmw : lnS [[109, 97, 105, 110], Lib.itoa c.main] = mainW c.main := rfl
  have hml : (mainW c.main).length ≤ 400000000 := by
    have := hPL
    rw [HPR.out] at this
    unfold printS at this
    rw [List.length_append] at this
    omega
  have hit : (YtchinflkjcebjabGreatDoor.bk (Lib.itoa c.main)).size ≤ 100000000 := by rw [bk_size]; have := Lib.itoa_length_le c.main (by omega) (by omega); omega
  have nL := line_v [⟨#[109, 97, 105, 110]⟩, YtchinflkjcebjabGreatDoor.bk (Lib.itoa c.main)] W2 w.heap.size (.slice none 0 0) 0 [] HEL.own HEL.bel.size w2.heap.size (some ⟨w2.heap.size, 0, none⟩) 2 OL (by rw [hdl, hmw]; omega) (by simp) (fun s hs => by
    simp only [List.mem_cons, List.not_mem_nil, or_false] at hs
    rcases hs with rfl | rfl
    · decide
    · exact hit)
  rw [hdl, hmw] at nL
  have HHEL : Hid (ES w W2 C (.slice none 0 0) 0 []) := HEL
  have HW2 : Hid (W2 = w2.alloc (.cells #[.string ⟨#[109, 97, 105, 110]⟩, .string (YtchinflkjcebjabGreatDoor.bk (Lib.itoa c.main))] 9)) := hW2
  have nL' : Calls Tryz.prog 28 #[.slice none 0 0, .slice (some ⟨w2.heap.size, 0, none⟩) 2 2] (w2.alloc (.cells #[.string ⟨#[109, 97, 105, 110]⟩, .string (YtchinflkjcebjabGreatDoor.bk (Lib.itoa c.main))] 9)) fun e w' => ∃ v', e = .returned v' ∧ Hid (Grew W2 w' w.heap.size (.slice none 0 0) v' (0 + (mainW c.main).length) ([] ++ mainW c.main)) := by rw [← hW2]; exact nL
  clear hW2 nL n1 HE1 HE2 hdl hmw hit OL nbL HEL
  go_wp2_with fail
  refine nL'.mono ?_
  rintro e w3 ⟨v3, rfl, g3⟩
  have HE3 : Hid (ES w w3 C v3 (0 + (mainW c.main).length) ([] ++ mainW c.main)) := HHEL.out.grew g3.out
  have y2 := HE3.out.cell 2 (.slice tq c.txs.length ta) (by rw [HCd.out]; rfl)
  clear nL' g3 HW2 HHEL
  go_wp2_with fail
  go_loopw [5, 24] (fun b i wr => ∃ (j n' : Nat) (l' : List UInt8), j ≤ c.txs.length ∧ i = .int .i64 (j : Int) ∧ Hid (l' ++ ((c.txs.drop j).flatMap poolW ++ bodyS c.ens 0 0 c.ins) = PR) ∧ Hid (ES w wr C b n' l')) (fun _ i _ => c.txs.length - (intOf i).toNat)
  case atStart => exact ⟨0, _, _, Nat.zero_le _, rfl, by show _ = _; rw [HPR.out]; rfl, HE3⟩
  case round =>
    obtain ⟨j, n', l', hj, rfl, hl', hE⟩ := hrel
    obtain ⟨qb, cb, rfl, -, -⟩ := own_slice hE.out.own
    have hn' : Hid (n' = l'.length) := by show _ = _; have := hE.out.own.1; rw [bv_len] at this; omega
    clear y2 HE3
    by_cases hlt : j < c.txs.length
    case pos =>
      obtain ⟨hm, -⟩ := HSZ.out wr hE.out.bel
      obtain ⟨g, o, rfl, hg, d0⟩ := hm.txt j hlt
      have hts := HK.out.ts _ (List.getElem_mem hlt)
      have HD : Hid ((c.txs.drop j).flatMap poolW = poolW c.txs[j] ++ (c.txs.drop (j + 1)).flatMap poolW) := by
        show _ = _
        rw [List.drop_eq_getElem_cons hlt, List.flatMap_cons]
      have hbl : n' + (poolW c.txs[j]).length ≤ 400000000 := by
        have := congrArg List.length hl'.out
        rw [HD.out] at this
        simp only [List.length_append] at this
        have hq := hn'.out
        omega
      have j0 : (0 : Int) ≤ (j : Int) := by omega
      have j1 : (j : Int) < (c.txs.length : Int) := by omega
      generalize c.txs[j] = x at *
      have hqs : (YtchinflkjcebjabGreatDoor.bk (qtS x.data.toList)).size ≤ 100000000 := by rw [bk_size]; have := qtS_len x.data.toList; rw [← Lib.size_eq] at this; omega
      have hdl : dl [(⟨#[112, 111, 111, 108]⟩ : ByteArray), YtchinflkjcebjabGreatDoor.bk (qtS x.data.toList)] = [[112, 111, 111, 108], qtS x.data.toList] := by unfold dl; simp only [List.map_cons, List.map_nil, bk_data]
      have hmw : lnS [[112, 111, 111, 108], qtS x.data.toList] = poolW x := rfl
      have nq := quote_any x wr (by omega)
      have HLn : Hid (∀ W4, Below wr.heap.size wr W4 → Calls Tryz.prog 28 #[.slice qb n' cb, .slice (some ⟨W4.heap.size, 0, none⟩) 2 2] (W4.alloc (.cells #[.string ⟨#[112, 111, 111, 108]⟩, .string (YtchinflkjcebjabGreatDoor.bk (qtS x.data.toList))] 9)) fun e w' => ∃ v', e = .returned v' ∧ Hid (ES w w' C v' (n' + (poolW x).length) (l' ++ poolW x))) := fun W4 hW4 => by
        have nbL : Below W4.heap.size W4 (W4.alloc (.cells #[.string ⟨#[112, 111, 111, 108]⟩, .string (YtchinflkjcebjabGreatDoor.bk (qtS x.data.toList))] 9)) := (Below.refl _ W4).alloc (Nat.le_refl _) _
        have OL := own_lit W4 [.string ⟨#[112, 111, 111, 108]⟩, .string (YtchinflkjcebjabGreatDoor.bk (qtS x.data.toList))] 9 2 rfl (by decide)
        have hE4 := (hE.out.next hW4).next nbL
        have nL := line_v [⟨#[112, 111, 111, 108]⟩, YtchinflkjcebjabGreatDoor.bk (qtS x.data.toList)] _ w.heap.size _ n' l' hE4.own hE4.bel.size W4.heap.size (some ⟨W4.heap.size, 0, none⟩) 2 OL (by rw [hdl, hmw]; omega) (by simp) (fun s hs => by
          simp only [List.mem_cons, List.not_mem_nil, or_false] at hs
          rcases hs with rfl | rfl
          · decide
          · exact hqs)
        rw [hdl, hmw] at nL
        exact nL.mono fun e w' ⟨v', h1, h2⟩ => ⟨v', h1, hE4.grew h2.out⟩
      generalize YtchinflkjcebjabGreatDoor.bk (qtS x.data.toList) = qx at *
      clear hdl hmw hqs hm hn' hts
      go_wp2_with fail
      refine nq.mono ?_
      rintro e W4 ⟨rfl, hb4⟩
      have nL := HLn.out W4 hb4
      clear HLn nq
      go_wp2_with fail
      refine nL.mono ?_
      rintro e W5 ⟨v5, rfl, hE5⟩
      obtain ⟨q5, c5, rfl, -, -⟩ := own_slice hE5.out.own
      go_wp2
      exact ⟨⟨j + 1, n' + (poolW x).length, l' ++ poolW x, by omega, by go_num, by show _ = _; rw [← hl'.out, HD.out]; simp, hE5⟩, by simp [intOf]; omega⟩
    obtain rfl : j = c.txs.length := by omega
    have HL5 : Hid (l' ++ bodyS c.ens 0 0 c.ins = PR) := by
      show _ = _
      have := hl'.out
      rw [List.drop_length] at this
      exact this
    have y0 := hE.out.cell 0 (.slice iq c.ins.length ia) (by rw [HCd.out]; rfl)
    clear hl' hlt hj hn'
    go_wp2_with fail
    go_loopw [5, 8, 37] (fun b nx i wv => ∃ (j k n' : Nat) (l' : List UInt8), j ≤ c.ins.length ∧ k ≤ c.ens.length ∧ i = .int .i64 (j : Int) ∧ nx = .int .i64 (k : Int) ∧ Hid (l' ++ bodyS c.ens k j (c.ins.drop j) = PR) ∧ Hid (ES w wv C b n' l')) (fun _ _ i _ => c.ins.length - (intOf i).toNat)
    case atStart => exact ⟨0, 0, n', l', Nat.zero_le _, Nat.zero_le _, rfl, rfl, HL5, hE⟩
    case round =>
      obtain ⟨j, k, n', l', hj, hkk, rfl, rfl, hl', hE⟩ := hrel
      obtain ⟨qb, cb, rfl, -, -⟩ := own_slice hE.out.own
      have hn' : Hid (n' = l'.length) := by show _ = _; have := hE.out.own.1; rw [bv_len] at this; omega
      clear y0 HL5
      by_cases hlt : j < c.ins.length
      case neg =>
        obtain rfl : j = c.ins.length := by omega
        have HF : Hid (RS = YtchinflkjcebjabGreatDoor.bk l') := by
          show RS = _
          have := hl'.out
          rw [List.drop_length, bodyS, List.append_nil] at this
          rw [HE.out, ← HPR.out, this]
        have hcv := conv_own hE.out.own
        clear hn'
        go_wp2
        first | (change bodyPost Tryz.prog Tryz.f13 _ Exit.ret _ _) | (simp only [Exit.noGoto])
        exact bodyPost_ret (v := .tuple #[.string (YtchinflkjcebjabGreatDoor.bk l'), .int .i64 0]) (by simp [results, Tryz.results13, go_sem, YtchinflkjcebjabGreatDoor.bk]) rfl ⟨by rw [HF.out], hE.out.bel⟩
      obtain ⟨hm, htb⟩ := HSZ.out wr hE.out.bel
      obtain ⟨g, o, rfl, hg, d0, d1, d2⟩ := hm.ins j hlt
      have hok := HK.out.is _ (List.getElem_mem hlt)
      have HBd : Hid (bodyS c.ens k j (c.ins.drop j) = (if atE c.ens k j then lnS (entW (YtchinflkjcebjabGreatDoor.enAt c.ens k)) else []) ++ ([32, 32] ++ (lnS (insW c.ins[j]) ++ bodyS c.ens (if atE c.ens k j then k + 1 else k) (j + 1) (c.ins.drop (j + 1))))) := by
        show _ = _
        rw [List.drop_eq_getElem_cons hlt, bodyS]
      have hlen := congrArg List.length hl'.out
      rw [HBd.out] at hlen
      simp only [List.length_append, List.length_cons, List.length_nil] at hlen
      have HLN : Hid (l'.length + ((if atE c.ens k j then lnS (entW (YtchinflkjcebjabGreatDoor.enAt c.ens k)) else []).length + (2 + (lnS (insW c.ins[j])).length)) ≤ 400000000) := by
        show _ ≤ _
        omega
      obtain ⟨iws, iwl⟩ := iw_size hok
      generalize c.ins[j] = x at *
      obtain ⟨op, a, b'⟩ := x
      simp only at d0 d1 d2
      have j0 : (0 : Int) ≤ (j : Int) := by omega
      have j1 : (j : Int) < (c.ins.length : Int) := by omega
      have nb : Below wr.heap.size wr (wr.alloc (.cells #[.int .i64 op, .int .i64 a, .int .i64 b'] 46)) := (Below.refl _ wr).alloc (Nat.le_refl _) _
      have P1 := World.alloc_heap_new wr (.cells #[.int .i64 op, .int .i64 a, .int .i64 b'] 46)
      have hE1 := hE.out.next nb
      clear hlen
      go_upto_region 14 with fail
      generalize wr.alloc (.cells #[.int .i64 op, .int .i64 a, .int .i64 b'] 46) = X1 at *
      generalize wr.heap.size = p1 at *
      have HE1 : Hid (ES w X1 C (.slice qb n' cb) n' l') := hE1
      have HP1 : Hid (X1.heap[p1]? = some (.cells #[.int .i64 op, .int .i64 a, .int .i64 b'] 46)) := P1
      have y1 := hE1.cell 1 (.slice eq c.ens.length ea) (by rw [HCd.out]; rfl)
      have HAt : Hid (atE c.ens k j = (decide (k < c.ens.length) && (YtchinflkjcebjabGreatDoor.enAt c.ens k).start == (j : Int))) := rfl
      clear hE1 P1 d0 d1 d2 hE hm nb
      by_cases hk1 : k < c.ens.length
      case neg =>
        have hA : atE c.ens k j = false := by rw [HAt.out, decide_eq_false hk1]; rfl
        rw [hA] at HBd HLN
        have i2 : ¬ (k : Int) < (c.ens.length : Int) := by omega
        have HLN' : Hid (l'.length + (2 + (lnS (insW (op, a, b'))).length) ≤ 400000000) := by show _ ≤ _; have := HLN.out; simpa using this
        have HBd' : Hid (l' ++ ([32, 32] ++ (lnS (insW (op, a, b')) ++ bodyS c.ens k (j + 1) (c.ins.drop (j + 1)))) = PR) := by
          show _ = _
          rw [← hl'.out, HBd.out]
          rfl
        clear HBd HLN hA HAt hl'
        go_upto_region 17 with fail
        have hbn : n' ≤ 400000000 := by have := HLN'.out; have hq := hn'.out; omega
        have bd : Below X1.heap.size X1 X1.drew := (Below.refl _ X1).drew
        have hEd := HE1.out.next bd
        have PDd := (bd.block _ (Array.getElem?_eq_some_iff.1 HP1.out).1).trans HP1.out
        obtain ⟨c0, -⟩ := blk_cell HP1.out 0 (.int .i64 op) rfl
        obtain ⟨c1, -⟩ := blk_cell HP1.out 1 (.int .i64 a) rfl
        obtain ⟨c2, -⟩ := blk_cell HP1.out 2 (.int .i64 b') rfl
        obtain ⟨va, wa, hra, Ga⟩ := appS_any X1.drew w.heap.size _ n' l' ⟨#[32, 32]⟩ hEd.own (by show n' + 2 ≤ _; omega) hEd.bel.size
        obtain ⟨qa, ca, rfl, -, -⟩ := own_slice Ga.own
        have Ea := hEd.grew Ga
        have Pa := (Ga.kept hEd.own (t := 46) (k := 3) ⟨_, PDd, Nat.le_refl _⟩ (by decide)).trans PDd
        obtain ⟨ca0, -⟩ := blk_cell Pa 0 (.int .i64 op) rfl
        obtain ⟨ca1, -⟩ := blk_cell Pa 1 (.int .i64 a) rfl
        obtain ⟨ca2, -⟩ := blk_cell Pa 2 (.int .i64 b') rfl
        have nIa := instrWords_v op a b' wa hok (HSZ.out wa Ea.bel).2
        have nIb := instrWords_v op a b' X1.drew hok (HSZ.out _ hEd.bel).2
        have HLNa : Hid (∀ W q cap, W.ownsRow wa.heap.size 9 1 (.slice q (iwB (op, a, b')).length cap) (iwB (op, a, b')).length (tv (iwB (op, a, b'))) ∧ Below wa.heap.size wa W → Calls Tryz.prog 28 #[.slice qa (n' + 2) ca, .slice q (iwB (op, a, b')).length cap] W fun e w' => ∃ v', e = .returned v' ∧ (∃ q5 c5, v' = .slice q5 (n' + 2 + (lnS (insW (op, a, b'))).length) c5 ∧ Hid (ES w w' C (.slice q5 (n' + 2 + (lnS (insW (op, a, b'))).length) c5) (n' + 2 + (lnS (insW (op, a, b'))).length) (l' ++ [32, 32] ++ lnS (insW (op, a, b')))))) := fun W q cap ⟨hO, hW⟩ => by
          have hE4 := Ea.next hW
          have nL := line_v (iwB (op, a, b')) W w.heap.size _ (n' + 2) (l' ++ [32, 32]) hE4.own hE4.bel.size wa.heap.size q cap hO (by unfold iwB; rw [dl_bk]; have := HLN'.out; have hq := hn'.out; omega) iwl iws
          have e5 : dl (iwB (op, a, b')) = insW (op, a, b') := dl_bk _
          rw [e5] at nL
          refine nL.mono fun e w' ⟨v', h1, h2⟩ => ?_
          obtain ⟨q5, c5, rfl, -, -⟩ := own_slice h2.out.own
          exact ⟨_, h1, q5, c5, rfl, hE4.grew h2.out⟩
        have HIWb : Hid (∀ W q cap, W.ownsRow X1.drew.heap.size 9 1 (.slice q (iwB (op, a, b')).length cap) (iwB (op, a, b')).length (tv (iwB (op, a, b'))) ∧ Below X1.drew.heap.size X1.drew W → ∃ q7 c7 w7, (Builtin.append_ #[52, 9] 52 #[.slice qb n' cb, .string ⟨#[32, 32]⟩]).run Tryz.prog W = .ok (.slice q7 (n' + 2) c7) w7 ∧ Calls Tryz.prog 28 #[.slice q7 (n' + 2) c7, .slice q (iwB (op, a, b')).length cap] w7 fun e w' => ∃ v', e = .returned v' ∧ (∃ q5 c5, v' = .slice q5 (n' + 2 + (lnS (insW (op, a, b'))).length) c5 ∧ Hid (ES w w' C (.slice q5 (n' + 2 + (lnS (insW (op, a, b'))).length) c5) (n' + 2 + (lnS (insW (op, a, b'))).length) (l' ++ [32, 32] ++ lnS (insW (op, a, b')))))) := fun W q cap ⟨hO, hW⟩ => by
          have hE6 := hEd.next hW
          obtain ⟨v7, w7, hr7, G7⟩ := appS_any W w.heap.size _ n' l' ⟨#[32, 32]⟩ hE6.own (by show n' + 2 ≤ _; omega) hE6.bel.size
          obtain ⟨q7, c7, rfl, -, -⟩ := own_slice G7.own
          have hO7 := own_same hO (w' := w7) fun g hg => G7.kept hE6.own (own_blk hO g hg) (by decide)
          have E7 := hE6.grew G7
          have nL := line_v (iwB (op, a, b')) w7 w.heap.size _ (n' + 2) (l' ++ [32, 32]) E7.own E7.bel.size _ q cap hO7 (by unfold iwB; rw [dl_bk]; have := HLN'.out; have hq := hn'.out; omega) iwl iws
          have e5 : dl (iwB (op, a, b')) = insW (op, a, b') := dl_bk _
          rw [e5] at nL
          refine ⟨q7, c7, w7, hr7, nL.mono fun e w' ⟨v', h1, h2⟩ => ?_⟩
          obtain ⟨q5, c5, rfl, -, -⟩ := own_slice h2.out.own
          exact ⟨_, h1, q5, c5, rfl, E7.grew h2.out⟩
        have hra' : (Builtin.append_ #[52, 9] 52 #[.slice qb n' cb, .string ⟨#[32, 32]⟩]).run Tryz.prog X1.drew = .ok (.slice qa (n' + 2) ca) wa := hra
        clear hra Ga Ea Pa PDd hEd bd
        generalize (iwB (op, a, b')).length = iwn at *
        go_wp2_with fail
        go_region_law (first
          | (have hz := ok2a; refine step_call (by rfl) 28 [.tmp 68, .tmp 70] #[52, 24] [.slice qa (n' + 2) ca, .slice q6 iwn cp6] (by rfl) (by rfl) (callL _ _) _ ok2a ?_; rintro v9 W9 ⟨q9, c9, rfl, hE9⟩)
          | (have hz := ok2b; refine step_call (by rfl) 28 [.tmp 68, .tmp 70] #[52, 24] [.slice q7 (n' + 2) c7, .slice q6 iwn cp6] (by rfl) (by rfl) (callL _ _) _ ok2b ?_; rintro v9 W9 ⟨q9, c9, rfl, hE9⟩)
          | (have hz := ap1; refine step_call (by rfl) 32 [.tmp 69] #[46] [.agg #[.int .i64 op, .int .i64 a, .int .i64 b']] (by rfl) (by rfl) (callI _) _ nIa ?_; rintro v6 W6 ⟨q6, cp6, rfl, hw6⟩; have ok2a := HLNa.out W6 q6 cp6 hw6.out)
          | (have hz := iw1; obtain ⟨q7, c7, w7, hr7, ok2b⟩ := HIWb.out W6 q6 cp6 iw1.out; refine step_run (by rfl) _ _ _ _ 52 (by rfl) (by rfl) _ _ (by rfl) (by rfl) hr7 ?_)
          | (refine step_call (by rfl) 32 [.tmp 69] #[46] [.agg #[.int .i64 op, .int .i64 a, .int .i64 b']] (by rfl) (by rfl) (callI _) _ nIb ?_; rintro v6 W6 ⟨q6, cp6, rfl, iw1⟩)
          | (refine step_run (by rfl) _ _ _ _ 52 (by rfl) (by rfl) _ _ (by rfl) (by rfl) hra' ?_; have ap1 : True := trivial))
        all_goals
          have HE9 : Hid (ES w W9 C (.slice q9 (n' + 2 + (lnS (insW (op, a, b'))).length) c9) (n' + 2 + (lnS (insW (op, a, b'))).length) (l' ++ [32, 32] ++ lnS (insW (op, a, b')))) := hE9
          clear hE9 HLNa HIWb nIa nIb hra'
          go_wp2
          exact ⟨⟨j + 1, k, _, _, by omega, by omega, by go_num, by go_num, by show _ = _; rw [← HBd'.out]; simp, HE9⟩, by simp [intOf]; omega⟩
      have hk1' : k < Es.length := by rw [HL.out]; exact hk1
      obtain ⟨hm1, -⟩ := HSZ.out X1 HE1.out.bel
      obtain ⟨g2, o2, rfl, hg2, e0', e1', e2', e3', e4'⟩ := hm1.ent k hk1'
      obtain ⟨sr, -, -⟩ := hm1.sr Es[k] (List.getElem_mem hk1')
      obtain ⟨hen, henok⟩ := HEn.out k hk1'
      rw [hen] at HAt HBd HLN
      have i1 : (0 : Int) ≤ (k : Int) := by omega
      have i2 : (k : Int) < (c.ens.length : Int) := by omega
      have HRw : Hid (∀ W, Below w.heap.size w W → Row W B Es[k].2.1 Es[k].1.sorts.length (sv Es[k].1.sorts)) := fun W hW => ((HSZ.out W hW).1.sr Es[k] (List.getElem_mem hk1')).1
      clear hen hm1 sr
      generalize Es[k] = ee at *
      obtain ⟨⟨nm, st, pr, so, rs⟩, sq, scp⟩ := ee
      simp only at e0' e1' e2' e3' e4' HAt HBd HLN henok HRw
      by_cases hst : st = (j : Int)
      case neg =>
        have hst' : (st == (j : Int)) = false := beq_false_of_ne hst
        have hA : atE c.ens k j = false := by rw [HAt.out, hst', Bool.and_false]
        rw [hA] at HBd HLN
        have HLN' : Hid (l'.length + (2 + (lnS (insW (op, a, b'))).length) ≤ 400000000) := by show _ ≤ _; have := HLN.out; simpa using this
        have HBd' : Hid (l' ++ ([32, 32] ++ (lnS (insW (op, a, b')) ++ bodyS c.ens k (j + 1) (c.ins.drop (j + 1)))) = PR) := by
          show _ = _
          rw [← hl'.out, HBd.out]
          rfl
        clear HBd HLN hA HAt hl' hst
        go_upto_region 17 with fail
        have hbn : n' ≤ 400000000 := by have := HLN'.out; have hq := hn'.out; omega
        have bd : Below X1.heap.size X1 X1.drew := (Below.refl _ X1).drew
        have hEd := HE1.out.next bd
        have PDd := (bd.block _ (Array.getElem?_eq_some_iff.1 HP1.out).1).trans HP1.out
        obtain ⟨c0, -⟩ := blk_cell HP1.out 0 (.int .i64 op) rfl
        obtain ⟨c1, -⟩ := blk_cell HP1.out 1 (.int .i64 a) rfl
        obtain ⟨c2, -⟩ := blk_cell HP1.out 2 (.int .i64 b') rfl
        obtain ⟨va, wa, hra, Ga⟩ := appS_any X1.drew w.heap.size _ n' l' ⟨#[32, 32]⟩ hEd.own (by show n' + 2 ≤ _; omega) hEd.bel.size
        obtain ⟨qa, ca, rfl, -, -⟩ := own_slice Ga.own
        have Ea := hEd.grew Ga
        have Pa := (Ga.kept hEd.own (t := 46) (k := 3) ⟨_, PDd, Nat.le_refl _⟩ (by decide)).trans PDd
        obtain ⟨ca0, -⟩ := blk_cell Pa 0 (.int .i64 op) rfl
        obtain ⟨ca1, -⟩ := blk_cell Pa 1 (.int .i64 a) rfl
        obtain ⟨ca2, -⟩ := blk_cell Pa 2 (.int .i64 b') rfl
        have nIa := instrWords_v op a b' wa hok (HSZ.out wa Ea.bel).2
        have nIb := instrWords_v op a b' X1.drew hok (HSZ.out _ hEd.bel).2
        have HLNa : Hid (∀ W q cap, W.ownsRow wa.heap.size 9 1 (.slice q (iwB (op, a, b')).length cap) (iwB (op, a, b')).length (tv (iwB (op, a, b'))) ∧ Below wa.heap.size wa W → Calls Tryz.prog 28 #[.slice qa (n' + 2) ca, .slice q (iwB (op, a, b')).length cap] W fun e w' => ∃ v', e = .returned v' ∧ (∃ q5 c5, v' = .slice q5 (n' + 2 + (lnS (insW (op, a, b'))).length) c5 ∧ Hid (ES w w' C (.slice q5 (n' + 2 + (lnS (insW (op, a, b'))).length) c5) (n' + 2 + (lnS (insW (op, a, b'))).length) (l' ++ [32, 32] ++ lnS (insW (op, a, b')))))) := fun W q cap ⟨hO, hW⟩ => by
          have hE4 := Ea.next hW
          have nL := line_v (iwB (op, a, b')) W w.heap.size _ (n' + 2) (l' ++ [32, 32]) hE4.own hE4.bel.size wa.heap.size q cap hO (by unfold iwB; rw [dl_bk]; have := HLN'.out; have hq := hn'.out; omega) iwl iws
          have e5 : dl (iwB (op, a, b')) = insW (op, a, b') := dl_bk _
          rw [e5] at nL
          refine nL.mono fun e w' ⟨v', h1, h2⟩ => ?_
          obtain ⟨q5, c5, rfl, -, -⟩ := own_slice h2.out.own
          exact ⟨_, h1, q5, c5, rfl, hE4.grew h2.out⟩
        have HIWb : Hid (∀ W q cap, W.ownsRow X1.drew.heap.size 9 1 (.slice q (iwB (op, a, b')).length cap) (iwB (op, a, b')).length (tv (iwB (op, a, b'))) ∧ Below X1.drew.heap.size X1.drew W → ∃ q7 c7 w7, (Builtin.append_ #[52, 9] 52 #[.slice qb n' cb, .string ⟨#[32, 32]⟩]).run Tryz.prog W = .ok (.slice q7 (n' + 2) c7) w7 ∧ Calls Tryz.prog 28 #[.slice q7 (n' + 2) c7, .slice q (iwB (op, a, b')).length cap] w7 fun e w' => ∃ v', e = .returned v' ∧ (∃ q5 c5, v' = .slice q5 (n' + 2 + (lnS (insW (op, a, b'))).length) c5 ∧ Hid (ES w w' C (.slice q5 (n' + 2 + (lnS (insW (op, a, b'))).length) c5) (n' + 2 + (lnS (insW (op, a, b'))).length) (l' ++ [32, 32] ++ lnS (insW (op, a, b')))))) := fun W q cap ⟨hO, hW⟩ => by
          have hE6 := hEd.next hW
          obtain ⟨v7, w7, hr7, G7⟩ := appS_any W w.heap.size _ n' l' ⟨#[32, 32]⟩ hE6.own (by show n' + 2 ≤ _; omega) hE6.bel.size
          obtain ⟨q7, c7, rfl, -, -⟩ := own_slice G7.own
          have hO7 := own_same hO (w' := w7) fun g hg => G7.kept hE6.own (own_blk hO g hg) (by decide)
          have E7 := hE6.grew G7
          have nL := line_v (iwB (op, a, b')) w7 w.heap.size _ (n' + 2) (l' ++ [32, 32]) E7.own E7.bel.size _ q cap hO7 (by unfold iwB; rw [dl_bk]; have := HLN'.out; have hq := hn'.out; omega) iwl iws
          have e5 : dl (iwB (op, a, b')) = insW (op, a, b') := dl_bk _
          rw [e5] at nL
          refine ⟨q7, c7, w7, hr7, nL.mono fun e w' ⟨v', h1, h2⟩ => ?_⟩
          obtain ⟨q5, c5, rfl, -, -⟩ := own_slice h2.out.own
          exact ⟨_, h1, q5, c5, rfl, E7.grew h2.out⟩
        have hra' : (Builtin.append_ #[52, 9] 52 #[.slice qb n' cb, .string ⟨#[32, 32]⟩]).run Tryz.prog X1.drew = .ok (.slice qa (n' + 2) ca) wa := hra
        clear hra Ga Ea Pa PDd hEd bd
        generalize (iwB (op, a, b')).length = iwn at *
        go_wp2_with fail
        go_region_law (first
          | (have hz := ok2a; refine step_call (by rfl) 28 [.tmp 68, .tmp 70] #[52, 24] [.slice qa (n' + 2) ca, .slice q6 iwn cp6] (by rfl) (by rfl) (callL _ _) _ ok2a ?_; rintro v9 W9 ⟨q9, c9, rfl, hE9⟩)
          | (have hz := ok2b; refine step_call (by rfl) 28 [.tmp 68, .tmp 70] #[52, 24] [.slice q7 (n' + 2) c7, .slice q6 iwn cp6] (by rfl) (by rfl) (callL _ _) _ ok2b ?_; rintro v9 W9 ⟨q9, c9, rfl, hE9⟩)
          | (have hz := ap1; refine step_call (by rfl) 32 [.tmp 69] #[46] [.agg #[.int .i64 op, .int .i64 a, .int .i64 b']] (by rfl) (by rfl) (callI _) _ nIa ?_; rintro v6 W6 ⟨q6, cp6, rfl, hw6⟩; have ok2a := HLNa.out W6 q6 cp6 hw6.out)
          | (have hz := iw1; obtain ⟨q7, c7, w7, hr7, ok2b⟩ := HIWb.out W6 q6 cp6 iw1.out; refine step_run (by rfl) _ _ _ _ 52 (by rfl) (by rfl) _ _ (by rfl) (by rfl) hr7 ?_)
          | (refine step_call (by rfl) 32 [.tmp 69] #[46] [.agg #[.int .i64 op, .int .i64 a, .int .i64 b']] (by rfl) (by rfl) (callI _) _ nIb ?_; rintro v6 W6 ⟨q6, cp6, rfl, iw1⟩)
          | (refine step_run (by rfl) _ _ _ _ 52 (by rfl) (by rfl) _ _ (by rfl) (by rfl) hra' ?_; have ap1 : True := trivial))
        all_goals
          have HE9 : Hid (ES w W9 C (.slice q9 (n' + 2 + (lnS (insW (op, a, b'))).length) c9) (n' + 2 + (lnS (insW (op, a, b'))).length) (l' ++ [32, 32] ++ lnS (insW (op, a, b')))) := hE9
          clear hE9 HLNa HIWb nIa nIb hra'
          go_wp2
          exact ⟨⟨j + 1, k, _, _, by omega, by omega, by go_num, by go_num, by show _ = _; rw [← HBd'.out]; simp, HE9⟩, by simp [intOf]; omega⟩
      have hA : atE c.ens k j = true := by rw [HAt.out, decide_eq_true hk1, hst]; simp
      rw [hA, if_pos rfl, if_pos rfl] at HBd
      rw [hA, if_pos rfl] at HLN
      have hst' : (st == (j : Int)) = true := by rw [hst]; simp
      obtain ⟨ews, ewl⟩ := ew_size henok
      have hzE : Row X1 X1.heap.size sq so.length (sv so) := (HRw.out X1 HE1.out.bel).up (by have := HE1.out.bel.size; omega)
      have ne := entryWords_any (⟨nm, st, pr, so, rs⟩, sq, scp) X1 henok (HSZ.out X1 HE1.out.bel).2 hzE
      simp only [ec] at ne
      have HLL : Hid (∀ W q cap, W.ownsRow X1.heap.size 9 1 (.slice q (ewB ⟨nm, st, pr, so, rs⟩).length cap) (ewB ⟨nm, st, pr, so, rs⟩).length (tv (ewB ⟨nm, st, pr, so, rs⟩)) → Below X1.heap.size X1 W → Calls Tryz.prog 28 #[.slice qb n' cb, .slice q (ewB ⟨nm, st, pr, so, rs⟩).length cap] W fun e w' => ∃ v', e = .returned v' ∧ Hid (ES w w' C v' (n' + (lnS (entW ⟨nm, st, pr, so, rs⟩)).length) (l' ++ lnS (entW ⟨nm, st, pr, so, rs⟩)) ∧ w'.heap[p1]? = some (.cells #[.int .i64 op, .int .i64 a, .int .i64 b'] 46))) := fun W q cap hO hW => by
        have hE4 := HE1.out.next hW
        have P4 := (hW.block _ (Array.getElem?_eq_some_iff.1 HP1.out).1).trans HP1.out
        have hll := HLN.out
        have nL := line_v (ewB ⟨nm, st, pr, so, rs⟩) W w.heap.size _ n' l' hE4.own hE4.bel.size X1.heap.size q cap hO (by unfold ewB; rw [dl_bk]; have hq := hn'.out; omega) ewl ews
        have e5 : dl (ewB ⟨nm, st, pr, so, rs⟩) = entW ⟨nm, st, pr, so, rs⟩ := dl_bk _
        rw [e5] at nL
        exact nL.mono fun e w' ⟨v', h1, h2⟩ => ⟨v', h1, hE4.grew h2.out, (h2.out.kept hE4.own (t := 46) (k := 3) ⟨_, P4, Nat.le_refl _⟩ (by decide)).trans P4⟩
      have HLN2 : Hid (l'.length + ((lnS (entW ⟨nm, st, pr, so, rs⟩)).length + (2 + (lnS (insW (op, a, b'))).length)) ≤ 400000000) := HLN
      generalize lnS (entW ⟨nm, st, pr, so, rs⟩) = eln at *
      generalize (ewB ⟨nm, st, pr, so, rs⟩).length = ewn at *
      clear hA hst HAt ews hzE HRw HLN
      go_upto_region 15 with fail
      go_wp2_with fail
      refine ne.mono ?_
      rintro e W4 ⟨q4, c4, rfl, hw4⟩
      have nL := HLL.out W4 q4 c4 hw4.out.1 hw4.out.2
      clear ne HLL hw4
      go_wp2_with fail
      refine nL.mono ?_
      rintro e W5 ⟨v5, rfl, hw5⟩
      obtain ⟨q5, c5, rfl, -, -⟩ := own_slice hw5.out.1.own
      have HE5 : Hid (ES w W5 C (.slice q5 (n' + eln.length) c5) (n' + eln.length) (l' ++ eln)) := hw5.out.1
      have HP5 : Hid (W5.heap[p1]? = some (.cells #[.int .i64 op, .int .i64 a, .int .i64 b'] 46)) := hw5.out.2
      have HLN' : Hid ((l' ++ eln).length + (2 + (lnS (insW (op, a, b'))).length) ≤ 400000000) := by have := HLN2.out; show _ ≤ _; rw [List.length_append]; omega
      have HBd' : Hid ((l' ++ eln) ++ ([32, 32] ++ (lnS (insW (op, a, b')) ++ bodyS c.ens (k + 1) (j + 1) (c.ins.drop (j + 1)))) = PR) := by
        show _ = _
        rw [← hl'.out, HBd.out]
        simp
      have hnx : n' + eln.length = (l' ++ eln).length := by rw [List.length_append, hn'.out]
      clear HBd hl' nL hw5 HLN2 hn'
      generalize hll2 : l' ++ eln = l2 at *
      generalize hnn2 : n' + eln.length = n2 at *
      clear hll2 hnn2
      have hn' : Hid (n2 = l2.length) := hnx
      clear hnx
      go_upto_region 17 with fail
      have hbn : n2 ≤ 400000000 := by have := HLN'.out; have hq := hn'.out; omega
      have bd : Below W5.heap.size W5 W5.drew := (Below.refl _ W5).drew
      have hEd := HE5.out.next bd
      have PDd := (bd.block _ (Array.getElem?_eq_some_iff.1 HP5.out).1).trans HP5.out
      obtain ⟨c0, -⟩ := blk_cell HP5.out 0 (.int .i64 op) rfl
      obtain ⟨c1, -⟩ := blk_cell HP5.out 1 (.int .i64 a) rfl
      obtain ⟨c2, -⟩ := blk_cell HP5.out 2 (.int .i64 b') rfl
      obtain ⟨va, wa, hra, Ga⟩ := appS_any W5.drew w.heap.size _ n2 l2 ⟨#[32, 32]⟩ hEd.own (by show n2 + 2 ≤ _; omega) hEd.bel.size
      obtain ⟨qa, ca, rfl, -, -⟩ := own_slice Ga.own
      have Ea := hEd.grew Ga
      have Pa := (Ga.kept hEd.own (t := 46) (k := 3) ⟨_, PDd, Nat.le_refl _⟩ (by decide)).trans PDd
      obtain ⟨ca0, -⟩ := blk_cell Pa 0 (.int .i64 op) rfl
      obtain ⟨ca1, -⟩ := blk_cell Pa 1 (.int .i64 a) rfl
      obtain ⟨ca2, -⟩ := blk_cell Pa 2 (.int .i64 b') rfl
      have nIa := instrWords_v op a b' wa hok (HSZ.out wa Ea.bel).2
      have nIb := instrWords_v op a b' W5.drew hok (HSZ.out _ hEd.bel).2
      have HLNa : Hid (∀ W q cap, W.ownsRow wa.heap.size 9 1 (.slice q (iwB (op, a, b')).length cap) (iwB (op, a, b')).length (tv (iwB (op, a, b'))) ∧ Below wa.heap.size wa W → Calls Tryz.prog 28 #[.slice qa (n2 + 2) ca, .slice q (iwB (op, a, b')).length cap] W fun e w' => ∃ v', e = .returned v' ∧ (∃ q5 c5, v' = .slice q5 (n2 + 2 + (lnS (insW (op, a, b'))).length) c5 ∧ Hid (ES w w' C (.slice q5 (n2 + 2 + (lnS (insW (op, a, b'))).length) c5) (n2 + 2 + (lnS (insW (op, a, b'))).length) (l2 ++ [32, 32] ++ lnS (insW (op, a, b')))))) := fun W q cap ⟨hO, hW⟩ => by
        have hE4 := Ea.next hW
        have nL := line_v (iwB (op, a, b')) W w.heap.size _ (n2 + 2) (l2 ++ [32, 32]) hE4.own hE4.bel.size wa.heap.size q cap hO (by unfold iwB; rw [dl_bk]; have := HLN'.out; have hq := hn'.out; omega) iwl iws
        have e5 : dl (iwB (op, a, b')) = insW (op, a, b') := dl_bk _
        rw [e5] at nL
        refine nL.mono fun e w' ⟨v', h1, h2⟩ => ?_
        obtain ⟨q5, c5, rfl, -, -⟩ := own_slice h2.out.own
        exact ⟨_, h1, q5, c5, rfl, hE4.grew h2.out⟩
      have HIWb : Hid (∀ W q cap, W.ownsRow W5.drew.heap.size 9 1 (.slice q (iwB (op, a, b')).length cap) (iwB (op, a, b')).length (tv (iwB (op, a, b'))) ∧ Below W5.drew.heap.size W5.drew W → ∃ q7 c7 w7, (Builtin.append_ #[52, 9] 52 #[.slice q5 n2 c5, .string ⟨#[32, 32]⟩]).run Tryz.prog W = .ok (.slice q7 (n2 + 2) c7) w7 ∧ Calls Tryz.prog 28 #[.slice q7 (n2 + 2) c7, .slice q (iwB (op, a, b')).length cap] w7 fun e w' => ∃ v', e = .returned v' ∧ (∃ q5 c5, v' = .slice q5 (n2 + 2 + (lnS (insW (op, a, b'))).length) c5 ∧ Hid (ES w w' C (.slice q5 (n2 + 2 + (lnS (insW (op, a, b'))).length) c5) (n2 + 2 + (lnS (insW (op, a, b'))).length) (l2 ++ [32, 32] ++ lnS (insW (op, a, b')))))) := fun W q cap ⟨hO, hW⟩ => by
        have hE6 := hEd.next hW
        obtain ⟨v7, w7, hr7, G7⟩ := appS_any W w.heap.size _ n2 l2 ⟨#[32, 32]⟩ hE6.own (by show n2 + 2 ≤ _; omega) hE6.bel.size
        obtain ⟨q7, c7, rfl, -, -⟩ := own_slice G7.own
        have hO7 := own_same hO (w' := w7) fun g hg => G7.kept hE6.own (own_blk hO g hg) (by decide)
        have E7 := hE6.grew G7
        have nL := line_v (iwB (op, a, b')) w7 w.heap.size _ (n2 + 2) (l2 ++ [32, 32]) E7.own E7.bel.size _ q cap hO7 (by unfold iwB; rw [dl_bk]; have := HLN'.out; have hq := hn'.out; omega) iwl iws
        have e5 : dl (iwB (op, a, b')) = insW (op, a, b') := dl_bk _
        rw [e5] at nL
        refine ⟨q7, c7, w7, hr7, nL.mono fun e w' ⟨v', h1, h2⟩ => ?_⟩
        obtain ⟨q5, c5, rfl, -, -⟩ := own_slice h2.out.own
        exact ⟨_, h1, q5, c5, rfl, E7.grew h2.out⟩
      have hra' : (Builtin.append_ #[52, 9] 52 #[.slice q5 n2 c5, .string ⟨#[32, 32]⟩]).run Tryz.prog W5.drew = .ok (.slice qa (n2 + 2) ca) wa := hra
      clear hra Ga Ea Pa PDd hEd bd
      generalize (iwB (op, a, b')).length = iwn at *
      go_wp2_with fail
      go_region_law (first
        | (have hz := ok2a; refine step_call (by rfl) 28 [.tmp 68, .tmp 70] #[52, 24] [.slice qa (n2 + 2) ca, .slice q6 iwn cp6] (by rfl) (by rfl) (callL _ _) _ ok2a ?_; rintro v9 W9 ⟨q9, c9, rfl, hE9⟩)
        | (have hz := ok2b; refine step_call (by rfl) 28 [.tmp 68, .tmp 70] #[52, 24] [.slice q7 (n2 + 2) c7, .slice q6 iwn cp6] (by rfl) (by rfl) (callL _ _) _ ok2b ?_; rintro v9 W9 ⟨q9, c9, rfl, hE9⟩)
        | (have hz := ap1; refine step_call (by rfl) 32 [.tmp 69] #[46] [.agg #[.int .i64 op, .int .i64 a, .int .i64 b']] (by rfl) (by rfl) (callI _) _ nIa ?_; rintro v6 W6 ⟨q6, cp6, rfl, hw6⟩; have ok2a := HLNa.out W6 q6 cp6 hw6.out)
        | (have hz := iw1; obtain ⟨q7, c7, w7, hr7, ok2b⟩ := HIWb.out W6 q6 cp6 iw1.out; refine step_run (by rfl) _ _ _ _ 52 (by rfl) (by rfl) _ _ (by rfl) (by rfl) hr7 ?_)
        | (refine step_call (by rfl) 32 [.tmp 69] #[46] [.agg #[.int .i64 op, .int .i64 a, .int .i64 b']] (by rfl) (by rfl) (callI _) _ nIb ?_; rintro v6 W6 ⟨q6, cp6, rfl, iw1⟩)
        | (refine step_run (by rfl) _ _ _ _ 52 (by rfl) (by rfl) _ _ (by rfl) (by rfl) hra' ?_; have ap1 : True := trivial))
      all_goals
        have HE9 : Hid (ES w W9 C (.slice q9 (n2 + 2 + (lnS (insW (op, a, b'))).length) c9) (n2 + 2 + (lnS (insW (op, a, b'))).length) (l2 ++ [32, 32] ++ lnS (insW (op, a, b')))) := hE9
        clear hE9 HLNa HIWb nIa nIb hra'
        go_wp2
        exact ⟨⟨j + 1, (k + 1), _, _, by omega, by omega, by go_num, by go_num, by show _ = _; rw [← HBd'.out]; simp, HE9⟩, by simp [intOf]; omega⟩
end Go.Proofs.YtchinflkjcebjabGreatDoor
