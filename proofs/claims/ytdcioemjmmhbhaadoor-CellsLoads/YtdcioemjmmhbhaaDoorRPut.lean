import Derived.Test.YtdcioemjmmhbhaaDoorRMk
import Derived.Test.YtdcioemjmmhbhaaDoorBook
namespace Go.Proofs.YtdcioemjmmhbhaaDoor
open Go.RowKit

/-- One put more in the reference's list. -/
theorem RHeap.growP {w0 wE : World} {p lim : Nat} {Md : List Mr} {Ps : List Dn} {mv pv v' : Value} {F : Nat → Prop} {o : Obj} (h : RHeap w0 p lim Md Ps mv pv F) (d : Dn) (ho : wE.ownsRow 0 106 5 v' (Ps.length + 1) (Ps.flatMap dc ++ dc d)) (hg : (w0.alloc o).grownBy wE pv.ownBlock) :
    (wE.cell? ⟨p, 2, none⟩ = some pv ∧ wE.frozen? ⟨p, 2, none⟩ = false) ∧ RHeap (wE.setCell ⟨p, 2, none⟩ v') p lim Md (Ps ++ [d]) mv v' (fun b => F b ∨ v'.ownBlock = some b) ∧ Kp F w0 (wE.setCell ⟨p, 2, none⟩ v') := by
  have hb : ∀ g, g < w0.heap.size → pv.ownBlock ≠ some g → wE.heap[g]? = w0.heap[g]? := fun g hg' hne => (hg.block g (by simp; omega) (fun e => hne e.symm)).trans (Below.heap_alloc _ _ _ hg')
  have hsz : w0.heap.size ≤ wE.heap.size := Nat.le_trans (by simp) hg.size
  have hp : wE.heap[p]? = w0.heap[p]? := hb p h.blk.lt (own_ne h.ps h.blk (by decide))
  have hbk := h.blk.same hp
  have hvp : v'.ownBlock ≠ some p := own_ne ho hbk (by decide)
  have hms : wE.ownsRow 0 108 2 mv Md.length (Md.flatMap mc) := own_same h.md fun g hg' => hb g (h.md.lt g hg').2 (fun e => own_ne h.ps (own_blk h.md g hg') (by decide) e)
  have hmp : mv.ownBlock ≠ some p := own_ne hms hbk (by decide)
  have c2' := (World.cell?_of_block (w := w0) (a := ⟨p, 2, none⟩) hp).trans h.c2
  have hcs : ∀ o, o ≠ 2 → (wE.setCell ⟨p, 2, none⟩ v').cell? ⟨p, o, none⟩ = wE.cell? ⟨p, o, none⟩ := fun o ho' => World.cell?_setCell_other _ _ _ _ (fun e => ho' (by cases e; rfl))
  have hs : ∀ k, k ≠ p → (wE.setCell ⟨p, 2, none⟩ v').heap[k]? = wE.heap[k]? := fun k hk => set_heap (a := ⟨p, 2, none⟩) hk
  refine ⟨⟨c2', hbk.unfrozen 2⟩, ?_, ?_⟩
  · exact {
      blk := hbk.setCell _ _
      c0 := (hcs 0 (by decide)).trans ((World.cell?_of_block (w := w0) (a := ⟨p, 0, none⟩) hp).trans h.c0)
      c1 := (hcs 1 (by decide)).trans ((World.cell?_of_block (w := w0) (a := ⟨p, 1, none⟩) hp).trans h.c1)
      c2 := World.cell?_setCell_same' _ _ _ (by rw [c2']; rfl)
      md := own_same hms fun g hg' => hs g (fun e => hmp (e ▸ hg'))
      ps := by
        rw [List.length_append, List.flatMap_append, show [d].flatMap dc = dc d by simp]
        exact own_same ho fun g hg' => hs g (fun e => hvp (e ▸ hg'))
      fp := .inl h.fp
      fm := fun g hg' => .inl (h.fm g hg')
      fs := fun g hg' => .inr hg'
      flt := fun g hg' => by
        rw [set_size]
        rcases hg' with q | q
        · exact Nat.lt_of_lt_of_le (h.flt g q) hsz
        · exact (ho.lt g q).2
      top := h.top
      le := h.le
      ok := h.ok }
  · exact (((Kp.refl F w0).alloc o).grown hg (fun k e => .inl (h.fs k e))).setCell (p := ⟨p, 2, none⟩) (.inl h.fp) v'

theorem step_appD {P : Program} (t e : TypeId) (z : Value) (size bytes : Nat) (ht : P.underlying t = some (.slice e)) (hinf : (P.info? e).map (fun i => (i.zero, i.size, i.bytes)) = some (some z, size, bytes)) (hzs : z.cells.size = size) (hsz : 0 < size)
    {w : World} {ops : Array Oper} {o : Oper} {a : Act} {K : Act → World → Prop} {Q : Exit → Act → World → Prop} {E : Prop} (hgd : o.guard = none) (s x : Operand)
    (ho : o.op = .call { callee := .builtin .append, args := #[s, x], argTypes := #[t, t] })
    (base : Nat) (v : Value) (n : Nat) (xs : List Value) (hs : a.eval s = v) (hown : w.ownsRow base e size v n xs) (g : Nat) (C : List Value) (hC : C.length = size) (h1 : ∀ u ∈ C, u.oneCell' = true) (hx : a.eval x = .slice (some ⟨g, 0, none⟩) 1 1)
    (hr : w.rangeAt g 0 C) (h63 : n + 1 ≤ maxLen) (hb : (n + 1) * bytes ≤ 140737488355328) (hbase : base ≤ w.heap.size)
    (h : ∀ v' w', Hid (w'.ownsRow base e size v' (n + 1) (xs ++ C)) → Hid (w.grownBy w' v.ownBlock ∧ (v'.ownBlock = v.ownBlock ∨ v'.ownBlock = some w.heap.size)) → K (a.put o.dst v') w') : if Region.wanted o (yielded ops a.tmps) = true then Oper.wp P o a w K Q else E := by
  have hw : Region.wanted o (yielded ops a.tmps) = true := by simp [Region.wanted, hgd]
  rw [if_pos hw]
  obtain ⟨v', w', hr, h2, h3, h4⟩ := app_at (P := P) (w := w) (base := base) t o.type z bytes ht hinf hzs hsz v n xs hown g C hC h1 hr h63 hb hbase
  unfold Oper.wp execOp
  simp only [ho, resolve, invoke, builtin, Sem.run_bind, Sem.run_pure, Result.andThen_ok, List.map_toArray, List.map_cons, List.map_nil, hs, hx, hr]
  exact h v' w' h2 ⟨h3, h4⟩

theorem get_trap (A : Hp) (v : V) (i : Int) : (getH A v i).2 = (placeH A v i).2 := by
  unfold getH
  split
  · rename_i h; rw [h]
  · rfl
theorem place_yes {A : Hp} {k n : Int} {s : ByteArray} {i : Int} (h : (placeH A (k, n, s) i).2 = 0) : ∃ (j ii : Nat) (a : Int × List V), n = (j : Int) + 1 ∧ i = (ii : Int) ∧ A[j]? = some a ∧ ii < a.2.length ∧ (placeH A (k, n, s) i).1 = a := by
  cases hq : mayS (k, n, s) 4 A.length with
  | false =>
    have hf : findH A (k, n, s) = ((0, []), 7) := by unfold findH; rw [if_pos hq]
    unfold placeH at h
    rw [hf] at h
    simp at h
  | true =>
    obtain ⟨n0, n1⟩ := may4_range hq
    by_cases hn0 : n = 0
    · have hf := findH_zero hq hn0
      unfold placeH at h
      rw [hf] at h
      by_cases hi : i < 0 ∨ (0 : Int) ≤ i
      · simp [hi] at h
      · omega
    · obtain ⟨j, rfl⟩ : ∃ j : Nat, n = (j : Int) + 1 := ⟨(n - 1).toNat, by omega⟩
      have hj : j < A.length := by omega
      have hf := findH_at hq j rfl A[j] (List.getElem?_eq_getElem hj)
      have hp : placeH A (k, (j : Int) + 1, s) i = if i < 0 ∨ (A[j].2.length : Int) ≤ i then ((0, []), 2) else (A[j], 0) := by
        unfold placeH
        rw [hf]
        simp
      rw [hp] at h ⊢
      by_cases hi : i < 0 ∨ (A[j].2.length : Int) ≤ i
      · rw [if_pos hi] at h
        simp at h
      · rw [if_neg hi]
        exact ⟨j, i.toNat, A[j], rfl, by omega, List.getElem?_eq_getElem hj, by omega, rfl⟩

set_option maxRecDepth 100000 in
set_option maxHeartbeats 4000000 in
theorem rput_at {w : World} {p lim N : Nat} {Md : List Mr} {Ps : List Dn} {mv pv : Value} {F : Nat → Prop} {A : Hp} (h : RHeap w p lim Md Ps mv pv F) (hr : RelA Md Ps A) (hN : Ps.length ≤ N) (hNb : N ≤ 2000000000000) (rk rn : Int) (rs : ByteArray) (i : Int) (xk xn : Int) (xs : ByteArray) (hxs : xs.size ≤ 9223372036854775807) :
    Calls Tryd.prog 47 #[.pointer (some ⟨p, 0, none⟩), .agg #[.int .i64 rk, .int .i64 rn, .string rs], .int .i64 i, .agg #[.int .i64 xk, .int .i64 xn, .string xs]] w fun e w' => e = .returned (.int .i64 (putH A (rk, rn, rs) i (xk, xn, xs)).2) ∧ Hid (∃ F', RefOf w' p lim (putH A (rk, rn, rs) i (xk, xn, xs)).1 (N + 1) F' ∧ Kp F w w' ∧ ∀ b, F' b → F b ∨ w.heap.size ≤ b) := by
  have b0 := Box3.new w rk rn rs 37
  have b1 := Box3.new (w.alloc (.cells #[.int .i64 rk, .int .i64 rn, .string rs] 37)) xk xn xs 37
  rw [World.size_alloc] at b1
  replace b0 := b0.alloc (.cells #[.int .i64 xk, .int .i64 xn, .string xs] 37)
  have B0 : Below w.heap.size w ((w.alloc (.cells #[.int .i64 rk, .int .i64 rn, .string rs] 37)).alloc (.cells #[.int .i64 xk, .int .i64 xn, .string xs] 37)) := ((Below.refl _ w).alloc (Nat.le_refl _) _).alloc (by simp) _
  have z0 : w.heap.size + 2 ≤ ((w.alloc (.cells #[.int .i64 rk, .int .i64 rn, .string rs] 37)).alloc (.cells #[.int .i64 xk, .int .i64 xn, .string xs] 37)).heap.size := by simp
  obtain ⟨R0, hR0⟩ : ∃ R0, putH A (rk, rn, rs) i (xk, xn, xs) = R0 := ⟨_, rfl⟩
  have HR0 : Hid (putH A (rk, rn, rs) i (xk, xn, xs) = R0) := hR0
  rw [hR0]
  clear hR0
  have HREF : Hid (∀ Z, Below w.heap.size w Z → ∃ F', RefOf Z p lim A (N + 1) F' ∧ Kp F w Z ∧ ∀ b, F' b → F b ∨ w.heap.size ≤ b) := fun Z hZ => ⟨F, ⟨Md, Ps, mv, pv, h.next hZ, hr, by omega⟩, Kp.of hZ, fun b hb => .inl hb⟩
  go_enter Tryd.func47, Tryd.ntmps47
  go_upto_region 1 with fail
  generalize (w.alloc (.cells #[.int .i64 rk, .int .i64 rn, .string rs] 37)).alloc (.cells #[.int .i64 xk, .int .i64 xn, .string xs] 37) = X at b0 b1 B0 z0 ⊢
  replace h := h.next B0
  obtain ⟨⟨⟨x0, -⟩, ⟨x1, -⟩⟩, x2, -⟩ := id b0
  have hget := rget_any h hr rk rn rs i (by omega)
  have htr := get_trap A (rk, rn, rs) i
  generalize getH A (rk, rn, rs) i = G at hget htr
  obtain ⟨⟨gk, gn, gs⟩, gt⟩ := G
  simp only at htr
  rw [show (vc (gk, gn, gs)).toArray = #[.int .i64 gk, .int .i64 gn, .string gs] from rfl] at hget
  subst htr
  go_wp2_with fail
  refine hget.mono ?_
  rintro e w1 ⟨rfl, hb⟩
  have nb : Below w1.heap.size w1 (w1.alloc (.cells #[.int .i64 gk, .int .i64 gn, .string gs] 37)) := (Below.refl _ w1).alloc (Nat.le_refl _) _
  have hb2 := below2 hb nb
  replace h := h.next hb2
  replace b0 := b0.below hb2 (by omega)
  replace b1 := b1.below hb2 (by omega)
  replace B0 := below2 B0 hb2
  have z1 : w.heap.size + 2 ≤ (w1.alloc (.cells #[.int .i64 gk, .int .i64 gn, .string gs] 37)).heap.size := Nat.le_trans z0 hb2.size
  clear hget x0 x1 x2 hb hb2 nb z0
  by_cases ht : (placeH A (rk, rn, rs) i).2 = 0
  case neg =>
    have ht' : ((placeH A (rk, rn, rs) i).2 != 0) = true := by simpa using ht
    have HR : Hid (R0 = (A, (placeH A (rk, rn, rs) i).2)) := HR0.out.symm.trans (by unfold putH; rw [if_neg ht])
    clear HR0 h
    generalize (placeH A (rk, rn, rs) i).2 = tt at *
    go_wp2
    go_ret
    exact ⟨by rw [HR.out]; rfl, by rw [HR.out]; exact HREF.out _ B0⟩
  obtain ⟨j, ii, a, rfl, rfl, ha, hii, hpa⟩ := place_yes ht
  have hHR := HR0.out
  unfold putH at hHR
  rw [if_pos ht, hpa] at hHR
  have hjA : j < A.length := (List.getElem?_eq_some_iff.1 ha).1
  have hj : j < Md.length := by rw [← hr.len]; exact hjA
  have hkd := (hr.at' j a Md[j] ha (List.getElem?_eq_getElem hj)).1
  have hok := h.ok Md[j] (List.getElem_mem hj)
  rw [hkd] at hok
  rw [ht]
  go_upto_region 4 with fail
  generalize w1.alloc (.cells #[.int .i64 gk, .int .i64 gn, .string gs] 37) = X2 at h b0 b1 B0 z1 ⊢
  obtain ⟨⟨⟨x0, -⟩, ⟨x1, -⟩⟩, x2, -⟩ := id b0
  obtain ⟨⟨⟨v0, -⟩, ⟨v1, -⟩⟩, v2, -⟩ := id b1
  obtain ⟨mq, mcp, rfl, hmat⟩ := h.mdAt
  obtain ⟨mg, rfl, m0, m1⟩ := hmat j hj
  rw [hkd] at m0
  have c1 := h.c1
  have c56 : ∀ d os, Calls Tryd.prog 56 #[.pointer (some ⟨p, 0, none⟩), .int .i64 a.1, .agg #[.int .i64 xk, .int .i64 xn, .string xs]] (Sort.grow (redrawn X2 d) os) fun e w'' => e = .returned (.bool (mayS (xk, xn, xs) a.1 A.length)) ∧ ∃ z : Regrown, w'' = Sort.grow (redrawn X2 z.d) z.os := fun d os => by
    have := rmay_any (h.next (below_regrown X2 d os)) a.1 xk xn xs hok hxs
    rw [← hr.len] at this
    exact Calls.regrown_of this
  have k1 := cell_regrown c1
  have k2 := cell_regrown x1
  have k3 := cell_regrown m0
  have k4 := cell_regrown v0
  have k5 := cell_regrown v1
  have k6 := cell_regrown v2
  have i1 : IntKind.i64.wrap ((j : Int) + 1 - 1) = (j : Int) := by rw [IntKind.wrap_i64]; have := h.len.1; omega
  have i1' : IntKind.i64.wrap (j : Int) = (j : Int) := by rw [IntKind.wrap_i64]; have := h.len.1; omega
  have j0 : (0 : Int) ≤ (j : Int) := by omega
  have j1 : (j : Int) < (Md.length : Int) := by omega
  clear ht hpa hmat m1
  have HJ : Hid (A[j]? = some a ∧ ii < a.2.length ∧ j < Md.length) := ⟨ha, hii, hj⟩
  clear ha hii
  generalize mayS (xk, xn, xs) a.1 A.length = mb at c56 hHR
  generalize a.1 = ak at c56 m0 k3
  have HHR : Hid ((if mb = false then (A, (7 : Int)) else (A.modify (((j : Int) + 1).toNat - 1) fun a => (a.1, a.2.set (ii : Int).toNat (xk, xn, xs)), 0)) = R0) := hHR
  clear hHR HR0 hkd hok
  go_wp2_with fail
  refine wp_region_quiet_below (by kernel_rfl) (by kernel_rfl) ?_
  repeat (first | go_big_quiet_step (first | with_reducible exact c56 _ _) | quiet_step (first | with_reducible exact c56 _ _))
  refine wpQuiet_nil ?_
  intro _ hw'
  obtain ⟨⟨dq, osq⟩, hw''⟩ := hw'
  subst hw''
  have hY := below_regrown X2 dq osq
  change Exit.then _ _ Exit.normal _ (Sort.grow (redrawn X2 dq) osq)
  generalize Sort.grow (redrawn X2 dq) osq = Y at hY ⊢
  clear c56
  clear k1 k2 k3 k4 k5 k6 x0 x1 x2 v0 v1 v2 c1 m0 i1 i1' j0 j1
  have B2 := below2 B0 hY
  cases mb with
  | false =>
    have HR : Hid (R0 = (A, 7)) := HHR.out.symm
    go_wp2
    go_ret
    exact ⟨by rw [HR.out]; rfl, by rw [HR.out]; exact HREF.out _ B2⟩
  | true =>
  have HR : Hid (R0 = (A.modify j fun a => (a.1, a.2.set ii (xk, xn, xs)), 0)) := by
    have e := HHR.out.symm
    rw [if_neg (by decide), show ((j : Int) + 1).toNat - 1 = j by omega, Int.toNat_natCast] at e
    exact e
  clear HHR HREF
  replace h := h.next hY
  have b2 := b0.below hY (by omega)
  have b3 := b1.below hY (by omega)
  have z2 : w.heap.size + 2 ≤ Y.heap.size := Nat.le_trans z1 hY.size
  have HPP : Hid (Ps.length ≤ N ∧ N ≤ 2000000000000) := ⟨hN, hNb⟩
  clear b0 b1 B0 hY z1
  obtain ⟨⟨⟨x0, -⟩, ⟨x1, -⟩⟩, x2, -⟩ := id b2
  obtain ⟨⟨⟨v0, -⟩, ⟨v1, -⟩⟩, v2, -⟩ := id b3
  obtain ⟨pq, pcp, rfl, -⟩ := h.psAt
  have c2 := h.c2
  have HZD : Below Y.heap.size Y Y.drew := (Below.refl _ _).drew
  have hD := h.next HZD
  have c2a : (Y.alloc (.cells #[.int .i64 ((j : Int) + 1), .int .i64 (ii : Int), .int .i64 xk, .int .i64 xn, .string xs] 106)).cell? ⟨p, 2, none⟩ = some (.slice pq Ps.length pcp) := (h.next ((Below.refl _ Y).alloc (Nat.le_refl _) _)).c2
  have HOW : Hid ((Y.drew.alloc (.cells #[.int .i64 ((j : Int) + 1), .int .i64 (ii : Int), .int .i64 xk, .int .i64 xn, .string xs] 106)).ownsRow 0 106 5 (.slice pq Ps.length pcp) Ps.length (Ps.flatMap dc) ∧ (Y.drew.alloc (.cells #[.int .i64 ((j : Int) + 1), .int .i64 (ii : Int), .int .i64 xk, .int .i64 xn, .string xs] 106)).rangeAt Y.heap.size 0 [.int .i64 ((j : Int) + 1), .int .i64 (ii : Int), .int .i64 xk, .int .i64 xn, .string xs]) := by
    refine ⟨hD.ps.alloc _, fun j' u hu => ?_⟩
    rw [Nat.zero_add]
    have e := World.alloc_heap_new Y.drew (.cells #[.int .i64 ((j : Int) + 1), .int .i64 (ii : Int), .int .i64 xk, .int .i64 xn, .string xs] 106)
    have e2 : (Y.drew.alloc (.cells #[.int .i64 ((j : Int) + 1), .int .i64 (ii : Int), .int .i64 xk, .int .i64 xn, .string xs] 106)).heap[Y.heap.size]? = some (.cells #[.int .i64 ((j : Int) + 1), .int .i64 (ii : Int), .int .i64 xk, .int .i64 xn, .string xs] 106) := e
    simp only [World.cell?, e2]
    simpa using hu
  have HO2 : Hid (∀ u ∈ ([.int .i64 ((j : Int) + 1), .int .i64 (ii : Int), .int .i64 xk, .int .i64 xn, .string xs] : List Value), u.oneCell' = true) := fun u hu => by
    simp only [List.mem_cons, List.not_mem_nil, or_false] at hu
    rcases hu with rfl | rfl | rfl | rfl | rfl <;> rfl
  have hdc : dc (j + 1, ii, (xk, xn, xs)) = [.int .i64 ((j : Int) + 1), .int .i64 (ii : Int), .int .i64 xk, .int .i64 xn, .string xs] := by simp [dc]
  have HFIN : Hid (∀ v5 w5, Hid (w5.ownsRow 0 106 5 v5 (Ps.length + 1) (Ps.flatMap dc ++ [.int .i64 ((j : Int) + 1), .int .i64 (ii : Int), .int .i64 xk, .int .i64 xn, .string xs])) → Hid ((Y.drew.alloc (.cells #[.int .i64 ((j : Int) + 1), .int .i64 (ii : Int), .int .i64 xk, .int .i64 xn, .string xs] 106)).grownBy w5 (Value.slice pq Ps.length pcp).ownBlock ∧ (v5.ownBlock = (Value.slice pq Ps.length pcp).ownBlock ∨ v5.ownBlock = some (Y.drew.alloc (.cells #[.int .i64 ((j : Int) + 1), .int .i64 (ii : Int), .int .i64 xk, .int .i64 xn, .string xs] 106)).heap.size)) →
      (w5.cell? ⟨p, 2, none⟩ = some (.slice pq Ps.length pcp) ∧ w5.frozen? ⟨p, 2, none⟩ = false) ∧ Hid (∃ F', RefOf (w5.setCell ⟨p, 2, none⟩ v5) p lim (A.modify j fun a => (a.1, a.2.set ii (xk, xn, xs))) (N + 1) F' ∧ Kp F w (w5.setCell ⟨p, 2, none⟩ v5) ∧ ∀ b, F' b → F b ∨ w.heap.size ≤ b)) := fun v5 w5 ho5 hg5 => by
    have ho5' := ho5.out
    rw [← hdc] at ho5'
    obtain ⟨q1, q2, q3⟩ := hD.growP (j + 1, ii, (xk, xn, xs)) ho5' hg5.out.1
    refine ⟨q1, _, ⟨Md, _, _, _, q2, ?_, ?_⟩, ?_, fun b hb => ?_⟩
    · have := hr.put (j + 1) ii (xk, xn, xs) ⟨by omega, HJ.out.2.2⟩
      rw [Nat.add_sub_cancel] at this
      exact this
    · rw [List.length_append]
      have := HPP.out.1
      show Ps.length + 1 ≤ N + 1
      omega
    · exact (Kp.of (F := F) (below2 B2 HZD)).trans q3 (fun i hi e => e)
    · rcases hb with q | q
      · exact .inl q
      · rcases hg5.out.2 with r | r
        · exact .inl (hD.fs b (r ▸ q))
        · rw [r] at q
          cases q
          exact .inr (by simp; omega)
  have hb48 : Ps.length + 1 ≤ maxLen ∧ (Ps.length + 1) * 48 ≤ 140737488355328 := by have := HPP.out; unfold maxLen; omega
  clear h hD hdc b2 b3
  go_wp2_with fail
  go_region_law (first
    | (refine step_appD 66 106 _ 5 48 Tryd.underlying66 info106 (by rfl) (by decide) (by rfl) _ _ (by rfl) 0 _ Ps.length (Ps.flatMap dc) (by rfl) HOW.out.1 Y.heap.size [.int .i64 ((j : Int) + 1), .int .i64 (ii : Int), .int .i64 xk, .int .i64 xn, .string xs] (by rfl) HO2.out (by rfl) HOW.out.2 hb48.1 hb48.2 (Nat.zero_le _) ?_; intro v5 w5 ho5 hg5; obtain ⟨q5, c5, rfl, -, -⟩ := own_slice ho5.out; obtain ⟨⟨d3, e3⟩, HTW⟩ := HFIN.out _ w5 ho5 hg5))
  all_goals
    clear HFIN HOW ho5 hg5 x0 x1 x2 v0 v1 v2 c2 c2a d3 e3
    generalize w5.setCell ⟨p, 2, none⟩ (.slice q5 (Ps.length + 1) c5) = Z at HTW ⊢
    go_wp2
    go_ret
    exact ⟨by rw [HR.out]; rfl, by rw [HR.out]; exact HTW⟩

theorem rput_any {w : World} {p lim N : Nat} {A : Hp} {F : Nat → Prop} (h : RefOf w p lim A N F) (hNb : N ≤ 2000000000000) (v : V) (i : Int) (x : V) (hxs : x.2.2.size ≤ 9223372036854775807) :
    Calls Tryd.prog 47 #[.pointer (some ⟨p, 0, none⟩), .agg #[.int .i64 v.1, .int .i64 v.2.1, .string v.2.2], .int .i64 i, .agg #[.int .i64 x.1, .int .i64 x.2.1, .string x.2.2]] w fun e w' => e = .returned (.int .i64 (putH A v i x).2) ∧ Hid (∃ F', RefOf w' p lim (putH A v i x).1 (N + 1) F' ∧ Kp F w w' ∧ ∀ b, F' b → F b ∨ w.heap.size ≤ b) := by
  obtain ⟨Md, Ps, mv, pv, h1, h2, h3⟩ := h
  exact rput_at h1 h2 h3 hNb v.1 v.2.1 v.2.2 i x.1 x.2.1 x.2.2 hxs
theorem rgetA_any {w : World} {p lim N : Nat} {A : Hp} {F : Nat → Prop} (h : RefOf w p lim A N F) (hNb : N ≤ 2000000000000) (v : V) (i : Int) :
    Calls Tryd.prog 50 #[.pointer (some ⟨p, 0, none⟩), .agg #[.int .i64 v.1, .int .i64 v.2.1, .string v.2.2], .int .i64 i] w fun e w' => e = .returned (.tuple #[.agg (vc (getH A v i).1).toArray, .int .i64 (getH A v i).2]) ∧ Below w.heap.size w w' := by
  obtain ⟨Md, Ps, mv, pv, h1, h2, h3⟩ := h
  exact rget_any h1 h2 v.1 v.2.1 v.2.2 i (by omega)
theorem rusedA_any {w : World} {p lim N : Nat} {A : Hp} {F : Nat → Prop} (h : RefOf w p lim A N F) :
    Calls Tryd.prog 25 #[.pointer (some ⟨p, 0, none⟩)] w fun e w' => e = .returned (.int .i64 ((usedS A : Nat) : Int)) ∧ w' = w := by
  obtain ⟨Md, Ps, mv, pv, h1, h2, h3⟩ := h
  rw [← h2.used]
  exact rused_any h1
end Go.Proofs.YtdcioemjmmhbhaaDoor
