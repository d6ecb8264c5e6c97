import Derived.Test.YtdcioemjmmhbhaaDoorRGt
import Derived.Test.YtdcioemjmmhbhaaDoorMake
namespace Go.Proofs.YtdcioemjmmhbhaaDoor
open Go.RowKit

theorem info108 : (Tryd.prog.info? 108).map (fun i => (i.zero, i.size, i.bytes)) = some (some (.agg #[.int .i64 0, .int .i64 0]), 2, 16) := by kernel_rfl
theorem info106 : (Tryd.prog.info? 106).map (fun i => (i.zero, i.size, i.bytes)) = some (some (.agg #[.int .i64 0, .int .i64 0, .int .i64 0, .int .i64 0, .string e0]), 5, 48) := by kernel_rfl

/-- One element more, and where the row lies. -/
theorem app_at {P : Program} {w : World} {base : Nat} {e : TypeId} {size : Nat} (t ty : TypeId) (z : Value) (bytes : Nat) (ht : P.underlying t = some (.slice e)) (hinf : (P.info? e).map (fun i => (i.zero, i.size, i.bytes)) = some (some z, size, bytes)) (hzs : z.cells.size = size) (hsz : 0 < size)
    (v : Value) (n : Nat) (xs : List Value) (hown : w.ownsRow base e size v n xs) (g : Nat) (C : List Value) (hC : C.length = size) (h1 : ∀ u ∈ C, u.oneCell' = true) (hr : w.rangeAt g 0 C) (h63 : n + 1 ≤ maxLen) (hb : (n + 1) * bytes ≤ 140737488355328) (hbase : base ≤ w.heap.size) :
    ∃ v' w', (Builtin.append_ #[t, t] ty #[v, .slice (some ⟨g, 0, none⟩) 1 1]).run P w = .ok v' w' ∧ w'.ownsRow base e size v' (n + 1) (xs ++ C) ∧ w.grownBy w' v.ownBlock ∧ (v'.ownBlock = v.ownBlock ∨ v'.ownBlock = some w.heap.size) := by
  obtain ⟨i, hi, hz0, hz1, hz2⟩ := info_parts hinf
  obtain ⟨v', w', a1, a2, a3, _, a4⟩ := run_append_own_at (P := P) w base t ty e i z size bytes ht hi hz0 hz1 hz2 hzs hsz v n xs hown ⟨g, 0, none⟩ 1 1 C (by rw [Nat.one_mul]; exact hC)
    (fun j u hu => by rw [Addr.add_mid]; exact hr j u hu) h1 h63 hb hbase
  exact ⟨v', w', a1, a2, a3, a4⟩

/-- One array more in the reference's list. -/
theorem RHeap.growM {w0 wE : World} {p lim : Nat} {Md : List Mr} {Ps : List Dn} {mv pv v' : Value} {F : Nat → Prop} {o : Obj} (h : RHeap w0 p lim Md Ps mv pv F) (m : Mr) (ho : wE.ownsRow 0 108 2 v' (Md.length + 1) (Md.flatMap mc ++ mc m)) (hg : (w0.alloc o).grownBy wE mv.ownBlock) (hle : usedM Md + m.2 + 1 ≤ lim) (hk : 1 ≤ m.1 ∧ m.1 ≤ 4) :
    (wE.cell? ⟨p, 1, none⟩ = some mv ∧ wE.frozen? ⟨p, 1, none⟩ = false) ∧ RHeap (wE.setCell ⟨p, 1, none⟩ v') p lim (Md ++ [m]) Ps v' pv (fun b => F b ∨ v'.ownBlock = some b) ∧ Kp F w0 (wE.setCell ⟨p, 1, none⟩ v') := by
  have hb : ∀ g, g < w0.heap.size → mv.ownBlock ≠ some g → wE.heap[g]? = w0.heap[g]? := fun g hg' hne => (hg.block g (by simp; omega) (fun e => hne e.symm)).trans (Below.heap_alloc _ _ _ hg')
  have hsz : w0.heap.size ≤ wE.heap.size := Nat.le_trans (by simp) hg.size
  have hp : wE.heap[p]? = w0.heap[p]? := hb p h.blk.lt (own_ne h.md h.blk (by decide))
  have hbk := h.blk.same hp
  have hvp : v'.ownBlock ≠ some p := own_ne ho hbk (by decide)
  have hps : wE.ownsRow 0 106 5 pv Ps.length (Ps.flatMap dc) := own_same h.ps fun g hg' => hb g (h.ps.lt g hg').2 (fun e => own_ne h.md (own_blk h.ps g hg') (by decide) e)
  have hpp : pv.ownBlock ≠ some p := own_ne hps hbk (by decide)
  have c1' := (World.cell?_of_block (w := w0) (a := ⟨p, 1, none⟩) hp).trans h.c1
  have hcs : ∀ o, o ≠ 1 → (wE.setCell ⟨p, 1, none⟩ v').cell? ⟨p, o, none⟩ = wE.cell? ⟨p, o, none⟩ := fun o ho' => World.cell?_setCell_other _ _ _ _ (fun e => ho' (by cases e; rfl))
  have hs : ∀ k, k ≠ p → (wE.setCell ⟨p, 1, none⟩ v').heap[k]? = wE.heap[k]? := fun k hk => set_heap (a := ⟨p, 1, none⟩) hk
  refine ⟨⟨c1', hbk.unfrozen 1⟩, ?_, ?_⟩
  · exact {
      blk := hbk.setCell _ _
      c0 := (hcs 0 (by decide)).trans ((World.cell?_of_block (w := w0) (a := ⟨p, 0, none⟩) hp).trans h.c0)
      c1 := World.cell?_setCell_same' _ _ _ (by rw [c1']; rfl)
      c2 := (hcs 2 (by decide)).trans ((World.cell?_of_block (w := w0) (a := ⟨p, 2, none⟩) hp).trans h.c2)
      md := by
        rw [List.length_append, List.flatMap_append, show [m].flatMap mc = mc m by simp]
        exact own_same ho fun g hg' => hs g (fun e => hvp (e ▸ hg'))
      ps := own_same hps fun g hg' => hs g (fun e => hpp (e ▸ hg'))
      fp := .inl h.fp
      fm := fun g hg' => .inr hg'
      fs := fun g hg' => .inl (h.fs g hg')
      flt := fun g hg' => by
        rw [set_size]
        rcases hg' with q | q
        · exact Nat.lt_of_lt_of_le (h.flt g q) hsz
        · exact (ho.lt g q).2
      top := h.top
      le := by rw [usedM_app]; simp [usedM]; omega
      ok := fun x hx => by
        rcases List.mem_append.1 hx with q | q
        · exact h.ok x q
        · rw [List.mem_singleton.1 q]; exact hk }
  · exact (((Kp.refl F w0).alloc o).grown hg (fun k e => .inl (h.fm k e))).setCell (p := ⟨p, 1, none⟩) (.inl h.fp) v'

set_option maxRecDepth 100000 in
set_option maxHeartbeats 4000000 in
theorem rmake_at {w : World} {p lim N : Nat} {Md : List Mr} {Ps : List Dn} {mv pv : Value} {F : Nat → Prop} {A : Hp} (h : RHeap w p lim Md Ps mv pv F) (hr : RelA Md Ps A) (hN : Ps.length ≤ N) (kind n : Int) :
    Calls Tryd.prog 45 #[.pointer (some ⟨p, 0, none⟩), .int .i64 kind, .int .i64 n] w fun e w' => e = .returned (.tuple #[.agg (vc (makeH A lim kind n).2.1).toArray, .int .i64 (makeH A lim kind n).2.2]) ∧ Hid (∃ F', RefOf w' p lim (makeH A lim kind n).1 N F' ∧ Kp F w w' ∧ ∀ b, F' b → F b ∨ w.heap.size ≤ b) := by
  have b1 := Box3.new w 0 0 e0 37
  have B0 : Below w.heap.size w (w.alloc (.cells #[.int .i64 0, .int .i64 0, .string e0] 37)) := (Below.refl _ w).alloc (Nat.le_refl _) _
  obtain ⟨R0, hR0⟩ : ∃ R0, makeH A lim kind n = R0 := ⟨_, rfl⟩
  have HR0 : Hid (makeH A lim kind n = R0) := hR0
  rw [hR0]
  clear hR0
  have hbk0 : Blk (w.alloc (.cells #[.int .i64 0, .int .i64 0, .string e0] 37)) w.heap.size 37 3 := Blk.new w _ _ (by decide)
  have hz : w.heap.size < (w.alloc (.cells #[.int .i64 0, .int .i64 0, .string e0] 37)).heap.size := by simp
  have HREF : Hid (∀ Z, Below w.heap.size w Z → ∃ F', RefOf Z p lim A N F' ∧ Kp F w Z ∧ ∀ b, F' b → F b ∨ w.heap.size ≤ b) := fun Z hZ => ⟨F, ⟨Md, Ps, mv, pv, h.next hZ, hr, hN⟩, Kp.of hZ, fun b hb => .inl hb⟩
  have HF : Hid (∀ b, F b → b < w.heap.size) := h.flt
  have hu := hr.used
  have hlim := h.top
  have hle := h.le
  go_enter Tryd.func45, Tryd.ntmps45
  go_upto_region 1 with fail
  generalize w.alloc (.cells #[.int .i64 0, .int .i64 0, .string e0] 37) = X at b1 B0 hbk0 hz ⊢
  replace h := h.next B0
  obtain ⟨⟨⟨y0, g0⟩, ⟨y1, g1⟩⟩, y2, g2⟩ := id b1
  unfold makeH at HR0
  by_cases hk1 : kind < 1
  · have HR : Hid (R0 = (A, zv, 7)) := HR0.out.symm.trans (if_pos (.inl hk1))
    clear HR0 h hu
    go_wp2
    have mm := b1.put 0 0 e0
    have B1 := below_put3 B0 (Nat.le_refl _) 0 0 e0
    change bodyPost Tryd.prog _ _ _ _ (put3 X w.heap.size _ _ _)
    generalize put3 X w.heap.size 0 0 e0 = Z at mm B1 ⊢
    obtain ⟨⟨⟨p0, -⟩, ⟨p1, -⟩⟩, p2, -⟩ := mm
    exact bodyPost_ret (v := .tuple #[.agg #[.int .i64 0, .int .i64 0, .string e0], .int .i64 7]) (by simp [results, Tryd.results45, go_sem, p0, p1, p2]) rfl ⟨by rw [HR.out]; rfl, by rw [HR.out]; exact HREF.out Z B1⟩
  by_cases hk4 : 4 < kind
  · have HR : Hid (R0 = (A, zv, 7)) := HR0.out.symm.trans (if_pos (.inr hk4))
    clear HR0 h hu
    go_wp2
    have mm := b1.put 0 0 e0
    have B1 := below_put3 B0 (Nat.le_refl _) 0 0 e0
    change bodyPost Tryd.prog _ _ _ _ (put3 X w.heap.size _ _ _)
    generalize put3 X w.heap.size 0 0 e0 = Z at mm B1 ⊢
    obtain ⟨⟨⟨p0, -⟩, ⟨p1, -⟩⟩, p2, -⟩ := mm
    exact bodyPost_ret (v := .tuple #[.agg #[.int .i64 0, .int .i64 0, .string e0], .int .i64 7]) (by simp [results, Tryd.results45, go_sem, p0, p1, p2]) rfl ⟨by rw [HR.out]; rfl, by rw [HR.out]; exact HREF.out Z B1⟩
  rw [if_neg (by omega)] at HR0
  by_cases hn0 : n < 0
  · have HR : Hid (R0 = (A, zv, 2)) := HR0.out.symm.trans (if_pos hn0)
    clear HR0 h hu
    go_wp2
    have mm := b1.put 0 0 e0
    have B1 := below_put3 B0 (Nat.le_refl _) 0 0 e0
    change bodyPost Tryd.prog _ _ _ _ (put3 X w.heap.size _ _ _)
    generalize put3 X w.heap.size 0 0 e0 = Z at mm B1 ⊢
    obtain ⟨⟨⟨p0, -⟩, ⟨p1, -⟩⟩, p2, -⟩ := mm
    exact bodyPost_ret (v := .tuple #[.agg #[.int .i64 0, .int .i64 0, .string e0], .int .i64 2]) (by simp [results, Tryd.results45, go_sem, p0, p1, p2]) rfl ⟨by rw [HR.out]; rfl, by rw [HR.out]; exact HREF.out Z B1⟩
  rw [if_neg hn0] at HR0
  by_cases hbig : 100000 < n
  · have HR : Hid (R0 = (A, zv, 4)) := HR0.out.symm.trans (if_pos (by omega))
    have hbig' : decide (100000 < n) = true := decide_eq_true hbig
    clear HR0 h hu
    go_wp2_with fail
    refine wp_region_quiet_below (by kernel_rfl) (by kernel_rfl) ?_
    repeat (first | go_big_quiet_step (first | fail) | quiet_step (first | fail))
    refine wpQuiet_nil ?_
    intro _ hw'
    obtain ⟨⟨dq, osq⟩, hw''⟩ := hw'
    subst hw''
    have hY := below_regrown X dq osq
    change Exit.then _ _ Exit.normal _ (Sort.grow (redrawn X dq) osq)
    generalize Sort.grow (redrawn X dq) osq = Y at hY ⊢
    have b2 := b1.below hY hz
    clear y0 y1 y2 g0 g1 g2
    obtain ⟨⟨⟨y0, g0⟩, ⟨y1, g1⟩⟩, y2, g2⟩ := id b2
    go_wp2
    have mm := b2.put 0 0 e0
    have B1 := below_put3 (below2 B0 hY) (Nat.le_refl _) 0 0 e0
    change bodyPost Tryd.prog _ _ _ _ (put3 Y w.heap.size _ _ _)
    generalize put3 Y w.heap.size 0 0 e0 = Z at mm B1 ⊢
    obtain ⟨⟨⟨p0, -⟩, ⟨p1, -⟩⟩, p2, -⟩ := mm
    exact bodyPost_ret (v := .tuple #[.agg #[.int .i64 0, .int .i64 0, .string e0], .int .i64 4]) (by simp [results, Tryd.results45, go_sem, p0, p1, p2]) rfl ⟨by rw [HR.out]; rfl, by rw [HR.out]; exact HREF.out Z B1⟩
  obtain ⟨nn, rfl⟩ : ∃ nn : Nat, n = (nn : Int) := ⟨n.toNat, by omega⟩
  have hbig' : decide (100000 < (nn : Int)) = false := decide_eq_false hbig
  have c25 : ∀ d os, Calls Tryd.prog 25 #[.pointer (some ⟨p, 0, none⟩)] (Sort.grow (redrawn X d) os) fun e w'' => e = .returned (.int .i64 ((usedM Md : Nat) : Int)) ∧ ∃ z : Regrown, w'' = Sort.grow (redrawn X z.d) z.os := fun d os => (rused_any (h.next (below_regrown X d os))).mono fun e w' ⟨e1, e2⟩ => ⟨e1, ⟨d, os⟩, e2⟩
  have k0 := cell_regrown h.c0
  have i1 : IntKind.i64.wrap (((usedM Md : Nat) : Int) + (nn : Int)) = ((usedM Md : Nat) : Int) + (nn : Int) := by rw [IntKind.wrap_i64]; omega
  have i2 : IntKind.i64.wrap (((usedM Md : Nat) : Int) + (nn : Int) + 1) = ((usedM Md : Nat) : Int) + (nn : Int) + 1 := by rw [IntKind.wrap_i64]; omega
  by_cases hfull : (lim : Int) < ((usedM Md : Nat) : Int) + (nn : Int) + 1
  · have HR : Hid (R0 = (A, zv, 4)) := HR0.out.symm.trans (if_pos (by omega))
    have hfull' : decide ((lim : Int) < ((usedM Md : Nat) : Int) + (nn : Int) + 1) = true := decide_eq_true hfull
    clear HR0 h hu
    go_wp2_with fail
    refine wp_region_quiet_below (by kernel_rfl) (by kernel_rfl) ?_
    repeat (first | go_big_quiet_step (first | with_reducible exact c25 _ _) | quiet_step (first | with_reducible exact c25 _ _))
    refine wpQuiet_nil ?_
    intro _ hw'
    obtain ⟨⟨dq, osq⟩, hw''⟩ := hw'
    subst hw''
    have hY := below_regrown X dq osq
    change Exit.then _ _ Exit.normal _ (Sort.grow (redrawn X dq) osq)
    generalize Sort.grow (redrawn X dq) osq = Y at hY ⊢
    clear c25
    have b2 := b1.below hY hz
    clear y0 y1 y2 g0 g1 g2 k0
    obtain ⟨⟨⟨y0, g0⟩, ⟨y1, g1⟩⟩, y2, g2⟩ := id b2
    go_wp2
    have mm := b2.put 0 0 e0
    have B1 := below_put3 (below2 B0 hY) (Nat.le_refl _) 0 0 e0
    change bodyPost Tryd.prog _ _ _ _ (put3 Y w.heap.size _ _ _)
    generalize put3 Y w.heap.size 0 0 e0 = Z at mm B1 ⊢
    obtain ⟨⟨⟨p0, -⟩, ⟨p1, -⟩⟩, p2, -⟩ := mm
    exact bodyPost_ret (v := .tuple #[.agg #[.int .i64 0, .int .i64 0, .string e0], .int .i64 4]) (by simp [results, Tryd.results45, go_sem, p0, p1, p2]) rfl ⟨by rw [HR.out]; rfl, by rw [HR.out]; exact HREF.out Z B1⟩
  · have HR : Hid (R0 = (A ++ [(kind, List.replicate nn (kind, 0, e0))], (4, (A.length : Int) + 1, e0), 0)) := by
      have e := HR0.out.symm.trans (if_neg (by omega))
      rw [Int.toNat_natCast] at e
      exact e
    have hfull' : decide ((lim : Int) < ((usedM Md : Nat) : Int) + (nn : Int) + 1) = false := decide_eq_false hfull
    clear HR0 HREF
    go_wp2_with fail
    refine wp_region_quiet_below (by kernel_rfl) (by kernel_rfl) ?_
    repeat (first | go_big_quiet_step (first | with_reducible exact c25 _ _) | quiet_step (first | with_reducible exact c25 _ _))
    refine wpQuiet_nil ?_
    intro _ hw'
    obtain ⟨⟨dq, osq⟩, hw''⟩ := hw'
    subst hw''
    have hY := below_regrown X dq osq
    change Exit.then _ _ Exit.normal _ (Sort.grow (redrawn X dq) osq)
    generalize Sort.grow (redrawn X dq) osq = Y at hY ⊢
    clear c25
    have b2 := b1.below hY hz
    have hY2 := hbk0.next hY
    have B2 := below2 B0 hY
    have hzY : w.heap.size < Y.heap.size := Nat.lt_of_lt_of_le hz hY.size
    replace h := h.next hY
    clear y0 y1 y2 g0 g1 g2 k0 hbk0 hz hY B0 b1
    have hc1 := h.c1
    obtain ⟨mq, mcp, rfl, -⟩ := h.mdAt
    obtain ⟨v', wE, hrun, ho, hg, hbl⟩ := app_at (P := Tryd.prog) (w := Y.alloc (.cells #[.int .i64 kind, .int .i64 (nn : Int)] 108)) (base := 0) 65 65 _ 16 Tryd.underlying65 info108 rfl (by decide) (.slice mq Md.length mcp) Md.length (Md.flatMap mc) (h.md.alloc _) Y.heap.size (mc (kind, nn)) rfl (fun u hu => by
      simp only [mc, List.mem_cons, List.not_mem_nil, or_false] at hu
      rcases hu with rfl | rfl <;> rfl) (fun j u hj => by
      have e := World.alloc_heap_new Y (.cells #[.int .i64 kind, .int .i64 (nn : Int)] 108)
      rw [Nat.zero_add]
      simp only [World.cell?, e]
      simpa [mc] using hj) (by have := h.len.1; unfold maxLen; omega) (by have := h.len.1; omega) (Nat.zero_le _)
    obtain ⟨⟨d1, e1⟩, hNew, hKp⟩ := h.growM (kind, nn) ho hg (by show usedM Md + nn + 1 ≤ lim; omega) ⟨by omega, by omega⟩
    have b3 : Box3 wE w.heap.size 0 0 e0 := b2.same ((hg.block _ (by simp; omega) (fun e => own_ne h.md hY2 (by decide) e.symm)).trans (Below.heap_alloc _ _ _ hzY))
    have b4 := b3.set ⟨p, 1, none⟩ v' (h.blk.ne hY2 (by decide))
    obtain ⟨oq, ocp, rfl, -, -⟩ := own_slice ho
    have d1' := hNew.c1
    have HNEW : Hid (RHeap (wE.setCell ⟨p, 1, none⟩ (.slice oq (Md.length + 1) ocp)) p lim (Md ++ [(kind, nn)]) Ps (.slice oq (Md.length + 1) ocp) pv (fun b => F b ∨ (Value.slice oq (Md.length + 1) ocp).ownBlock = some b) ∧ Kp F Y (wE.setCell ⟨p, 1, none⟩ (.slice oq (Md.length + 1) ocp))) := ⟨hNew, hKp⟩
    have HBO : Hid (∀ b, (Value.slice oq (Md.length + 1) ocp).ownBlock = some b → F b ∨ w.heap.size ≤ b) := by
      intro b hb
      rcases hbl with q | q
      · exact .inl (h.fm b (q ▸ hb))
      · rw [q] at hb
        cases hb
        exact .inr (by simp; omega)
    have hY3 : Hid (Blk (wE.setCell ⟨p, 1, none⟩ (.slice oq (Md.length + 1) ocp)) w.heap.size 37 3) := (hY2.same ((hg.block _ (by simp; omega) (fun e => own_ne h.md hY2 (by decide) e.symm)).trans (Below.heap_alloc _ _ _ hzY))).setCell _ _
    clear hNew hKp hbl
    obtain ⟨⟨⟨y0, g0⟩, ⟨y1, g1⟩⟩, y2, g2⟩ := id b4
    clear b2 b3
    go_wp2_with (first
      | (at_builtin; refine wpList_apr rfl (.tmp 37) (.tmp 41) 65 rfl hrun ?_)
      | go_in)
    have mm := b4.put 4 ((Md.length : Int) + 1) e0
    have HFIN : Hid (∃ F', RefOf (put3 (wE.setCell ⟨p, 1, none⟩ (.slice oq (Md.length + 1) ocp)) w.heap.size 4 ((Md.length : Int) + 1) e0) p lim (A ++ [(kind, List.replicate nn (kind, 0, e0))]) N F' ∧ Kp F w (put3 (wE.setCell ⟨p, 1, none⟩ (.slice oq (Md.length + 1) ocp)) w.heap.size 4 ((Md.length : Int) + 1) e0) ∧ ∀ b, F' b → F b ∨ w.heap.size ≤ b) := by
      have hF0 : ∀ b, F b → b ≠ w.heap.size := fun b hb e => by
        have := HF.out b hb
        omega
      refine ⟨_, ⟨Md ++ [(kind, nn)], Ps, _, pv, HNEW.out.1.same (fun b hb => put3_heap ?_) (by rw [put3_size]; exact Nat.le_refl _), hr.make kind nn, hN⟩, ?_, fun b hb => ?_⟩
      · rcases hb with q | q
        · exact hF0 b q
        · intro e
          subst e
          exact own_ne HNEW.out.1.md ((hY3.out : Blk _ _ _ 3)) (by decide) q
      · exact (((Kp.of (F := F) B2).trans HNEW.out.2 (fun i hi e => e)).setCell (p := ⟨w.heap.size, 0, none⟩) (.inr (Nat.le_refl _)) _).setCell (p := ⟨w.heap.size, 1, none⟩) (.inr (Nat.le_refl _)) _ |>.setCell (p := ⟨w.heap.size, 2, none⟩) (.inr (Nat.le_refl _)) _
      · rcases hb with q | q
        · exact .inl q
        · exact HBO.out b q
    change bodyPost Tryd.prog _ _ _ _ (put3 (wE.setCell ⟨p, 1, none⟩ (.slice oq (Md.length + 1) ocp)) w.heap.size _ _ _)
    generalize put3 (wE.setCell ⟨p, 1, none⟩ (.slice oq (Md.length + 1) ocp)) w.heap.size 4 ((Md.length : Int) + 1) e0 = Z at mm HFIN ⊢
    obtain ⟨⟨⟨p0, -⟩, ⟨p1, -⟩⟩, p2, -⟩ := mm
    exact bodyPost_ret (v := .tuple #[.agg #[.int .i64 4, .int .i64 ((Md.length : Int) + 1), .string e0], .int .i64 0]) (by simp [results, Tryd.results45, go_sem, p0, p1, p2]) rfl ⟨by rw [HR.out, hr.len]; rfl, by rw [HR.out]; exact HFIN⟩
theorem rmake_any {w : World} {p lim N : Nat} {A : Hp} {F : Nat → Prop} (h : RefOf w p lim A N F) (kind n : Int) :
    Calls Tryd.prog 45 #[.pointer (some ⟨p, 0, none⟩), .int .i64 kind, .int .i64 n] w fun e w' => e = .returned (.tuple #[.agg (vc (makeH A lim kind n).2.1).toArray, .int .i64 (makeH A lim kind n).2.2]) ∧ Hid (∃ F', RefOf w' p lim (makeH A lim kind n).1 N F' ∧ Kp F w w' ∧ ∀ b, F' b → F b ∨ w.heap.size ≤ b) := by
  obtain ⟨Md, Ps, mv, pv, h1, h2, h3⟩ := h
  exact rmake_at h1 h2 h3 kind n

set_option maxRecDepth 100000 in
set_option maxHeartbeats 2000000 in
theorem rlen_any {w : World} {p lim N : Nat} {A : Hp} {F : Nat → Prop} (h : RefOf w p lim A N F) (k n : Int) (s : ByteArray) :
    Calls Tryd.prog 51 #[.pointer (some ⟨p, 0, none⟩), .agg #[.int .i64 k, .int .i64 n, .string s]] w fun e w' => e = .returned (.tuple #[.int .i64 ((findH A (k, n, s)).1.2.length : Int), .int .i64 (findH A (k, n, s)).2]) ∧ Below w.heap.size w w' := by
  obtain ⟨Md, Ps, mv, pv, h, hr, -⟩ := h
  have b0 := Box3.new w k n s 37
  have B0 : Below w.heap.size w (w.alloc (.cells #[.int .i64 k, .int .i64 n, .string s] 37)) := (Below.refl _ w).alloc (Nat.le_refl _) _
  have hz : w.heap.size < (w.alloc (.cells #[.int .i64 k, .int .i64 n, .string s] 37)).heap.size := by simp
  obtain ⟨R0, hR0⟩ : ∃ R0, findH A (k, n, s) = R0 := ⟨_, rfl⟩
  have HR0 : Hid (findH A (k, n, s) = R0) := hR0
  rw [hR0]
  clear hR0
  go_enter Tryd.func51, Tryd.ntmps51
  go_upto_region 1 with fail
  generalize w.alloc (.cells #[.int .i64 k, .int .i64 n, .string s] 37) = X at b0 B0 hz ⊢
  replace h := h.next B0
  obtain ⟨⟨⟨x0, -⟩, ⟨x1, -⟩⟩, x2, -⟩ := id b0
  have hc := refers_any h k n s
  rw [← hr.len] at hc
  go_wp2_with fail
  refine hc.mono ?_
  rintro e w1 ⟨rfl, hb⟩
  replace h := h.next hb
  replace b0 := b0.below hb hz
  replace B0 := below2 B0 hb
  clear hc x0 x1 x2 hb
  obtain ⟨⟨⟨x0, -⟩, ⟨x1, -⟩⟩, x2, -⟩ := id b0
  cases hq : mayS (k, n, s) 4 A.length with
  | false =>
    have HR : Hid (R0 = ((0, []), 7)) := HR0.out.symm.trans (by unfold findH; rw [if_pos hq])
    go_wp2
    exact bodyPost_ret (v := .tuple #[.int .i64 0, .int .i64 7]) (by simp [results, Tryd.results51, go_sem]) rfl ⟨by rw [HR.out]; rfl, B0⟩
  | true =>
    obtain ⟨n0, n1⟩ := may4_range hq
    obtain ⟨nn, rfl, hnn, a, haf, hL⟩ : ∃ (nn : Nat), n = (nn : Int) ∧ nn ≤ Md.length ∧ ∃ a, findH A (k, n, s) = (a, 0) ∧ (if nn = 0 then 0 else (Md.getD (nn - 1) (0, 0)).2) = a.2.length := by
      refine ⟨n.toNat, by omega, by rw [← hr.len]; omega, ?_⟩
      by_cases hn0 : n = 0
      · exact ⟨_, findH_zero hq hn0, by rw [if_pos (by omega)]; rfl⟩
      · obtain ⟨j, rfl⟩ : ∃ j : Nat, n = (j : Int) + 1 := ⟨(n - 1).toNat, by omega⟩
        have hj : j < A.length := by omega
        have hjm : j < Md.length := by rw [← hr.len]; exact hj
        refine ⟨_, findH_at hq j rfl A[j] (List.getElem?_eq_getElem hj), ?_⟩
        have := (hr.at' j A[j] Md[j] (List.getElem?_eq_getElem hj) (List.getElem?_eq_getElem hjm)).2.1
        rw [if_neg (by omega), show ((j : Int) + 1).toNat - 1 = j by omega, List.getD_eq_getElem?_getD, List.getElem?_eq_getElem hjm]
        exact this
    have HR : Hid (R0 = (a, 0)) := HR0.out.symm.trans haf
    have hlg := length_any h nn hnn
    rw [hL] at hlg
    clear hL haf HR0
    go_wp2_with (first | (go_at_call 59; refine hlg.mono ?_; rintro e w2 ⟨rfl, rfl⟩) | go_in)
    exact bodyPost_ret (v := .tuple #[.int .i64 (a.2.length : Int), .int .i64 0]) (by simp [results, Tryd.results51, go_sem]) rfl ⟨by rw [HR.out], B0⟩
end Go.Proofs.YtdcioemjmmhbhaaDoor
