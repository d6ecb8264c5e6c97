import Derived.Test.YtahdkffijlfmnaaGreatDoorT16
import Derived.Test.YtahdkffijlfmnaaGreatDoorT15
import Derived.Test.YtahdkffijlfmnaaGreatDoorT13
namespace Go.Proofs.YtahdkffijlfmnaaGreatDoor
open Go.RowKit
open Hp (V vc vcs)
def doStoreS (K : Cg) (S : Ms) (n : Nat) (f : Fr) (i : Nat) (hi : i < K.Es.length) (a : Nat) (xs : List V) (v : V) : Except Int Ms :=
  if a < f.sl.length ∧ fitV S.hp v (K.Es[i].1.sorts.getD a 0) = true then .ok ((S.cut n f xs).put n { f with st := xs } a v) else .error 7
set_option maxRecDepth 100000 in
set_option maxHeartbeats 4000000 in
theorem doStore_any {w : World} {g : Nat} {K : Cg} {S : Ms} {L : List Fm} {ov : Value} {F Q : Nat → Prop} {gf cap n : Nat} {m : Fm} (h : Now w w g K L ov F Q gf cap n S m) {xs : List V} {v : V} (hx : m.f.st = xs ++ [v]) (hv : v.2.2.size ≤ 9223372036854775807) {i : Nat} (hf : FnOk K m.f i) (a : Nat) (hsl : m.f.sl.length = (K.Es[i]'hf.2.1).1.sorts.length) :
    Calls Tryz.prog 78 #[.pointer (some ⟨g, 0, none⟩), .int .i64 (a : Int)] w fun z w' => Hid (DoR w w' g K L (.slice (some ⟨gf, 0, none⟩) (n + 1) cap) ov F Q gf (n * 4) z (doStoreS K S n m.f i hf.2.1 a xs v)) := by
  obtain ⟨k, j, s⟩ := v
  have H0 : Hid (Now w w g K L ov F Q gf cap n S m) := h
  have HX : Hid (m.f.st = xs ++ [(k, j, s)] ∧ s.size ≤ 9223372036854775807) := ⟨hx, hv⟩
  have HF : Hid (FnOk K m.f i) := hf
  unfold doStoreS
  obtain ⟨L1, hM, -, hm1, -⟩ := h.mach
  obtain ⟨q, c, esv, hcc, hr⟩ := rown_slice (hM.rows m (List.mem_of_getElem? hm1)).1
  have i0 : (0 : Int) ≤ (a : Int) := by omega
  by_cases ha : a < m.f.sl.length
  · obtain ⟨gs, rfl, -⟩ := hr (by omega)
    have hEi : i < K.Es.length := hf.2.1
    have hsa : a < (K.Es[i]'hEi).1.sorts.length := by omega
    obtain ⟨gq, oq, hsq, -, -⟩ := hM.code.sr K.Es[i] (List.getElem_mem hEi) (by omega)
    have HC : Hid (∀ w' m', Now w w' g K L ov F Q gf cap n (S.cut n m.f xs) m' → m'.sv = m.sv → m'.f.sl = m.f.sl → m'.f.fn = m.f.fn → w'.cell? ⟨gf, n * 4 + 2, none⟩ = some (.slice (some ⟨gs, 0, none⟩) m.f.sl.length c) ∧ w'.cell? ⟨gq, oq + a, none⟩ = some (.int .i64 ((K.Es[i]'hEi).1.sorts.getD a 0)) ∧ (Calls Tryz.prog 72 #[.pointer (some ⟨g, 0, none⟩)] w' fun z w'' => z = .returned (enV K.Es[i]) ∧ Below w'.heap.size w' w'') ∧ (Calls Tryz.prog 102 #[.pointer (some ⟨g, 0, none⟩), .agg #[.int .i64 k, .int .i64 j, .string s], .int .i64 ((K.Es[i]'hEi).1.sorts.getD a 0)] w' fun z w'' => z = .returned (.bool (fitV S.hp (k, j, s) ((K.Es[i]'hEi).1.sorts.getD a 0))) ∧ Below w'.heap.size w' w'') ∧ ∀ o, o < 3 → (∃ u, w'.cell? ⟨gs, a * 3 + o, none⟩ = some u) ∧ w'.frozen? ⟨gs, a * 3 + o, none⟩ = false) := fun w' m' h' e1 e2 e3 => by
      obtain ⟨L2, hM, hn2, hm2, hb2⟩ := h'.mach
      obtain ⟨gq', oq', hq', -, hr'⟩ := hM.code.sr K.Es[i] (List.getElem_mem hEi) (by omega)
      rw [hsq] at hq'
      cases hq'
      have hrow := (hM.rows m' (List.mem_of_getElem? hm2)).1
      rw [e1, e2, esv] at hrow
      refine ⟨by rw [← esv, ← e1]; exact h'.fc.2.2.1, hr' a _ ?_, mentry_any hM hn2 hm2 hb2 (e3.trans HF.out.1) hEi, mfits_any hM (k, j, s) _ HX.out.2, fun o ho => ⟨?_, (rown_blk hrow gs (obk_pos (by omega))).unfrozen _⟩⟩
      · unfold sv
        rw [List.getElem?_map, List.getElem?_eq_getElem hsa, List.getD_eq_getElem?_getD, List.getElem?_eq_getElem hsa]
        rfl
      · have hv := vcs_at hrow ha rfl
        match o, ho with
        | 0, _ => exact ⟨_, hv 0 _ rfl⟩
        | 1, _ => exact ⟨_, hv 1 _ rfl⟩
        | 2, _ => exact ⟨_, hv 2 _ rfl⟩
    have HV : Hid (∀ w' tv', Now w w' g K L ov F Q gf cap n (S.cut n m.f xs) (m.st' tv' xs) → DoR w (w'.setCells gs (a * 3) (vc (k, j, s))) g K L (.slice (some ⟨gf, 0, none⟩) (n + 1) cap) ov F Q gf (n * 4) (.returned (.int .i64 0)) (.ok ((S.cut n m.f xs).put n { m.f with st := xs } a (k, j, s)))) := fun w' tv' h' => h'.store esv a ha (k, j, s)
    obtain ⟨so, hso⟩ : ∃ so, (K.Es[i]'hEi).1.sorts.getD a 0 = so := ⟨_, rfl⟩
    rw [hso] at HC ⊢
    obtain ⟨R, hR⟩ : ∃ R, fitV S.hp (k, j, s) so = R := ⟨_, rfl⟩
    rw [hR] at HC ⊢
    unfold enV at HC
    obtain ⟨N, hN⟩ : ∃ N, m.f.sl.length = N := ⟨_, rfl⟩
    have hN2 : (K.Es[i]'hEi).1.sorts.length = N := hsl.symm.trans hN
    rw [hN, hsq, hN2] at HC
    have i1 : (a : Int) < (N : Int) := by omega
    have i2 : ¬ ((N : Int) ≤ (a : Int)) := by omega
    have i4 : decide (N ≤ a) = false := by rw [decide_eq_false_iff_not]; omega
    have i5 : ¬ N ≤ a := by omega
    obtain ⟨E, hE⟩ : ∃ E, K.Es[i]'hEi = E := ⟨_, rfl⟩
    rw [hE] at HC
    have hfd := fldE (.string E.1.name) (.int .i64 E.1.start) (.int .i64 E.1.params) (.slice (some ⟨gq, oq, none⟩) N E.2.2) (.int .i64 E.1.result) 3 _ rfl
    cases R with
    | false =>
      rw [if_neg (fun q => by cases q.2)]
      clear hM hm1 h hN ha esv hx hv hsl hN2 hE hR hso hsq hsa hf HV
      go_enter Tryz.func78, Tryz.ntmps78
      go_wp2_with (first
        | (go_at_call 28; refine (Now.top H0.out).mono ?_; rintro z1 w1 ⟨rfl, H1⟩; clear H0)
        | (go_at_call 109; refine (Now.pop H1.out HX.out.1).mono ?_; rintro z2 w2 ⟨rfl, H2⟩; clear H1; obtain ⟨tv2, H2⟩ := H2.out; replace H2 : Hid _ := H2)
        | fail)
      have f1 := Full.new w2 #[.int .i64 k, .int .i64 j, .string s] 52
      have H3 : Hid _ := H2.out.alloc (.cells #[.int .i64 k, .int .i64 j, .string s] 52)
      generalize w2.alloc (.cells #[.int .i64 k, .int .i64 j, .string s] 52) = X at H3 f1 ⊢
      have x0 := cell_regrown (f1.cell 0 _ rfl).1
      have x1 := cell_regrown (f1.cell 1 _ rfl).1
      have x2 := cell_regrown (f1.cell 2 _ rfl).1
      have y0 := cell_regrown (HC.out X _ H3.out rfl rfl rfl).1
      have y1 := cell_regrown (HC.out X _ H3.out rfl rfl rfl).2.1
      have d1 : ∀ d os, Calls Tryz.prog 72 #[.pointer (some ⟨g, 0, none⟩)] (Sort.grow (redrawn X d) os) fun z w'' => z = .returned (.agg #[.string E.1.name, .int .i64 E.1.start, .int .i64 E.1.params, .slice (some ⟨gq, oq, none⟩) N E.2.2, .int .i64 E.1.result]) ∧ ∃ z : Regrown, w'' = Sort.grow (redrawn X z.d) z.os := fun d os => Calls.regrown_of (HC.out _ _ (H3.out.next (below_regrown X d os)) rfl rfl rfl).2.2.1
      have d2 : ∀ d os, Calls Tryz.prog 102 #[.pointer (some ⟨g, 0, none⟩), .agg #[.int .i64 k, .int .i64 j, .string s], .int .i64 so] (Sort.grow (redrawn X d) os) fun z w'' => z = .returned (.bool false) ∧ ∃ z : Regrown, w'' = Sort.grow (redrawn X z.d) z.os := fun d os => Calls.regrown_of (HC.out _ _ (H3.out.next (below_regrown X d os)) rfl rfl rfl).2.2.2.1
      clear f1
      refine wp_region_quiet_below (by kernel_rfl) (by kernel_rfl) ?_
      repeat (first | go_big_quiet_step (first | with_reducible exact d1 _ _ | with_reducible exact d2 _ _) | quiet_step (first | with_reducible exact d1 _ _ | with_reducible exact d2 _ _))
      refine wpQuiet_nil ?_
      intro _ hw'
      obtain ⟨⟨dq, osq⟩, hw''⟩ := hw'
      subst hw''
      have hY := below_regrown X dq osq
      first | (change Exit.then _ _ Exit.normal _ (Sort.grow (redrawn X dq) osq)) | skip
      generalize Sort.grow (redrawn X dq) osq = Y at hY ⊢
      clear d1 d2
      clear x0 x1 x2 y0 y1
      have H4 : Hid _ := H3.out.next hY
      go_wp2
      go_ret
      exact H4.out.err 7
    | true =>
      rw [if_pos ⟨by omega, rfl⟩]
      clear hM hm1 h hN ha esv hx hv hsl hN2 hE hR hso hsq hsa hf
      go_enter Tryz.func78, Tryz.ntmps78
      go_wp2_with (first
        | (go_at_call 28; refine (Now.top H0.out).mono ?_; rintro z1 w1 ⟨rfl, H1⟩; clear H0)
        | (go_at_call 109; refine (Now.pop H1.out HX.out.1).mono ?_; rintro z2 w2 ⟨rfl, H2⟩; clear H1; obtain ⟨tv2, H2⟩ := H2.out; replace H2 : Hid _ := H2)
        | fail)
      have f1 := Full.new w2 #[.int .i64 k, .int .i64 j, .string s] 52
      have H3 : Hid _ := H2.out.alloc (.cells #[.int .i64 k, .int .i64 j, .string s] 52)
      generalize w2.alloc (.cells #[.int .i64 k, .int .i64 j, .string s] 52) = X at H3 f1 ⊢
      have x0 := cell_regrown (f1.cell 0 _ rfl).1
      have x1 := cell_regrown (f1.cell 1 _ rfl).1
      have x2 := cell_regrown (f1.cell 2 _ rfl).1
      have y0 := cell_regrown (HC.out X _ H3.out rfl rfl rfl).1
      have y1 := cell_regrown (HC.out X _ H3.out rfl rfl rfl).2.1
      have d1 : ∀ d os, Calls Tryz.prog 72 #[.pointer (some ⟨g, 0, none⟩)] (Sort.grow (redrawn X d) os) fun z w'' => z = .returned (.agg #[.string E.1.name, .int .i64 E.1.start, .int .i64 E.1.params, .slice (some ⟨gq, oq, none⟩) N E.2.2, .int .i64 E.1.result]) ∧ ∃ z : Regrown, w'' = Sort.grow (redrawn X z.d) z.os := fun d os => Calls.regrown_of (HC.out _ _ (H3.out.next (below_regrown X d os)) rfl rfl rfl).2.2.1
      have d2 : ∀ d os, Calls Tryz.prog 102 #[.pointer (some ⟨g, 0, none⟩), .agg #[.int .i64 k, .int .i64 j, .string s], .int .i64 so] (Sort.grow (redrawn X d) os) fun z w'' => z = .returned (.bool true) ∧ ∃ z : Regrown, w'' = Sort.grow (redrawn X z.d) z.os := fun d os => Calls.regrown_of (HC.out _ _ (H3.out.next (below_regrown X d os)) rfl rfl rfl).2.2.2.1
      refine wp_region_quiet_below (by kernel_rfl) (by kernel_rfl) ?_
      repeat (first | go_big_quiet_step (first | with_reducible exact d1 _ _ | with_reducible exact d2 _ _) | quiet_step (first | with_reducible exact d1 _ _ | with_reducible exact d2 _ _))
      refine wpQuiet_nil ?_
      intro _ hw'
      obtain ⟨⟨dq, osq⟩, hw''⟩ := hw'
      subst hw''
      have hY := below_regrown X dq osq
      first | (change Exit.then _ _ Exit.normal _ (Sort.grow (redrawn X dq) osq)) | skip
      generalize Sort.grow (redrawn X dq) osq = Y at hY ⊢
      clear d1 d2
      clear x0 x1 x2 y0 y1
      have bd : Below Y.heap.size Y Y.drew := (Below.refl _ Y).drew
      have H4 : Hid _ := (H3.out.next hY).next bd
      replace f1 := (f1.next hY).next bd
      have x0 := (f1.cell 0 _ rfl).1
      have x1 := (f1.cell 1 _ rfl).1
      have x2 := (f1.cell 2 _ rfl).1
      have HG := HC.out Y.drew _ H4.out rfl rfl rfl
      have y0 := HG.1
      obtain ⟨⟨u0, e0⟩, g0⟩ := HG.2.2.2.2 0 (by decide)
      obtain ⟨⟨u1, e1⟩, g1⟩ := HG.2.2.2.2 1 (by decide)
      obtain ⟨⟨u2, e2⟩, g2⟩ := HG.2.2.2.2 2 (by decide)
      rw [Nat.add_zero] at e0 g0
      have p0 : Y.cell? ⟨gs, a * 3, none⟩ = some u0 := e0
      have p1 : Y.cell? ⟨gs, a * 3 + 1, none⟩ = some u1 := e1
      have p2 : Y.cell? ⟨gs, a * 3 + 2, none⟩ = some u2 := e2
      have q0 : Y.frozen? ⟨gs, a * 3, none⟩ = false := g0
      have q1 : Y.frozen? ⟨gs, a * 3 + 1, none⟩ = false := g1
      have q2 : Y.frozen? ⟨gs, a * 3 + 2, none⟩ = false := g2
      have H9 := HV.out Y.drew tv2 H4.out
      replace H9 : Hid _ := H9
      clear f1 HG HV HC hY bd H3 H4
      go_wp2_with fail
      go_region_law fail
      all_goals
        clear x0 x1 x2 y0 e0 e1 e2 g0 g1 g2 p0 p1 p2 q0 q1 q2
        go_wp2
        go_ret
        exact ⟨rfl, H9.out.2⟩
  · rw [if_neg (fun q => ha q.1)]
    have HC : Hid (∀ w' m', Now w w' g K L ov F Q gf cap n (S.cut n m.f xs) m' → m'.sv = m.sv → w'.cell? ⟨gf, n * 4 + 2, none⟩ = some (.slice q m.f.sl.length c)) := fun w' m' h' e => by rw [← esv, ← e]; exact h'.fc.2.2.1
    obtain ⟨N, hN⟩ : ∃ N, m.f.sl.length = N := ⟨_, rfl⟩
    rw [hN] at HC
    have i2 : ((N : Int) ≤ (a : Int)) := by omega
    clear hM hm1 h hr hN ha esv hx hv hsl hf
    go_enter Tryz.func78, Tryz.ntmps78
    go_wp2_with (first
      | (go_at_call 28; refine (Now.top H0.out).mono ?_; rintro z1 w1 ⟨rfl, H1⟩; clear H0)
      | (go_at_call 109; refine (Now.pop H1.out HX.out.1).mono ?_; rintro z2 w2 ⟨rfl, H2⟩; clear H1; obtain ⟨tv2, H2⟩ := H2.out; have c0 := HC.out _ _ (H2.alloc (.cells #[.int .i64 k, .int .i64 j, .string s] 52)) rfl; replace H2 : Hid _ := H2)
      | fail)
    have H3 : Hid _ := H2.out.alloc (.cells #[.int .i64 k, .int .i64 j, .string s] 52)
    generalize w2.alloc (.cells #[.int .i64 k, .int .i64 j, .string s] 52) = X at H3 c0 ⊢
    have y0 := cell_regrown c0
    refine wp_region_quiet_below (by kernel_rfl) (by kernel_rfl) ?_
    repeat (first | go_big_quiet_step (first | fail) | quiet_step (first | fail))
    refine wpQuiet_nil ?_
    intro _ hw'
    obtain ⟨⟨dq, osq⟩, hw''⟩ := hw'
    subst hw''
    have hY := below_regrown X dq osq
    first | (change Exit.then _ _ Exit.normal _ (Sort.grow (redrawn X dq) osq)) | skip
    generalize Sort.grow (redrawn X dq) osq = Y at hY ⊢
    clear c0 y0
    have H4 : Hid _ := H3.out.next hY
    go_wp2
    go_ret
    exact H4.out.err 7
end Go.Proofs.YtahdkffijlfmnaaGreatDoor

namespace Go.Proofs.YtahdkffijlfmnaaGreatDoor
open Go.RowKit
open Hp (V vc vcs)
def fm0 : Fm := ⟨⟨0, 0, [], []⟩, .slice none 0 0, .slice none 0 0⟩
def Ms.left (S : Ms) (n : Nat) : Ms := { S with fs := S.fs.take n }
theorem MachM.left {w : World} {g : Nat} {K : Cg} {S : Ms} {L : List Fm} {ov : Value} {F Q : Nat → Prop} {gf cap n : Nat} (h : MachM w g K S L (.slice (some ⟨gf, 0, none⟩) (n + 1) cap) ov F Q) (hn : L.length = n + 1) :
    MachM ((w.setCells gf (n * 4) (fmc fm0)).setCell ⟨g, 7, none⟩ (.slice (some ⟨gf, 0, none⟩) n cap)) g K (S.left n) (L.take n) (.slice (some ⟨gf, 0, none⟩) n cap) ov F Q ∧ (∀ b, foot (L.take n) (.slice (some ⟨gf, 0, none⟩) n cap) ov F b → foot L (.slice (some ⟨gf, 0, none⟩) (n + 1) cap) ov F b) ∧ Kp (foot L (.slice (some ⟨gf, 0, none⟩) (n + 1) cap) ov F) w ((w.setCells gf (n * 4) (fmc fm0)).setCell ⟨g, 7, none⟩ (.slice (some ⟨gf, 0, none⟩) n cap)) := by
  obtain ⟨hb, hF, hr⟩ := h.heap.blk
  have hb : Blk w g 82 17 := hb
  have hF : F g := hF
  have hgf : ¬ F gf := h.nv gf (.inl (h.fob (by omega)))
  have hfr := h.fr
  rw [← hn] at hfr
  have keep : ∀ b, ¬ F b → b ≠ gf → ((w.setCells gf (n * 4) (fmc fm0)).setCell ⟨g, 7, none⟩ (.slice (some ⟨gf, 0, none⟩) n cap)).heap[b]? = w.heap[b]? := fun b hb hg => (set_heap (a := ⟨g, 7, none⟩) fun q => hb (by have q : b = g := q; rw [q]; exact hF)).trans (sets_heap hg _ _ _)
  have hne : g ≠ gf := fun q => hgf (q ▸ hF)
  have hcell : ∀ j, (w.setCells gf (n * 4) (fmc fm0)).cell? ⟨g, j, none⟩ = w.cell? ⟨g, j, none⟩ := fun j => World.cell?_of_block (w := w) (a := ⟨g, j, none⟩) (sets_heap hne _ _ _)
  have hh := (h.heap.same (w' := w.setCells gf (n * 4) (fmc fm0)) (fun b hb => sets_heap (k := b) (fun q => hgf (by have q : b = gf := q; rw [← q]; exact hb)) _ _ _) (by rw [sets_size]; exact Nat.le_refl _)).put 7 (.inl (show 7 < 8 by decide)) (.slice (some ⟨gf, 0, none⟩) n cap) (msc K (S.left n) (.slice (some ⟨gf, 0, none⟩) n cap) ov) fun x hx => by
    have other : ∀ j v, j ≠ 7 → w.cell? ⟨g, j, none⟩ = some v → ((w.setCells gf (n * 4) (fmc fm0)).setCell ⟨g, 7, none⟩ (.slice (some ⟨gf, 0, none⟩) n cap)).cell? ⟨g, j, none⟩ = some v := fun j v hj hv => (World.cell?_setCell_other _ _ _ _ (fun q => hj (by have := congrArg Addr.off q; exact (by simpa using this : 7 = j).symm))).trans ((hcell j).trans hv)
    have same : ((w.setCells gf (n * 4) (fmc fm0)).setCell ⟨g, 7, none⟩ (.slice (some ⟨gf, 0, none⟩) n cap)).cell? ⟨g, 7, none⟩ = some (.slice (some ⟨gf, 0, none⟩) n cap) := World.cell?_setCell_same' _ _ _ (by rw [hcell 7, h.k7]; rfl)
    unfold msc at hx
    simp only [List.mem_cons, List.not_mem_nil, or_false] at hx
    rcases hx with rfl | rfl | rfl | rfl | rfl | rfl | rfl | rfl | rfl | rfl | rfl | rfl | rfl
    · exact ⟨.inl (show 0 < 8 by decide), other 0 _ (by decide) h.k0⟩
    · exact ⟨.inl (show 1 < 8 by decide), other 1 _ (by decide) h.k1⟩
    · exact ⟨.inl (show 2 < 8 by decide), other 2 _ (by decide) h.k2⟩
    · exact ⟨.inl (show 3 < 8 by decide), other 3 _ (by decide) h.k3⟩
    · exact ⟨.inl (show 4 < 8 by decide), other 4 _ (by decide) h.k4⟩
    · exact ⟨.inl (show 5 < 8 by decide), other 5 _ (by decide) h.k5⟩
    · exact ⟨.inl (show 6 < 8 by decide), other 6 _ (by decide) h.k6⟩
    · exact ⟨.inl (show 7 < 8 by decide), same⟩
    · exact ⟨.inr (show 8 + 4 ≤ 12 by decide), other 12 _ (by decide) h.k12⟩
    · exact ⟨.inr (show 8 + 4 ≤ 13 by decide), other 13 _ (by decide) h.k13⟩
    · exact ⟨.inr (show 8 + 4 ≤ 14 by decide), other 14 _ (by decide) h.k14⟩
    · exact ⟨.inr (show 8 + 4 ≤ 15 by decide), other 15 _ (by decide) h.k15⟩
    · exact ⟨.inr (show 8 + 4 ≤ 16 by decide), other 16 _ (by decide) h.k16⟩
  have hsub : ∀ m ∈ L.take n, m ∈ L := fun m hm => List.mem_of_mem_take hm
  have hrow : OwnR (w.setCells gf (n * 4) (fmc fm0)) 89 4 (.slice (some ⟨gf, 0, none⟩) n cap) n ((L.take n).flatMap fmc) := by
    have hcp : 0 < cap := by
      obtain ⟨q, c, e, hc, -⟩ := rown_slice h.fr
      injection e with e1 e2 e3
      omega
    have h1 := own_takeG (.inl (own_setT (c := fmc) (k := 4) (fun _ => rfl) rfl (rown_own hfr hcp) n (by omega) fm0)) (k := n) (by omega)
    have e1 : ((L.set n fm0).flatMap fmc).take (n * 4) = (L.take n).flatMap fmc := by
      have e2 : L.set n fm0 = L.take n ++ [fm0] := by
        apply List.ext_getElem?
        intro k
        rw [List.getElem?_set, List.getElem?_append, List.length_take, List.getElem?_take]
        by_cases hk : n = k
        · subst hk
          rw [if_pos rfl, if_pos (by omega), if_neg (by omega), show n - min n L.length = 0 by omega]
          rfl
        · rw [if_neg hk]
          by_cases hk2 : k < n
          · rw [if_pos (by omega), if_pos hk2]
          · rw [if_neg (by omega), List.getElem?_eq_none (by omega), List.getElem?_eq_none (by simp; omega)]
      rw [e2, List.flatMap_append, List.take_left' (by rw [flat_lenF fmc 4 (fun _ => rfl), List.length_take]; omega)]
    rwa [e1] at h1
  have hln : (L.take n).length = n := by rw [List.length_take]; omega
  refine ⟨⟨h.code.same (fun b hb => keep b (h.nq b hb).1 fun q => (h.nq b hb).2.1 (by rw [q]; exact h.fob (by omega))) (by rw [set_size, sets_size]; exact Nat.le_refl _), hh, by rw [hln]; exact rown_same hrow fun b hb => set_heap (a := ⟨g, 7, none⟩) fun q => by (have hb := obk_own hb; cases hb; exact hne q.symm), by rw [List.map_take, h.abs]; rfl, fun m hm => ⟨rown_same (h.rows m (hsub m hm)).1 fun b hb => keep b (h.nf m (hsub m hm) b (.inl hb)) fun q => ?_, rown_same (h.rows m (hsub m hm)).2 fun b hb => keep b (h.nf m (hsub m hm) b (.inr hb)) fun q => ?_⟩, rown_same h.out fun b hb => keep b (h.nv b (.inr hb)) fun q => ?_, fun i j x y hi hj => ?_, fun m hm => h.nf m (hsub m hm), fun b hb => h.nv b hb, fun b hb => ?_⟩, fun b hb => ?_, ?_⟩
  · exact rown_ne (h.rows m (hsub m hm)).1 (h.fblk (by omega)) (by decide) (by rw [← q]; exact hb)
  · exact rown_ne (h.rows m (hsub m hm)).2 (h.fblk (by omega)) (by decide) (by rw [← q]; exact hb)
  · exact rown_ne h.out (h.fblk (by omega)) (by decide) (by rw [← q]; exact hb)
  · rw [List.getElem?_take] at hi hj
    split at hi
    · split at hj
      · exact h.sep i j x y hi hj
      · cases hj
    · cases hi
  · obtain ⟨n0, n1, n2, n3⟩ := h.nq b hb
    exact ⟨n0, n1, n2, fun m hm => n3 m (hsub m hm)⟩
  · rcases hb with hb | hb | hb | ⟨m, hm, hb⟩
    · exact .inl hb
    · exact .inr (.inl hb)
    · exact .inr (.inr (.inl hb))
    · exact .inr (.inr (.inr ⟨m, hsub m hm, hb⟩))
  · exact (Kp.setCells (F := foot L (.slice (some ⟨gf, 0, none⟩) (n + 1) cap) ov F) (.inl (.inr (.inl (h.fob (by omega))))) (fmc fm0) (n * 4) (Kp.refl _ w)).setCell (p := ⟨g, 7, none⟩) (.inl (.inl hF)) _
end Go.Proofs.YtahdkffijlfmnaaGreatDoor

namespace Go.Proofs.YtahdkffijlfmnaaGreatDoor
open Go.RowKit
open Hp (V vc vcs)
theorem cutF (a : Addr) (n cap k : Nat) (hk : k ≤ cap) : ∀ w : World, (Instr.slice 79 (.slice (some a) n cap) none (some (.int .i64 (k : Int))) none).run Tryz.prog w = .ok (.slice (some a) k cap) w := fun w => by
  simp [go_sem, Instr.slice, run_underlying Tryz.underlying79, hk]
set_option maxRecDepth 100000 in
set_option maxHeartbeats 2000000 in
theorem leave_any {w : World} {g : Nat} {K : Cg} {S : Ms} {L : List Fm} {ov : Value} {F Q : Nat → Prop} {gf cap n : Nat} {m : Fm} (h : TopM w g K S L ov F Q gf cap n m) :
    Calls Tryz.prog 114 #[.pointer (some ⟨g, 0, none⟩)] w fun z w' => (∃ u, z = .returned u) ∧ Hid (MachM w' g K (S.left n) (L.take n) (.slice (some ⟨gf, 0, none⟩) n cap) ov F Q ∧ (∀ b, foot (L.take n) (.slice (some ⟨gf, 0, none⟩) n cap) ov F b → foot L (.slice (some ⟨gf, 0, none⟩) (n + 1) cap) ov F b) ∧ Kp (foot L (.slice (some ⟨gf, 0, none⟩) (n + 1) cap) ov F) w w') := by
  have H0 : Hid (TopM w g K S L ov F Q gf cap n m) := h
  have hcap : n + 1 ≤ cap := by
    obtain ⟨q, c, e, hc, -⟩ := rown_slice h.h.fr
    injection e with e1 e2 e3
    have := h.hn
    omega
  obtain ⟨n1, Hn1⟩ : ∃ n1, Hid (n + 1 = n1) := ⟨_, (rfl : n + 1 = _)⟩
  have sl := cutF ⟨gf, 0, none⟩ n1 cap n (by omega)
  have hw1 : IntKind.i64.wrap ((n1 : Int) - 1) = (n : Int) := by have := Hn1.out; have := h.hb; rw [IntKind.wrap_i64]; omega
  have HC : Hid (∀ w', Below w.heap.size w w' → (w'.cell? ⟨gf, n * 4, none⟩ = some (.int .i64 m.f.fn) ∧ w'.cell? ⟨gf, n * 4 + 1, none⟩ = some (.int .i64 m.f.pc) ∧ w'.cell? ⟨gf, n * 4 + 2, none⟩ = some m.sv ∧ w'.cell? ⟨gf, n * 4 + 3, none⟩ = some m.tv ∧ ∀ j, w'.frozen? ⟨gf, j, none⟩ = false) ∧ g ≠ gf ∧ w'.cell? ⟨g, 7, none⟩ = some (.slice (some ⟨gf, 0, none⟩) n1 cap) ∧ w'.frozen? ⟨g, 7, none⟩ = false ∧ (MachM ((w'.setCells gf (n * 4) (fmc fm0)).setCell ⟨g, 7, none⟩ (.slice (some ⟨gf, 0, none⟩) n cap)) g K (S.left n) (L.take n) (.slice (some ⟨gf, 0, none⟩) n cap) ov F Q ∧ (∀ b, foot (L.take n) (.slice (some ⟨gf, 0, none⟩) n cap) ov F b → foot L (.slice (some ⟨gf, 0, none⟩) (n + 1) cap) ov F b) ∧ Kp (foot L (.slice (some ⟨gf, 0, none⟩) (n + 1) cap) ov F) w ((w'.setCells gf (n * 4) (fmc fm0)).setCell ⟨g, 7, none⟩ (.slice (some ⟨gf, 0, none⟩) n cap)))) := fun w' b => by
    have hM := h.h.next b
    have hN : Now w w' g K L ov F Q gf cap n S m := h.now.next b
    obtain ⟨r1, r2, r3⟩ := hM.left h.hn
    refine ⟨hN.fc, fun q => hM.nv gf (.inl (hM.fob (by have := h.hn; omega))) (by rw [← q]; exact hM.heap.blk.2.1), by rw [← Hn1.out]; exact hM.k7, hM.un 7, r1, r2, (Kp.of b).trans r3 fun _ _ q => q⟩
  have d1 : Calls Tryz.prog 28 #[.pointer (some ⟨g, 0, none⟩)] w fun z w' => z = .returned (.pointer (some ⟨gf, n * 4, none⟩)) ∧ Below w.heap.size w w' := top_any h.h.k7 h.hb
  clear h hcap
  go_enter Tryz.func114, Tryz.ntmps114
  go_wp2_with (first
    | (go_at_call 28; refine d1.mono ?_; rintro z1 w1 ⟨rfl, hb1⟩; clear d1; obtain ⟨⟨c0, c1, c2, c3, cu⟩, hne, c7, g7, HFIN⟩ := HC.out w1 hb1; have HFIN : Hid _ := HFIN; have g0 := cu (n * 4); have g1 := cu (n * 4 + 1); have g2 := cu (n * 4 + 2); have g3 := cu (n * 4 + 3); clear cu)
    | fail)
  change Code.wp _ _ _ _ (w1.setCells gf (n * 4) (fmc fm0))
  have e7 : (w1.setCells gf (n * 4) (fmc fm0)).cell? ⟨g, 7, none⟩ = some (.slice (some ⟨gf, 0, none⟩) n1 cap) := (World.cell?_of_block (w := w1) (a := ⟨g, 7, none⟩) (sets_heap hne _ _ _)).trans c7
  have f7 : (w1.setCells gf (n * 4) (fmc fm0)).frozen? ⟨g, 7, none⟩ = false := by
    have e8 : (w1.setCells gf (n * 4) (fmc fm0)).heap[g]? = w1.heap[g]? := sets_heap hne _ _ _
    rw [← g7]
    unfold World.frozen?
    rw [show (w1.setCells gf (n * 4) (fmc fm0)).heap[(⟨g, 7, none⟩ : Addr).block]? = w1.heap[(⟨g, 7, none⟩ : Addr).block]? from e8]
  clear c0 c1 c2 c3 c7 g7 g0 g1 g2 g3 HC hb1
  generalize w1.setCells gf (n * 4) (fmc fm0) = Z at HFIN e7 f7 ⊢
  have e9 : Z.drew.cell? ⟨g, 7, none⟩ = some (.slice (some ⟨gf, 0, none⟩) n1 cap) := e7
  have f9 : Z.drew.frozen? ⟨g, 7, none⟩ = false := f7
  have HG : Hid (MachM ((Z.setCell ⟨g, 7, none⟩ (.slice (some ⟨gf, 0, none⟩) n cap)).drew) g K (S.left n) (L.take n) (.slice (some ⟨gf, 0, none⟩) n cap) ov F Q ∧ (∀ b, foot (L.take n) (.slice (some ⟨gf, 0, none⟩) n cap) ov F b → foot L (.slice (some ⟨gf, 0, none⟩) (n + 1) cap) ov F b) ∧ Kp (foot L (.slice (some ⟨gf, 0, none⟩) (n + 1) cap) ov F) w (Z.setCell ⟨g, 7, none⟩ (.slice (some ⟨gf, 0, none⟩) n cap)).drew) := ⟨HFIN.out.1.next (Below.refl _ _).drew, HFIN.out.2.1, HFIN.out.2.2.next (Below.refl _ _).drew⟩
  clear HFIN
  go_region_law fail
  all_goals
    go_end0
    exact ⟨⟨_, rfl⟩, HG⟩
theorem WentM.ph {w w' : World} {g : Nat} {K : Cg} {S : Ms} {L : List Fm} {fv ov : Value} {F Q : Nat → Prop} (h : WentM w w' g K S L fv ov F Q) (k : Int) : WentM w (w'.setCell ⟨g, 15, none⟩ (.int .i64 k)) g K { S with ph := k } L fv ov F Q := by
  obtain ⟨L', fv', ov', F', k1, k2, k3⟩ := h
  obtain ⟨r1, r2⟩ := k1.phase k
  exact WentM.after k2 k3 ⟨L', fv', ov', F', r1, fun b hb => .inl hb, r2⟩
def doDoneS (K : Cg) (S : Ms) (n : Nat) (i : Nat) (hi : i < K.Es.length) : Except Int Ms :=
  if K.Es[i].1.result = 0 then .ok (if n = 0 then { S.left n with ph := 1 } else S.left n) else .error 7
set_option maxRecDepth 100000 in
set_option maxHeartbeats 2000000 in
theorem doDone_any {w : World} {g : Nat} {K : Cg} {S : Ms} {L : List Fm} {ov : Value} {F Q : Nat → Prop} {gf cap n : Nat} {m : Fm} (h : Now w w g K L ov F Q gf cap n S m) {i : Nat} (hf : FnOk K m.f i) :
    Calls Tryz.prog 86 #[.pointer (some ⟨g, 0, none⟩)] w fun z w' => Hid (DoR w w' g K L (.slice (some ⟨gf, 0, none⟩) (n + 1) cap) ov F Q gf (n * 4) z (doDoneS K S n i hf.2.1)) := by
  have H0 : Hid (Now w w g K L ov F Q gf cap n S m) := h
  obtain ⟨L1, hM, hn, hm, hb⟩ := h.mach
  have d1 := mentry_any hM hn hm hb hf.1 hf.2.1
  unfold enV at d1
  unfold doDoneS
  generalize K.Es[i]'hf.2.1 = E at d1 ⊢
  have hfd := fldE (.string E.1.name) (.int .i64 E.1.start) (.int .i64 E.1.params) (.slice E.2.1 E.1.sorts.length E.2.2) (.int .i64 E.1.result) 4 _ rfl
  clear hM hn hm hb h hf
  by_cases h1 : E.1.result = 0
  · rw [if_pos h1]
    rw [h1] at hfd d1
    clear h1
    have HL : Hid (∀ w', Below w.heap.size w w' → Calls Tryz.prog 114 #[.pointer (some ⟨g, 0, none⟩)] w' fun z w'' => (∃ u, z = .returned u) ∧ Hid (∃ L2, MachM w'' g K (S.left n) L2 (.slice (some ⟨gf, 0, none⟩) n cap) ov F Q ∧ WentM w w'' g K (S.left n) L (.slice (some ⟨gf, 0, none⟩) (n + 1) cap) ov F Q)) := fun w' b => by
      obtain ⟨L2, hT, hk⟩ := H0.out.next b
      refine (leave_any hT).mono fun z w'' q => ⟨q.1, L2.take n, q.2.out.1, ?_⟩
      exact WentM.after hk.ft hk.kp ⟨_, _, _, _, q.2.out.1, fun b hb => .inl (q.2.out.2.1 b hb), q.2.out.2.2⟩
    by_cases hn0 : n = 0
    · rw [if_pos hn0]
      subst hn0
      go_enter Tryz.func86, Tryz.ntmps86
      go_wp2_with (first
        | (go_at_call 72; refine d1.mono ?_; rintro z1 w1 ⟨rfl, hb1⟩; clear d1)
        | (go_at_call 114; refine (HL.out w1 hb1).mono ?_; rintro z2 w2 ⟨⟨u2, rfl⟩, H2⟩; have HK := H2.out; obtain ⟨L2, hM2, hW2⟩ := HK; have c7 := hM2.k7; have c15 := hM2.k15; have g15 := hM2.un 15; have HW : Hid _ := hW2; clear hM2 hW2)
        | fail)
      go_ret
      exact ⟨rfl, WentM.ph HW.out 1⟩
    · rw [if_neg hn0]
      have n0 : ((n : Int) == 0) = false := by rw [beq_eq_false_iff_ne]; omega
      have n1 : ¬ ((n : Int) = 0) := by omega
      go_enter Tryz.func86, Tryz.ntmps86
      go_wp2_with (first
        | (go_at_call 72; refine d1.mono ?_; rintro z1 w1 ⟨rfl, hb1⟩; clear d1)
        | (go_at_call 114; refine (HL.out w1 hb1).mono ?_; rintro z2 w2 ⟨⟨u2, rfl⟩, H2⟩; have HK := H2.out; obtain ⟨L2, hM2, hW2⟩ := HK; have c7 := hM2.k7; have c15 := hM2.k15; have g15 := hM2.un 15; have HW : Hid _ := hW2; clear hM2 hW2)
        | fail)
      go_ret
      exact ⟨rfl, HW.out⟩
  · rw [if_neg h1]
    have k0 : (E.1.result == 0) = false := by rw [beq_eq_false_iff_ne]; exact h1
    have k1 : (E.1.result != 0) = true := by rw [bne, k0]; rfl
    go_enter Tryz.func86, Tryz.ntmps86
    go_wp2_with (first
      | (go_at_call 72; refine d1.mono ?_; rintro z1 w1 ⟨rfl, hb1⟩; clear d1)
      | fail)
    go_ret
    exact (H0.out.next hb1).err 7
end Go.Proofs.YtahdkffijlfmnaaGreatDoor

namespace Go.Proofs.YtahdkffijlfmnaaGreatDoor
open Go.RowKit
open Hp (V vc vcs)
def yl (hook : Int) (has : Bool) (v : V) : Value := .agg #[.int .i64 hook, .bool has, .int .i64 v.1, .int .i64 v.2.1, .string v.2.2]
set_option maxRecDepth 100000 in
set_option maxHeartbeats 2000000 in
theorem doEmit_any (w : World) (g : Nat) (a : Int) :
    Calls Tryz.prog 94 #[.pointer (some ⟨g, 0, none⟩), .int .i64 a] w fun z w' => z = .returned (yl a false (0, 0, Hp.e0)) ∧ Below w.heap.size w w' := by
  unfold yl
  go_enter Tryz.func94, Tryz.ntmps94
  go_wp2
  refine bodyPost_ret (v := .agg #[.int .i64 a, .bool false, .int .i64 0, .int .i64 0, .string Hp.e0]) (by simp [results, Tryz.results94, go_sem]) rfl ⟨rfl, ?_⟩
  exact (Below.refl _ w).alloc (Nat.le_refl _) _
set_option maxRecDepth 100000 in
set_option maxHeartbeats 1000000 in
theorem mcopied_any (k n : Int) (s : ByteArray) (w : World) (hs : s.size ≤ 281474976710656) :
    Calls Tryz.prog 56 #[.agg #[.int .i64 k, .int .i64 n, .string s]] w fun e w' => e = .returned (.agg #[.int .i64 k, .int .i64 n, .string s]) ∧ Below w.heap.size w w' := by
  have b0 := Box3.new w k n s 52
  have b1 := Box3.new (w.alloc (.cells #[.int .i64 k, .int .i64 n, .string s] 52)) 0 0 Hp.e0 52
  rw [World.size_alloc] at b1
  replace b0 := b0.alloc (.cells #[.int .i64 0, .int .i64 0, .string Hp.e0] 52)
  have B0 : Below w.heap.size w ((w.alloc (.cells #[.int .i64 k, .int .i64 n, .string s] 52)).alloc (.cells #[.int .i64 0, .int .i64 0, .string Hp.e0] 52)) := ((Below.refl _ w).alloc (Nat.le_refl _) _).alloc (by simp) _
  have z0 : ((w.alloc (.cells #[.int .i64 k, .int .i64 n, .string s] 52)).alloc (.cells #[.int .i64 0, .int .i64 0, .string Hp.e0] 52)).heap.size = w.heap.size + 2 := by simp
  go_enter Tryz.func56, Tryz.ntmps56
  go_wp2_with fail
  generalize (w.alloc (.cells #[.int .i64 k, .int .i64 n, .string s] 52)).alloc (.cells #[.int .i64 0, .int .i64 0, .string Hp.e0] 52) = X at b0 b1 B0 z0 ⊢
  obtain ⟨⟨⟨x0, f0⟩, ⟨x1, f1⟩⟩, x2, f2⟩ := id b0
  go_wp2_with fail
  refine (Hp.clone_any s _ hs).mono ?_
  rintro e w1 ⟨rfl, hb⟩
  replace b0 := b0.below hb (by omega)
  replace b1 := b1.below hb (by omega)
  replace B0 := below2 B0 hb
  clear x0 x1 x2 f0 f1 f2 z0 hb
  obtain ⟨⟨⟨x0, f0⟩, ⟨x1, f1⟩⟩, x2, f2⟩ := id b0
  obtain ⟨⟨⟨y0, g0⟩, ⟨y1, g1⟩⟩, y2, g2⟩ := id b1
  go_wp2
  have m := (b1.set ⟨w.heap.size, 2, none⟩ (.string s) (by show w.heap.size ≠ w.heap.size + 1; omega)).put k n s
  have B1 := below_put3 (B0.setCell (p := ⟨w.heap.size, 2, none⟩) (Nat.le_refl _) (.string s)) (Nat.le_succ _) k n s
  change bodyPost Tryz.prog _ _ _ _ (put3 (w1.setCell ⟨w.heap.size, 2, none⟩ (.string s)) (w.heap.size + 1) _ _ _)
  generalize put3 (w1.setCell ⟨w.heap.size, 2, none⟩ (.string s)) (w.heap.size + 1) k n s = Z at m B1 ⊢
  obtain ⟨⟨⟨p0, -⟩, ⟨p1, -⟩⟩, p2, -⟩ := m
  exact bodyPost_ret (v := .agg #[.int .i64 k, .int .i64 n, .string s]) (by simp [results, Tryz.results56, go_sem, p0, p1, p2]) rfl ⟨rfl, B1⟩
end Go.Proofs.YtahdkffijlfmnaaGreatDoor

namespace Go.Proofs.YtahdkffijlfmnaaGreatDoor
open Go.RowKit
open Hp (V vc vcs)
theorem ret_tell {w : World} {B : Nat} {t : TypeId} {a b c d e : Value} {tm : Array Value} (h : Full w B t [a, b, c, d, e]) (h2 : tm[4]?.getD undef = .pointer (some ⟨B, 0, none⟩)) :
    (results Tryz.f96 tm).run Tryz.prog w = .ok (.agg #[a, b, c, d, e]) w := by
  simp [results, Tryz.results96, go_sem, h2, (h.cell 0 a rfl).1, (h.cell 1 b rfl).1, (h.cell 2 c rfl).1, (h.cell 3 d rfl).1, (h.cell 4 e rfl).1]
set_option maxRecDepth 100000 in
set_option maxHeartbeats 2000000 in
theorem doTell_any {w : World} {g : Nat} {K : Cg} {S : Ms} {L : List Fm} {ov : Value} {F Q : Nat → Prop} {gf cap n : Nat} {m : Fm} (h : Now w w g K L ov F Q gf cap n S m) {xs : List V} {v : V} (hx : m.f.st = xs ++ [v]) (hv : v.2.2.size ≤ 281474976710656) (a : Int) :
    Calls Tryz.prog 96 #[.pointer (some ⟨g, 0, none⟩), .int .i64 a] w fun z w' => z = .returned (yl a true v) ∧ Below w.heap.size w w' := by
  obtain ⟨L1, hM, hn, hm, hb⟩ := h.mach
  have hrow := (hM.rows m (List.mem_of_getElem? hm)).2
  obtain ⟨q, c, etv, hcp, hr⟩ := rown_slice hrow
  have hlen : m.f.st.length = xs.length + 1 := by rw [hx]; simp
  obtain ⟨gs, rfl, -⟩ := hr (by omega)
  rw [etv] at hrow
  have hvr := vcs_at hrow (m := xs.length) (by omega) rfl
  rw [show m.f.st[xs.length]'(by omega) = v by simp [hx]] at hvr
  have c3 := h.fc.2.2.2.1
  rw [etv] at c3
  obtain ⟨n1, Hn1⟩ : ∃ n1, Hid (m.f.st.length = n1) := ⟨_, (rfl : m.f.st.length = _)⟩
  have hle : m.f.st.length ≤ 400 := by obtain ⟨L2, hT, -⟩ := h; exact hT.hs
  have hw1 : IntKind.i64.wrap ((n1 : Int) - 1) = (xs.length : Int) := by have := Hn1.out; rw [IntKind.wrap_i64]; omega
  have i0 : (0 : Int) ≤ (xs.length : Int) := by omega
  have i1 : (xs.length : Int) < (n1 : Int) := by have := Hn1.out; omega
  rw [Hn1.out] at c3
  obtain ⟨k, j, s⟩ := v
  have HC : Hid (∀ w', Below w.heap.size w w' → w'.cell? ⟨gf, n * 4 + 3, none⟩ = some (.slice (some ⟨gs, 0, none⟩) n1 c) ∧ w'.cell? ⟨gs, xs.length * 3, none⟩ = some (.int .i64 k) ∧ w'.cell? ⟨gs, xs.length * 3 + 1, none⟩ = some (.int .i64 j) ∧ w'.cell? ⟨gs, xs.length * 3 + 2, none⟩ = some (.string s) ∧ Calls Tryz.prog 28 #[.pointer (some ⟨g, 0, none⟩)] w' fun z w'' => z = .returned (.pointer (some ⟨gf, n * 4, none⟩)) ∧ Below w'.heap.size w' w'') := fun w' b => by
    have kk := fun {p : Addr} {u : Value} (q : w.cell? p = some u) => (b.cell (p := p) (block_lt_of_cell q)).trans q
    refine ⟨kk c3, kk (hvr 0 _ rfl), kk (hvr 1 _ rfl), kk (hvr 2 _ rfl), top_any (hM.next b).k7 hb⟩
  have hv : s.size ≤ 281474976710656 := hv
  clear hrow hr hvr c3 etv hM hx hlen h hcp hle
  generalize xs.length = N at *
  unfold yl
  obtain ⟨X, hX⟩ : ∃ X, w.alloc (.cells #[.int .i64 0, .bool false, .int .i64 0, .int .i64 0, .string Hp.e0] 54) = X := ⟨_, rfl⟩
  have bX : Below w.heap.size w X := by rw [← hX]; exact (Below.refl _ w).alloc (Nat.le_refl _) _
  have fX : Full X w.heap.size 54 [.int .i64 0, .bool false, .int .i64 0, .int .i64 0, .string Hp.e0] := by rw [← hX]; exact Full.new w _ _
  have HX : Hid (∀ w', Below X.heap.size X w' → Full w' w.heap.size 54 [.int .i64 0, .bool false, .int .i64 0, .int .i64 0, .string Hp.e0]) := fun w' b => fX.next b
  obtain ⟨-, -, -, -, d1⟩ := HC.out X bX
  have HP : Hid (∀ w2, Full w2 w.heap.size 54 [.int .i64 0, .bool false, .int .i64 0, .int .i64 0, .string Hp.e0] → Below w.heap.size w w2 → Full (((((w2.setCell ⟨w.heap.size, 0, none⟩ (.int .i64 a)).setCell ⟨w.heap.size, 1, none⟩ (.bool true)).setCell ⟨w.heap.size, 2, none⟩ (.int .i64 k)).setCell ⟨w.heap.size, 3, none⟩ (.int .i64 j)).setCell ⟨w.heap.size, 4, none⟩ (.string s)) w.heap.size 54 [.int .i64 a, .bool true, .int .i64 k, .int .i64 j, .string s] ∧ Below w.heap.size w (((((w2.setCell ⟨w.heap.size, 0, none⟩ (.int .i64 a)).setCell ⟨w.heap.size, 1, none⟩ (.bool true)).setCell ⟨w.heap.size, 2, none⟩ (.int .i64 k)).setCell ⟨w.heap.size, 3, none⟩ (.int .i64 j)).setCell ⟨w.heap.size, 4, none⟩ (.string s))) := fun w2 f b => ⟨Full.put (g := w.heap.size) (t := 54) [.int .i64 a, .bool true, .int .i64 k, .int .i64 j, .string s] (a := []) (b := [.int .i64 0, .bool false, .int .i64 0, .int .i64 0, .string Hp.e0]) (d := []) f rfl, ((((b.setCell (p := ⟨w.heap.size, 0, none⟩) (Nat.le_refl _) _).setCell (p := ⟨w.heap.size, 1, none⟩) (Nat.le_refl _) _).setCell (p := ⟨w.heap.size, 2, none⟩) (Nat.le_refl _) _).setCell (p := ⟨w.heap.size, 3, none⟩) (Nat.le_refl _) _).setCell (p := ⟨w.heap.size, 4, none⟩) (Nat.le_refl _) _⟩
  clear fX
  go_enter Tryz.func96, Tryz.ntmps96
  go_wp2_with (first
    | (go_at_call 28; refine d1.mono ?_; rintro z1 w1 ⟨rfl, hb1⟩; clear d1; obtain ⟨c0, c1, c2, c3, -⟩ := HC.out w1 (below2 bX hb1))
    | (go_at_call 56; refine (mcopied_any k j s _ hv).mono ?_; rintro z2 w2 ⟨rfl, hb2⟩; have hf8 := HX.out w2 (below2 hb1 hb2); obtain ⟨hf9, hb9⟩ := HP.out w2 hf8 (below2 bX (below2 hb1 hb2)); obtain ⟨t0, g0⟩ := hf8.cell 0 _ rfl; obtain ⟨t1, g1⟩ := hf8.cell 1 _ rfl; obtain ⟨t2, g2⟩ := hf8.cell 2 _ rfl; obtain ⟨t3, g3⟩ := hf8.cell 3 _ rfl; obtain ⟨t4, g4⟩ := hf8.cell 4 _ rfl)
    | fail)
  exact bodyPost_ret (ret_tell hf9 rfl) rfl ⟨rfl, hb9⟩
end Go.Proofs.YtahdkffijlfmnaaGreatDoor

namespace Go.Proofs.YtahdkffijlfmnaaGreatDoor
open Go.RowKit
open Hp (V vc vcs)
theorem ret_show {w : World} {B : Nat} {t : TypeId} {a b c d e x : Value} {tm : Array Value} (h : Full w B t [a, b, c, d, e]) (h2 : tm[6]?.getD undef = .pointer (some ⟨B, 0, none⟩)) (h3 : tm[7]?.getD undef = x) :
    (results Tryz.f95 tm).run Tryz.prog w = .ok (.tuple #[.agg #[a, b, c, d, e], x]) w := by
  simp [results, Tryz.results95, go_sem, h2, h3, (h.cell 0 a rfl).1, (h.cell 1 b rfl).1, (h.cell 2 c rfl).1, (h.cell 3 d rfl).1, (h.cell 4 e rfl).1]
set_option maxRecDepth 100000 in
set_option maxHeartbeats 2000000 in
theorem doShow_any {w : World} {g : Nat} {K : Cg} {S : Ms} {L : List Fm} {ov : Value} {F Q : Nat → Prop} {gf cap n : Nat} {m : Fm} (h : Now w w g K L ov F Q gf cap n S m) (a : Int) (x : Nat) (hv : ∀ v ∈ m.f.sl, v.2.2.size ≤ 281474976710656) :
    Calls Tryz.prog 95 #[.pointer (some ⟨g, 0, none⟩), .int .i64 a, .int .i64 (x : Int)] w fun z w' => z = .returned (if hx : x < m.f.sl.length then .tuple #[yl a true m.f.sl[x], .int .i64 0] else .tuple #[yl 0 false (0, 0, Hp.e0), .int .i64 7]) ∧ Below w.heap.size w w' := by
  obtain ⟨L1, hM, hn, hm, hb⟩ := h.mach
  have hrow := (hM.rows m (List.mem_of_getElem? hm)).1
  obtain ⟨q, c, esv, hcp, hr⟩ := rown_slice hrow
  have c3 := h.fc.2.2.1
  rw [esv] at c3
  obtain ⟨n1, hn1⟩ : ∃ n1, m.f.sl.length = n1 := ⟨_, rfl⟩
  have i0 : (0 : Int) ≤ (x : Int) := by omega
  obtain ⟨X, hX⟩ : ∃ X, w.alloc (.cells #[.int .i64 0, .bool false, .int .i64 0, .int .i64 0, .string Hp.e0] 54) = X := ⟨_, rfl⟩
  have bX : Below w.heap.size w X := by rw [← hX]; exact (Below.refl _ w).alloc (Nat.le_refl _) _
  have fX : Full X w.heap.size 54 [.int .i64 0, .bool false, .int .i64 0, .int .i64 0, .string Hp.e0] := by rw [← hX]; exact Full.new w _ _
  have HX : Hid (∀ w', Below X.heap.size X w' → Full w' w.heap.size 54 [.int .i64 0, .bool false, .int .i64 0, .int .i64 0, .string Hp.e0]) := fun w' b => fX.next b
  have d1 := top_any (hM.next bX).k7 hb
  by_cases hx : x < m.f.sl.length
  · rw [dif_pos hx]
    obtain ⟨gs, rfl, -⟩ := hr (by omega)
    rw [esv] at hrow
    have hvr := vcs_at hrow hx rfl
    have hv := hv _ (List.getElem_mem hx)
    generalize m.f.sl[x] = v at hvr hv ⊢
    obtain ⟨k, j, s⟩ := v
    have hv : s.size ≤ 281474976710656 := hv
    have HC : Hid (∀ w', Below w.heap.size w w' → w'.cell? ⟨gf, n * 4 + 2, none⟩ = some (.slice (some ⟨gs, 0, none⟩) n1 c) ∧ w'.cell? ⟨gs, x * 3, none⟩ = some (.int .i64 k) ∧ w'.cell? ⟨gs, x * 3 + 1, none⟩ = some (.int .i64 j) ∧ w'.cell? ⟨gs, x * 3 + 2, none⟩ = some (.string s)) := fun w' b => by
      have kk := fun {p : Addr} {u : Value} (q : w.cell? p = some u) => (b.cell (p := p) (block_lt_of_cell q)).trans q
      rw [hn1] at c3
      exact ⟨kk c3, kk (hvr 0 _ rfl), kk (hvr 1 _ rfl), kk (hvr 2 _ rfl)⟩
    have i1 : (x : Int) < (n1 : Int) := by omega
    have i2 : ¬ ((n1 : Int) ≤ (x : Int)) := by omega
    have HP : Hid (∀ w2, Full w2 w.heap.size 54 [.int .i64 0, .bool false, .int .i64 0, .int .i64 0, .string Hp.e0] → Below w.heap.size w w2 → Full (((((w2.setCell ⟨w.heap.size, 0, none⟩ (.int .i64 a)).setCell ⟨w.heap.size, 1, none⟩ (.bool true)).setCell ⟨w.heap.size, 2, none⟩ (.int .i64 k)).setCell ⟨w.heap.size, 3, none⟩ (.int .i64 j)).setCell ⟨w.heap.size, 4, none⟩ (.string s)) w.heap.size 54 [.int .i64 a, .bool true, .int .i64 k, .int .i64 j, .string s] ∧ Below w.heap.size w (((((w2.setCell ⟨w.heap.size, 0, none⟩ (.int .i64 a)).setCell ⟨w.heap.size, 1, none⟩ (.bool true)).setCell ⟨w.heap.size, 2, none⟩ (.int .i64 k)).setCell ⟨w.heap.size, 3, none⟩ (.int .i64 j)).setCell ⟨w.heap.size, 4, none⟩ (.string s))) := fun w2 f b => ⟨Full.put (g := w.heap.size) (t := 54) [.int .i64 a, .bool true, .int .i64 k, .int .i64 j, .string s] (a := []) (b := [.int .i64 0, .bool false, .int .i64 0, .int .i64 0, .string Hp.e0]) (d := []) f rfl, ((((b.setCell (p := ⟨w.heap.size, 0, none⟩) (Nat.le_refl _) _).setCell (p := ⟨w.heap.size, 1, none⟩) (Nat.le_refl _) _).setCell (p := ⟨w.heap.size, 2, none⟩) (Nat.le_refl _) _).setCell (p := ⟨w.heap.size, 3, none⟩) (Nat.le_refl _) _).setCell (p := ⟨w.heap.size, 4, none⟩) (Nat.le_refl _) _⟩
    clear hrow hr hvr c3 esv hM hx h hcp fX hn1
    unfold yl
    go_enter Tryz.func95, Tryz.ntmps95
    go_wp2_with (first
      | (go_at_call 28; refine d1.mono ?_; rintro z1 w1 ⟨rfl, hb1⟩; clear d1; obtain ⟨c0, c1, c2, c3⟩ := HC.out w1 (below2 bX hb1))
      | (go_at_call 56; refine (mcopied_any k j s _ hv).mono ?_; rintro z2 w2 ⟨rfl, hb2⟩; have hf8 := HX.out w2 (below2 hb1 hb2); obtain ⟨hf9, hb9⟩ := HP.out w2 hf8 (below2 bX (below2 hb1 hb2)); obtain ⟨t0, g0⟩ := hf8.cell 0 _ rfl; obtain ⟨t1, g1⟩ := hf8.cell 1 _ rfl; obtain ⟨t2, g2⟩ := hf8.cell 2 _ rfl; obtain ⟨t3, g3⟩ := hf8.cell 3 _ rfl; obtain ⟨t4, g4⟩ := hf8.cell 4 _ rfl)
      | fail)
    exact bodyPost_ret (ret_show hf9 rfl rfl) rfl ⟨rfl, hb9⟩
  · rw [dif_neg hx]
    have HC : Hid (∀ w', Below w.heap.size w w' → w'.cell? ⟨gf, n * 4 + 2, none⟩ = some (.slice q n1 c)) := fun w' b => by
      rw [hn1] at c3
      exact (b.cell (p := ⟨gf, n * 4 + 2, none⟩) (block_lt_of_cell c3)).trans c3
    have i2 : ((n1 : Int) ≤ (x : Int)) := by omega
    have HP : Hid (∀ w2, Full w2 w.heap.size 54 [.int .i64 0, .bool false, .int .i64 0, .int .i64 0, .string Hp.e0] → Below w.heap.size w w2 → Full (((((w2.setCell ⟨w.heap.size, 0, none⟩ (.int .i64 0)).setCell ⟨w.heap.size, 1, none⟩ (.bool false)).setCell ⟨w.heap.size, 2, none⟩ (.int .i64 0)).setCell ⟨w.heap.size, 3, none⟩ (.int .i64 0)).setCell ⟨w.heap.size, 4, none⟩ (.string Hp.e0)) w.heap.size 54 [.int .i64 0, .bool false, .int .i64 0, .int .i64 0, .string Hp.e0] ∧ Below w.heap.size w (((((w2.setCell ⟨w.heap.size, 0, none⟩ (.int .i64 0)).setCell ⟨w.heap.size, 1, none⟩ (.bool false)).setCell ⟨w.heap.size, 2, none⟩ (.int .i64 0)).setCell ⟨w.heap.size, 3, none⟩ (.int .i64 0)).setCell ⟨w.heap.size, 4, none⟩ (.string Hp.e0))) := fun w2 f b => ⟨Full.put (g := w.heap.size) (t := 54) [.int .i64 0, .bool false, .int .i64 0, .int .i64 0, .string Hp.e0] (a := []) (b := [.int .i64 0, .bool false, .int .i64 0, .int .i64 0, .string Hp.e0]) (d := []) f rfl, ((((b.setCell (p := ⟨w.heap.size, 0, none⟩) (Nat.le_refl _) _).setCell (p := ⟨w.heap.size, 1, none⟩) (Nat.le_refl _) _).setCell (p := ⟨w.heap.size, 2, none⟩) (Nat.le_refl _) _).setCell (p := ⟨w.heap.size, 3, none⟩) (Nat.le_refl _) _).setCell (p := ⟨w.heap.size, 4, none⟩) (Nat.le_refl _) _⟩
    clear hrow hr c3 esv hM hx h hcp fX hn1
    unfold yl
    go_enter Tryz.func95, Tryz.ntmps95
    go_wp2_with (first
      | (go_at_call 28; refine d1.mono ?_; rintro z1 w1 ⟨rfl, hb1⟩; clear d1; have c0 := HC.out w1 (below2 bX hb1); have hf8 := HX.out w1 hb1; obtain ⟨hf9, hb9⟩ := HP.out w1 hf8 (below2 bX hb1); obtain ⟨t0, g0⟩ := hf8.cell 0 _ rfl; obtain ⟨t1, g1⟩ := hf8.cell 1 _ rfl; obtain ⟨t2, g2⟩ := hf8.cell 2 _ rfl; obtain ⟨t3, g3⟩ := hf8.cell 3 _ rfl; obtain ⟨t4, g4⟩ := hf8.cell 4 _ rfl)
      | fail)
    exact bodyPost_ret (ret_show hf9 rfl rfl) rfl ⟨rfl, hb9⟩
end Go.Proofs.YtahdkffijlfmnaaGreatDoor

namespace Go.Proofs.YtahdkffijlfmnaaGreatDoor
open Go.RowKit
open Hp (V vc vcs)
theorem mpushL {w : World} {g : Nat} {K : Cg} {S : Ms} {L : List Fm} {ov : Value} {F Q : Nat → Prop} {gf cap : Nat} (h : MachM w g K S L (.slice (some ⟨gf, 0, none⟩) L.length cap) ov F Q) {i : Nat} {m : Fm} (hi : L[i]? = some m) (hs : m.f.st.length ≤ 400) (h4 : ¬ m.f.st.length = 400) (v : V) :
    Calls Tryz.prog 107 #[.pointer (some ⟨gf, i * 4, none⟩), .agg #[.int .i64 v.1, .int .i64 v.2.1, .string v.2.2]] w fun z w' => z = .returned (.int .i64 0) ∧ Hid (∃ tv', MachM w' g K (S.setF i { m.f with st := m.f.st ++ [v] }) (L.set i (m.st' tv' (m.f.st ++ [v]))) (.slice (some ⟨gf, 0, none⟩) L.length cap) ov F Q ∧ (∀ b, foot (L.set i (m.st' tv' (m.f.st ++ [v]))) (.slice (some ⟨gf, 0, none⟩) L.length cap) ov F b → foot L (.slice (some ⟨gf, 0, none⟩) L.length cap) ov F b ∨ w.heap.size ≤ b) ∧ Kp (foot L (.slice (some ⟨gf, 0, none⟩) L.length cap) ov F) w w') := by
  have hm : m ∈ L := List.mem_of_getElem? hi
  have hL : 0 < L.length := List.length_pos_of_mem hm
  obtain ⟨gf', cap', e, -, hr, hu⟩ := h.fc hL
  cases e
  obtain ⟨-, -, -, r3⟩ := hr i m hi
  have hrow := (h.rows m hm).2
  refine (push_any (fo := i * 4) r3 (hu _) hrow (rown_ne hrow (h.fblk hL) (by decide)) hs v).mono fun z w' hq => ?_
  have hq := hq.out
  unfold PushR at hq
  rw [if_neg h4] at hq
  obtain ⟨h1, sv', h2, h3, h5⟩ := hq
  have e2 : vcs m.f.st ++ vc v = vcs (m.f.st ++ [v]) := by rw [Hp.vcs_app]; simp [vcs]
  have e3 : (m.f.st ++ [v]).length = m.f.st.length + 1 := by simp
  rw [e2, ← e3] at h3
  obtain ⟨k1, k2, k3⟩ := h.stack hi h2 (fun b hb => hb) h3 h5
  exact ⟨h1, sv', k1, k2, k3⟩
theorem Now.ret {w0 w : World} {g : Nat} {K : Cg} {S : Ms} {L0 : List Fm} {ov : Value} {F Q : Nat → Prop} {gf cap n : Nat} {m : Fm} (h : Now w0 w g K L0 ov F Q gf cap (n + 1) S m) {fb : Fr} (hfb : S.fs[n]? = some fb) (hs : fb.st.length ≤ 400) (h4 : ¬ fb.st.length = 400) (v : V) :
    Calls Tryz.prog 107 #[.pointer (some ⟨gf, n * 4, none⟩), .agg #[.int .i64 v.1, .int .i64 v.2.1, .string v.2.2]] w fun z w' => z = .returned (.int .i64 0) ∧ Hid (Calls Tryz.prog 114 #[.pointer (some ⟨g, 0, none⟩)] w' fun z w'' => (∃ u, z = .returned u) ∧ Hid (WentM w0 w'' g K ((S.setF n { fb with st := fb.st ++ [v] }).left (n + 1)) L0 (.slice (some ⟨gf, 0, none⟩) (n + 1 + 1) cap) ov F Q)) := by
  obtain ⟨L, hT, k⟩ := h
  obtain ⟨mb, hmb, rfl⟩ : ∃ mb, L[n]? = some mb ∧ mb.f = fb := by
    rw [← hT.h.abs, List.getElem?_map] at hfb
    cases hq : L[n]? with
    | none => rw [hq] at hfb; cases hfb
    | some mb => rw [hq] at hfb; cases hfb; exact ⟨mb, rfl, rfl⟩
  have hh := hT.h
  rw [← hT.hn] at hh
  refine (mpushL hh hmb hs h4 v).mono fun z w' q => ⟨q.1, ?_⟩
  obtain ⟨tv', q1, q2, q3⟩ := q.2.out
  rw [hT.hn] at q1 q2 q3
  have T1 : TopM w' g K (S.setF n { mb.f with st := mb.f.st ++ [v] }) (L.set n (mb.st' tv' (mb.f.st ++ [v]))) ov F Q gf cap (n + 1) m := ⟨q1, by rw [List.length_set]; exact hT.hn, by rw [List.getElem?_set_ne (by omega)]; exact hT.hm, hT.hb, hT.hs⟩
  refine (leave_any T1).mono fun z w'' r => ⟨r.1, ?_⟩
  obtain ⟨r1, r2, r3⟩ := r.2.out
  refine WentM.after k.ft k.kp (WentM.after q2 q3 ⟨_, _, _, _, r1, fun b hb => .inl (r2 b hb), r3⟩)
end Go.Proofs.YtahdkffijlfmnaaGreatDoor

namespace Go.Proofs.YtahdkffijlfmnaaGreatDoor
open Go.RowKit
open Hp (V vc vcs)
theorem Now.entry {w0 w : World} {g : Nat} {K : Cg} {S : Ms} {L0 : List Fm} {ov : Value} {F Q : Nat → Prop} {gf cap n : Nat} {m : Fm} (h : Now w0 w g K L0 ov F Q gf cap n S m) {i : Nat} (hf : FnOk K m.f i) :
    Calls Tryz.prog 72 #[.pointer (some ⟨g, 0, none⟩)] w fun z w' => z = .returned (enV (K.Es[i]'hf.2.1)) ∧ Hid (Now w0 w' g K L0 ov F Q gf cap n S m) := by
  obtain ⟨L, a, b, c, d⟩ := h.mach
  exact (mentry_any a b c d hf.1 hf.2.1).mono fun z w' q => ⟨q.1, h.next q.2⟩
theorem Now.fits {w0 w : World} {g : Nat} {K : Cg} {S : Ms} {L0 : List Fm} {ov : Value} {F Q : Nat → Prop} {gf cap n : Nat} {m : Fm} (h : Now w0 w g K L0 ov F Q gf cap n S m) (v : V) (so : Int) (hs : v.2.2.size ≤ 9223372036854775807) :
    Calls Tryz.prog 102 #[.pointer (some ⟨g, 0, none⟩), .agg #[.int .i64 v.1, .int .i64 v.2.1, .string v.2.2], .int .i64 so] w fun z w' => z = .returned (.bool (fitV S.hp v so)) ∧ Below w.heap.size w w' := by
  obtain ⟨L, a, -, -, -⟩ := h.mach
  exact mfits_any a v so hs
def doRetS (K : Cg) (S : Ms) (n : Nat) (f : Fr) (i : Nat) (hi : i < K.Es.length) (xs : List V) (v : V) : Except Int Ms :=
  if K.Es[i].1.result = 0 ∨ fitV S.hp v K.Es[i].1.result = false ∨ n = 0 then .error 7 else
    match S.fs[n - 1]? with
    | none => .error 7
    | some fb => if fb.st.length = 400 then .error 7 else .ok (((S.cut n f xs).setF (n - 1) { fb with st := fb.st ++ [v] }).left n)
set_option maxRecDepth 100000 in
set_option maxHeartbeats 4000000 in
theorem doRet_ok {w : World} {g : Nat} {K : Cg} {S : Ms} {L : List Fm} {ov : Value} {F Q : Nat → Prop} {gf cap n : Nat} {m : Fm} (h : Now w w g K L ov F Q gf cap (n + 1) S m) {xs : List V} {v : V} (hx : m.f.st = xs ++ [v]) (hv : v.2.2.size ≤ 9223372036854775807) {i : Nat} (hf : FnOk K m.f i) {fb : Fr} (hfb : S.fs[n]? = some fb) (hs : fb.st.length ≤ 400) (h4 : ¬ fb.st.length = 400) (h0 : ¬ (K.Es[i]'hf.2.1).1.result = 0) (hfit : fitV S.hp v (K.Es[i]'hf.2.1).1.result = true) :
    Calls Tryz.prog 85 #[.pointer (some ⟨g, 0, none⟩)] w fun z w' => z = .returned (.int .i64 0) ∧ Hid (WentM w w' g K (((S.cut (n + 1) m.f xs).setF n { fb with st := fb.st ++ [v] }).left (n + 1)) L (.slice (some ⟨gf, 0, none⟩) (n + 1 + 1) cap) ov F Q) := by
  obtain ⟨k, j, s⟩ := v
  have hbb : n + 1 + 1 ≤ 9223372036854775807 := by obtain ⟨L1, -, -, -, hb⟩ := h.mach; exact hb
  have H0 : Hid (Now w w g K L ov F Q gf cap (n + 1) S m) := h
  have HX : Hid (m.f.st = xs ++ [(k, j, s)] ∧ s.size ≤ 9223372036854775807) := ⟨hx, hv⟩
  have HB : Hid ((S.cut (n + 1) m.f xs).fs[n]? = some fb ∧ fb.st.length ≤ 400 ∧ ¬ fb.st.length = 400) := ⟨by
    show (S.fs.set (n + 1) _)[n]? = _
    rw [List.getElem?_set_ne (by omega)]
    exact hfb, hs, h4⟩
  have d1 := h.entry hf
  unfold enV at d1
  generalize K.Es[i]'hf.2.1 = E at d1 h0 hfit
  have hfd := fldE (.string E.1.name) (.int .i64 E.1.start) (.int .i64 E.1.params) (.slice E.2.1 E.1.sorts.length E.2.2) (.int .i64 E.1.result) 4 _ rfl
  obtain ⟨so, hso⟩ : ∃ so, E.1.result = so := ⟨_, rfl⟩
  rw [hso] at hfd d1 h0 hfit
  have HFI : Hid (fitV S.hp (k, j, s) so = true) := hfit
  have k0 : (so == 0) = false := by rw [beq_eq_false_iff_ne]; exact h0
  obtain ⟨n2, Hn2⟩ : ∃ n2, Hid (n + 1 + 1 = n2) := ⟨_, (rfl : n + 1 + 1 = _)⟩
  have hw2 : IntKind.i64.wrap ((n2 : Int) - 2) = (n : Int) := by have := Hn2.out; rw [IntKind.wrap_i64]; omega
  have k1 : ((n2 : Int) == 1) = false := by have := Hn2.out; rw [beq_eq_false_iff_ne]; omega
  have k2 : ¬ ((n2 : Int) = 1) := by have := Hn2.out; omega
  have i0 : (0 : Int) ≤ (n : Int) := by omega
  have i1 : (n : Int) < (n2 : Int) := by have := Hn2.out; omega
  clear h hx hv hf hfb hs h4 hfit hso hbb
  go_enter Tryz.func85, Tryz.ntmps85
  go_wp2_with (first
    | (go_at_call 72; refine d1.mono ?_; rintro z1 w1 ⟨rfl, H1⟩; clear d1 H0)
    | (go_at_call 28; refine (Now.top H1.out).mono ?_; rintro z2 w2 ⟨rfl, H2⟩; clear H1)
    | (go_at_call 109; refine (Now.pop H2.out HX.out.1).mono ?_; rintro z3 w3 ⟨rfl, H3⟩; clear H2; obtain ⟨tv3, H3⟩ := H3.out; replace H3 : Hid _ := H3)
    | fail)
  have f1 := Full.new w3 #[.int .i64 k, .int .i64 j, .string s] 52
  have H4 : Hid _ := H3.out.alloc (.cells #[.int .i64 k, .int .i64 j, .string s] 52)
  generalize w3.alloc (.cells #[.int .i64 k, .int .i64 j, .string s] 52) = X at H4 f1 ⊢
  clear H3
  have d2 : Calls Tryz.prog 102 #[.pointer (some ⟨g, 0, none⟩), .agg #[.int .i64 k, .int .i64 j, .string s], .int .i64 so] X fun z w' => z = .returned (.bool true) ∧ Below X.heap.size X w' := (Now.fits H4.out (k, j, s) so HX.out.2).mono fun z w' q => ⟨by rw [q.1, show (S.cut (n + 1) m.f xs).hp = S.hp from rfl, HFI.out], q.2⟩
  refine d2.mono ?_
  rintro z4 w4 ⟨rfl, hb4⟩
  have H5 : Hid _ := H4.out.next hb4
  have c7 : w4.cell? ⟨g, 7, none⟩ = some (.slice (some ⟨gf, 0, none⟩) n2 cap) := by
    obtain ⟨L1, hM, -, -, -⟩ := H5.out.mach
    rw [← Hn2.out]
    exact hM.k7
  replace f1 := f1.next hb4
  clear d2 H4 hb4
  go_wp2_with fail
  have y7 := cell_regrown c7
  refine wp_region_quiet_below (by kernel_rfl) (by kernel_rfl) ?_
  repeat (first | go_big_quiet_step (first | fail) | quiet_step (first | fail))
  refine wpQuiet_nil ?_
  intro _ hw'
  obtain ⟨⟨dq, osq⟩, hw''⟩ := hw'
  subst hw''
  have hY := below_regrown w4 dq osq
  first | (change Exit.then _ _ Exit.normal _ (Sort.grow (redrawn w4 dq) osq)) | skip
  generalize Sort.grow (redrawn w4 dq) osq = Y at hY ⊢
  have H6 : Hid _ := H5.out.next hY
  replace f1 := f1.next hY
  have x0 := (f1.cell 0 _ rfl).1
  have x1 := (f1.cell 1 _ rfl).1
  have x2 := (f1.cell 2 _ rfl).1
  clear y7 c7 H5 hY f1
  go_wp2_with (first
    | (go_at_call 107; refine (Now.ret H6.out HB.out.1 HB.out.2.1 HB.out.2.2 (k, j, s)).mono ?_; rintro z7 w7 ⟨rfl, H7⟩)
    | (go_at_call 114; refine H7.out.mono ?_; rintro z8 w8 ⟨⟨u8, rfl⟩, H8⟩)
    | fail)
  go_ret
  exact ⟨rfl, H8⟩
end Go.Proofs.YtahdkffijlfmnaaGreatDoor

namespace Go.Proofs.YtahdkffijlfmnaaGreatDoor
open Go.RowKit
open Hp (V vc vcs vaB)
def Cel (W : World) (T : Nat) (l : List Value) : Prop := Blk W T 82 17 ∧ ∀ j v, l[j]? = some v → W.cell? ⟨T, j, none⟩ = some v
theorem Full.cel {W : World} {T : Nat} {l : List Value} (h : Full W T 82 l) (hl : l.length = 17) : Cel W T l := ⟨⟨_, h, by simp [hl]⟩, fun j v hv => (h.cell j v hv).1⟩
theorem Cel.same {W W' : World} {T : Nat} {l : List Value} (h : Cel W T l) (e : W'.heap[T]? = W.heap[T]?) : Cel W' T l := ⟨h.1.same e, fun j v hv => (World.cell?_of_block (w := W) (a := ⟨T, j, none⟩) e).trans (h.2 j v hv)⟩
theorem Cel.set {W : World} {T : Nat} {l : List Value} (h : Cel W T l) (j : Nat) (hj : j < 17) (x : Value) : Cel (W.setCell ⟨T, j, none⟩ x) T (l.set j x) := by
  refine ⟨h.1.setCell _ _, fun k v hv => ?_⟩
  rw [List.getElem?_set] at hv
  split at hv
  · rename_i e
    subst e
    split at hv
    · cases hv
      refine World.cell?_setCell_same' _ _ _ ?_
      exact (h.1.there j 1 (by omega) 0 (by decide)).1
    · cases hv
  · rename_i e
    rw [World.cell?_setCell_other _ _ _ _ (fun q => e (by have := congrArg Addr.off q; exact this))]
    exact h.2 k v hv
structure RsI (w W : World) (g rb : Nat) (K : Cg) (Q : Nat → Prop) (l : List Value) (bs : List UInt8) : Prop where
  c : Cel W g l
  q : CodeQ W Q K
  r : Hp.Box2 W rb (.string (Hp.str bs)) (.bool false)
  k : Kp (fun x => x = g ∨ x = rb) w W
  n : g ≠ rb ∧ ¬ Q g ∧ ¬ Q rb ∧ g < w.heap.size ∧ rb < w.heap.size
  lb : bs.length ≤ 900000000
theorem RsI.read {w W W' : World} {g rb : Nat} {K : Cg} {Q : Nat → Prop} {l : List Value} {bs bs' : List UInt8} (h : RsI w W g rb K Q l bs) (hr : Hp.Box2 W' rb (.string (Hp.str bs')) (.bool false)) (k : Kp (fun x => x = rb) W W') (hl : bs'.length ≤ bs.length) : RsI w W' g rb K Q l bs' := by
  obtain ⟨n1, n2, n3, n4, n5⟩ := h.n
  exact ⟨h.c.same (k.block g h.c.1.lt n1), h.q.same (fun b hb => k.block b (h.q.lt b hb) fun e => n3 (e ▸ hb)) k.size, hr, h.k.trans k fun x _ hx => .inr hx, h.n, Nat.le_trans hl h.lb⟩
theorem RsI.next {w W W' : World} {g rb : Nat} {K : Cg} {Q : Nat → Prop} {l : List Value} {bs : List UInt8} (h : RsI w W g rb K Q l bs) (k : Below W.heap.size W W') : RsI w W' g rb K Q l bs :=
  ⟨h.c.same (k.block g h.c.1.lt), h.q.same (fun b hb => k.block b (h.q.lt b hb)) k.size, h.r.below k (block_lt_of_cell h.r.1.1), h.k.next k, h.n, h.lb⟩
theorem RsI.set {w W : World} {g rb : Nat} {K : Cg} {Q : Nat → Prop} {l : List Value} {bs : List UInt8} (h : RsI w W g rb K Q l bs) (j : Nat) (hj : j < 17) (x : Value) : RsI w (W.setCell ⟨g, j, none⟩ x) g rb K Q (l.set j x) bs := by
  obtain ⟨n1, n2, n3, n4, n5⟩ := h.n
  have k : Kp (fun b => b = g) W (W.setCell ⟨g, j, none⟩ x) := (Kp.refl (fun b => b = g) W).setCell (p := ⟨g, j, none⟩) (.inl rfl) x
  exact ⟨h.c.set j hj x, h.q.same (fun b hb => k.block b (h.q.lt b hb) fun e => n2 (e ▸ hb)) k.size, h.r.same (k.block rb (block_lt_of_cell h.r.1.1) (Ne.symm n1)), h.k.trans k fun _ _ hx => .inl hx, h.n, h.lb⟩
theorem RsI.cell {w W : World} {g rb : Nat} {K : Cg} {Q : Nat → Prop} {l : List Value} {bs : List UInt8} (h : RsI w W g rb K Q l bs) (j : Nat) {v : Value} (hv : l[j]? = some v) : W.cell? ⟨g, j, none⟩ = some v ∧ W.frozen? ⟨g, j, none⟩ = false := ⟨h.c.2 j v hv, h.c.1.unfrozen j⟩
theorem RsI.within {w W : World} {g rb : Nat} {K : Cg} {Q : Nat → Prop} {l : List Value} {bs : List UInt8} (x : Int) (k : Nat) (h : RsI w W g rb K Q l (Hp.numB x k ++ bs)) (lo hi : Int) (hv : Hp.numV (Hp.numB x k) = x) (h0 : lo ≤ x) (h1 : x ≤ hi) :
    Calls Tryz.prog 61 #[.pointer (some ⟨rb, 0, none⟩), .int .i64 (k : Int), .int .i64 lo, .int .i64 hi] W fun e w' => e = .returned (.int .i64 x) ∧ Hid (RsI w w' g rb K Q l bs ∧ Kp (fun x => x = rb) W w') := by
  have q := Hp.within_any W rb (Hp.numB x k) bs lo hi (by have := h.lb; omega) h.r (by rw [hv]; exact h0) (by rw [hv]; exact h1)
  rw [Hp.numB_len, hv] at q
  exact q.mono fun e w' r => ⟨r.1, h.read r.2.out.1 r.2.out.2 (by rw [List.length_append]; omega), r.2.out.2⟩
theorem RsI.piece {w W : World} {g rb : Nat} {K : Cg} {Q : Nat → Prop} {l : List Value} {bs a : List UInt8} (h : RsI w W g rb K Q l (Hp.numB (a.length : Int) 8 ++ (a ++ bs))) :
    Calls Tryz.prog 63 #[.pointer (some ⟨rb, 0, none⟩), .int .i64 ((8 : Nat) : Int)] W fun e w' => e = .returned (.string (Hp.str a)) ∧ Hid (RsI w w' g rb K Q l bs ∧ Kp (fun x => x = rb) W w') := by
  have hl := h.lb
  simp only [List.length_append] at hl
  have q := Hp.piece_any W rb 8 a bs (Hp.num8 _ (by omega) (by omega)) (by simp only [List.length_append]; omega) h.r
  exact q.mono fun e w' r => ⟨r.1, h.read r.2.out.1 r.2.out.2 (by simp only [List.length_append]; omega), r.2.out.2⟩
theorem RsI.values {w W : World} {g rb : Nat} {K : Cg} {Q : Nat → Prop} {l : List Value} {bs : List UInt8} (vs : List V) (h : RsI w W g rb K Q l (vs.flatMap vaB ++ bs)) (hv : ∀ v ∈ vs, Hp.RdV v) (hn : vs.length ≤ 100000) :
    Calls Tryz.prog 98 #[.pointer (some ⟨rb, 0, none⟩), .int .i64 (vs.length : Int)] W fun e w' => e = .returned (.slice (some ⟨W.heap.size, 0, none⟩) vs.length vs.length) ∧ Hid (RsI w w' g rb K Q l bs ∧ w'.ownsRow W.heap.size 52 3 (.slice (some ⟨W.heap.size, 0, none⟩) vs.length vs.length) vs.length (vcs vs) ∧ Kp (fun x => x = rb) W w' ∧ W.heap.size < w'.heap.size) := by
  have q := Hp.values_any W rb vs bs hv hn (by have := h.lb; omega) h.r
  exact q.mono fun e w' r => ⟨r.1, h.read r.2.out.2.1 r.2.out.2.2 (by rw [List.length_append]; omega), r.2.out.1, r.2.out.2.2, (r.2.out.1.lt _ rfl).2⟩
end Go.Proofs.YtahdkffijlfmnaaGreatDoor
