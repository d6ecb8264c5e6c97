import Derived.Test.YtahdkffijlfmnaaGreatDoorT15
namespace Go.Proofs.YtahdkffijlfmnaaGreatDoor
open Go.RowKit
open Hp (V vc vcs)
def Ms.put (S : Ms) (n : Nat) (f : Fr) (a : Nat) (v : V) : Ms := S.setF n { f with sl := f.sl.set a v }
theorem fm_same {L : List Fm} {i : Nat} {m m' : Fm} (hi : L[i]? = some m) (e : fmc m' = fmc m) : (L.set i m').flatMap fmc = L.flatMap fmc := by
  obtain ⟨hil, rfl⟩ := List.getElem?_eq_some_iff.1 hi
  rw [List.flatMap_def, List.flatMap_def, List.map_set, e]
  congr 1
  apply List.ext_getElem?
  intro k
  rw [List.getElem?_set]
  split
  · rename_i h; subst h; simp [hil]
  · rfl
theorem Now.store {w0 w : World} {g : Nat} {K : Cg} {S : Ms} {L0 : List Fm} {ov : Value} {F Q : Nat → Prop} {gf cap n : Nat} {m : Fm} (h : Now w0 w g K L0 ov F Q gf cap n S m) {gs c : Nat} (esv : m.sv = .slice (some ⟨gs, 0, none⟩) m.f.sl.length c) (a : Nat) (ha : a < m.f.sl.length) (v : V) :
    DoR w0 (w.setCells gs (a * 3) (vc v)) g K L0 (.slice (some ⟨gf, 0, none⟩) (n + 1) cap) ov F Q gf (n * 4) (.returned (.int .i64 0)) (.ok (S.put n m.f a v)) := by
  obtain ⟨L, h, k⟩ := h
  have hmm : m ∈ L := List.mem_of_getElem? h.hm
  obtain ⟨r1, r2⟩ := h.h.rows m hmm
  have hsb : (obk m.sv) = some gs := by
    obtain ⟨q0, c0, e0, hc0, -⟩ := rown_slice r1
    rw [esv] at e0
    cases e0
    rw [esv]
    exact obk_pos (by omega)
  have hk : Kp (fun x => x = gs) w (w.setCells gs (a * 3) (vc v)) := Kp.setCells (F := fun x => x = gs) (.inl rfl) (vc v) (a * 3) (Kp.refl _ w)
  have hne : gf ≠ gs := fun e => rown_ne r1 (h.h.fblk (by have := h.hn; omega)) (by decide) (by rw [hsb, e])
  have hfr : OwnR (w.setCells gs (a * 3) (vc v)) 89 4 (.slice (some ⟨gf, 0, none⟩) (n + 1) cap) L.length (L.flatMap fmc) := rown_same h.h.fr fun b hb => by
    have hb := obk_own hb
    cases hb
    exact sets_heap hne _ _ _
  have hs : OwnR (w.setCells gs (a * 3) (vc v)) 52 3 m.sv (m.f.sl.set a v).length (vcs (m.f.sl.set a v)) := by
    rw [List.length_set, esv]
    rw [esv] at r1
    rw [esv] at hsb
    have hc0 : 0 < c := by
      rcases Nat.eq_zero_or_pos c with e | e
      · rw [e, obk_zero] at hsb; cases hsb
      · exact e
    exact .inl (own_setT (c := vc) (k := 3) (fun _ => rfl) rfl (rown_own r1 hc0) a ha v)
  have ht : OwnR (w.setCells gs (a * 3) (vc v)) 52 3 m.tv m.f.st.length (vcs m.f.st) := rown_same r2 fun b hb => sets_heap (fun e => (h.h.sep n n m m h.hm h.hm).1 gs hsb (by rw [← e]; exact hb)) _ _ _
  have hkk : Kp (fun x => (obk (Value.slice (some ⟨gf, 0, none⟩) (n + 1) cap)) = some x ∨ (obk m.sv) = some x ∨ (obk m.tv) = some x) w (w.setCells gs (a * 3) (vc v)) := ⟨hk.os, hk.tape, hk.output, hk.size, fun b hbl hn => hk.block b hbl fun e => hn (.inr (.inl (by rw [e]; exact hsb)))⟩
  have hkf : Kp (foot L (.slice (some ⟨gf, 0, none⟩) (n + 1) cap) ov F) w (w.setCells gs (a * 3) (vc v)) := ⟨hk.os, hk.tape, hk.output, hk.size, fun b hbl hn => hk.block b hbl fun e => hn (.inr (.inr (.inr ⟨m, hmm, .inl (by rw [e]; exact hsb)⟩)))⟩
  have e2 := h.h.frame h.hm (m' := ⟨{ m.f with sl := m.f.sl.set a v }, m.sv, m.tv⟩) hkk (by rw [fm_same (m' := ⟨{ m.f with sl := m.f.sl.set a v }, m.sv, m.tv⟩) h.hm rfl]; exact hfr) hs ht (fun b hb => .inl hb) (fun b hb => .inl hb) (fun b hb => (h.h.sep n n m m h.hm h.hm).1 b hb)
  exact DoR.after k ⟨rfl, _, _, _, _, e2.1, e2.2, hkf⟩
theorem DoR.code {w w' : World} {g : Nat} {K : Cg} {S : Ms} {L : List Fm} {ov : Value} {F Q : Nat → Prop} {gf cap n : Nat} {m : Fm} {z : Ending} {R : Except Int Ms} (h : Now w w g K L ov F Q gf cap n S m) (k : DoR w w' g K L (.slice (some ⟨gf, 0, none⟩) (n + 1) cap) ov F Q gf (n * 4) z R) : CodeQ w' Q K ∧ w'.cell? ⟨g, 2, none⟩ = some (.slice K.tq K.c.txs.length K.ta) := by
  cases R with
  | ok S' =>
    obtain ⟨-, L', fv', ov', F', k1, -, -⟩ := k
    exact ⟨k1.code, k1.k2⟩
  | error t =>
    obtain ⟨L1, hM, hnL, -, -⟩ := h.mach
    have hk := k.2.kp
    obtain ⟨hb, hF, -⟩ := hM.heap.blk
    refine ⟨hM.code.same (fun b hb => hk.block b (hM.code.lt b hb) fun e => (hM.nq b hb).2.1 (by rw [e]; exact hM.fob (by omega))) hk.size, ?_⟩
    exact (World.cell?_of_block (w := w) (a := ⟨g, 2, none⟩) (hk.block g hb.lt fun e => hM.nv g (.inl (by rw [e]; exact hM.fob (by omega))) hF)).trans hM.k2
def doTextS (K : Cg) (S : Ms) (n : Nat) (f : Fr) (a : Nat) : Except Int Ms := if h : a < K.c.txs.length then doPush S n f (3, 0, K.c.txs[a]) else .error 7
set_option maxRecDepth 100000 in
set_option maxHeartbeats 2000000 in
theorem doText_any {w : World} {g : Nat} {K : Cg} {S : Ms} {L : List Fm} {ov : Value} {F Q : Nat → Prop} {gf cap n : Nat} {m : Fm} (h : Now w w g K L ov F Q gf cap n S m) (a : Nat) :
    Calls Tryz.prog 76 #[.pointer (some ⟨g, 0, none⟩), .int .i64 (a : Int)] w fun z w' => Hid (DoR w w' g K L (.slice (some ⟨gf, 0, none⟩) (n + 1) cap) ov F Q gf (n * 4) z (doTextS K S n m.f a)) := by
  have H0 : Hid (Now w w g K L ov F Q gf cap n S m) := h
  unfold doTextS
  have i0 : (0 : Int) ≤ (a : Int) := by omega
  by_cases ha : a < K.c.txs.length
  · rw [dif_pos ha]
    obtain ⟨L1, hM, -, -, -⟩ := h.mach
    obtain ⟨gt, o, hq, -, -⟩ := hM.code.tr (by omega)
    have HE : Hid (∀ w', CodeQ w' Q K → w'.cell? ⟨g, 2, none⟩ = some (.slice K.tq K.c.txs.length K.ta) → w'.cell? ⟨g, 2, none⟩ = some (.slice (some ⟨gt, o, none⟩) K.c.txs.length K.ta) ∧ w'.cell? ⟨gt, o + a, none⟩ = some (.string K.c.txs[a])) := fun w' hc h2 => by
      obtain ⟨gt', o', hq', -, hr⟩ := hc.tr (by omega)
      rw [hq] at hq'
      cases hq'
      refine ⟨by rw [← hq]; exact h2, hr a _ ?_⟩
      unfold tv
      rw [List.getElem?_map, List.getElem?_eq_getElem ha]
      rfl
    have HC : Hid (∀ w', Now w w' g K L ov F Q gf cap n S m → w'.cell? ⟨g, 2, none⟩ = some (.slice (some ⟨gt, o, none⟩) K.c.txs.length K.ta) ∧ w'.cell? ⟨gt, o + a, none⟩ = some (.string K.c.txs[a])) := fun w' h' => by
      obtain ⟨L2, hM, -, -, -⟩ := h'.mach
      exact HE.out w' hM.code hM.k2
    obtain ⟨s, hs⟩ : ∃ s, K.c.txs[a] = s := ⟨_, rfl⟩
    rw [hs] at HC HE ⊢
    obtain ⟨N, hN⟩ : ∃ N, K.c.txs.length = N := ⟨_, rfl⟩
    rw [hN] at HC HE
    have HN : Hid (K.c.txs.length = N) := hN
    have i1 : (a : Int) < (N : Int) := by omega
    have i2 : ¬ ((N : Int) ≤ (a : Int)) := by omega
    clear hM hs hN ha
    obtain ⟨c0, c1⟩ := HC.out w h
    have HD : Hid (∀ w' z, DoR w w' g K L (.slice (some ⟨gf, 0, none⟩) (n + 1) cap) ov F Q gf (n * 4) z (doPush S n m.f (3, 0, s)) → w'.cell? ⟨g, 2, none⟩ = some (.slice (some ⟨gt, o, none⟩) N K.ta) ∧ w'.cell? ⟨gt, o + a, none⟩ = some (.string s)) := fun w' z k => by
      have hh := DoR.code h k
      rw [HN.out] at hh
      exact HE.out w' hh.1 hh.2
    clear h HE
    have dd : Now w w.drew g K L ov F Q gf cap n S m := H0.out.next (Below.refl _ w).drew
    have D0 : Hid (Now w w.drew g K L ov F Q gf cap n S m) := dd
    clear dd
    go_enter Tryz.func76, Tryz.ntmps76
    go_upto_region 3 with fail
    go_region_held3 (fun w' => w'.cell? ⟨g, 2, none⟩ = some (.slice (some ⟨gt, o, none⟩) N K.ta) ∧ w'.cell? ⟨gt, o + a, none⟩ = some (.string s)) (first | exact HC.out _ D0.out | exact HC.out _ H1.out | exact HD.out _ _ hq4.out)
      (first
      | (go_at_call 28; refine (Now.top D0.out).mono ?_; rintro z1 w1 ⟨rfl, H1⟩; clear D0)
      | (go_at_call 107; refine (Now.push H1.out (3, 0, s)).mono ?_; intro z4 w4 hq4; obtain ⟨t4, e4⟩ := DoR.ret hq4.out; subst e4)
      | fail)
    go_wp2
    go_ret
    exact hq4
  · rw [dif_neg ha]
    obtain ⟨L1, hM, -, -, -⟩ := h.mach
    have c0 := hM.k2
    obtain ⟨N, hN⟩ : ∃ N, K.c.txs.length = N := ⟨_, rfl⟩
    rw [hN] at c0
    have i2 : ((N : Int) ≤ (a : Int)) := by omega
    clear hM h hN ha
    go_enter Tryz.func76, Tryz.ntmps76
    go_wp2
    go_ret
    exact H0.out.err 7
end Go.Proofs.YtahdkffijlfmnaaGreatDoor

namespace Go.Proofs.YtahdkffijlfmnaaGreatDoor
open Go.RowKit
open Hp (V vc vcs)
theorem Now.hLen {w0 w : World} {g : Nat} {K : Cg} {S : Ms} {L0 : List Fm} {ov : Value} {F Q : Nat → Prop} {gf cap n : Nat} {m : Fm} (h : Now w0 w g K L0 ov F Q gf cap n S m) (v : V) (hs : v.2.2.size ≤ 9223372036854775807) :
    Calls Tryz.prog 103 #[.pointer (some ⟨g, 8, none⟩), .agg #[.int .i64 v.1, .int .i64 v.2.1, .string v.2.2]] w fun e w' => e = .returned (.tuple #[.int .i64 ((Hp.findH S.hp v).1.2.length : Int), .int .i64 (Hp.findH S.hp v).2]) ∧ Below w.heap.size w w' := by
  obtain ⟨L, hM, -, -, -⟩ := h.mach
  exact Hp.lenH_any hM.heap v hs
theorem Now.hGet {w0 w : World} {g : Nat} {K : Cg} {S : Ms} {L0 : List Fm} {ov : Value} {F Q : Nat → Prop} {gf cap n : Nat} {m : Fm} (h : Now w0 w g K L0 ov F Q gf cap n S m) (v : V) (i : Int) (hs : v.2.2.size ≤ 9223372036854775807) :
    Calls Tryz.prog 117 #[.pointer (some ⟨g, 8, none⟩), .agg #[.int .i64 v.1, .int .i64 v.2.1, .string v.2.2], .int .i64 i] w fun e w' => e = .returned (.tuple #[.agg (vc (Hp.getH S.hp v i).1).toArray, .int .i64 (Hp.getH S.hp v i).2]) ∧ Below w.heap.size w w' := by
  obtain ⟨L, hM, -, -, -⟩ := h.mach
  exact Hp.get_any hM.heap v i hs
def doLenS (S : Ms) (n : Nat) (f : Fr) (xs : List V) (v : V) : Except Int Ms :=
  if v.1 = 3 then doPush (S.cut n f xs) n { f with st := xs } (1, (v.2.2.size : Int), Hp.e0) else cutPush S n f xs ((1, ((Hp.findH S.hp v).1.2.length : Int), Hp.e0), (Hp.findH S.hp v).2)
set_option maxRecDepth 100000 in
set_option maxHeartbeats 2000000 in
theorem doLen_any {w : World} {g : Nat} {K : Cg} {S : Ms} {L : List Fm} {ov : Value} {F Q : Nat → Prop} {gf cap n : Nat} {m : Fm} (h : Now w w g K L ov F Q gf cap n S m) {xs : List V} {v : V} (hx : m.f.st = xs ++ [v]) (hv : v.2.2.size ≤ 9223372036854775807) :
    Calls Tryz.prog 90 #[.pointer (some ⟨g, 0, none⟩)] w fun z w' => Hid (DoR w w' g K L (.slice (some ⟨gf, 0, none⟩) (n + 1) cap) ov F Q gf (n * 4) z (doLenS S n m.f xs v)) := by
  obtain ⟨k, j, s⟩ := v
  have H0 : Hid (Now w w g K L ov F Q gf cap n S m) := h
  have HX : Hid (m.f.st = xs ++ [(k, j, s)] ∧ s.size ≤ 9223372036854775807) := ⟨hx, hv⟩
  unfold doLenS
  show Calls _ _ _ _ fun z w' => Hid (DoR _ _ _ _ _ _ _ _ _ _ _ _ (if k = 3 then doPush (S.cut n m.f xs) n { m.f with st := xs } (1, (s.size : Int), Hp.e0) else _))
  clear h hx
  by_cases h1 : k = 3
  · subst h1
    rw [if_pos rfl]
    go_enter Tryz.func90, Tryz.ntmps90
    go_wp2_with (first
      | (go_at_call 28; refine (Now.top H0.out).mono ?_; rintro z1 w1 ⟨rfl, H1⟩; clear H0)
      | (go_at_call 109; refine (Now.pop H1.out HX.out.1).mono ?_; rintro z2 w2 ⟨rfl, H2⟩; clear H1; obtain ⟨tv', H2⟩ := H2.out; replace H2 : Hid _ := H2)
      | (go_at_call 108; refine (mnumber_any _ _).mono ?_; rintro z3 w3 ⟨rfl, hb3⟩; have H3 := (H2.out.alloc _).next hb3; replace H3 : Hid _ := H3; clear H2 hb3)
      | (go_at_call 107; refine (Now.push H3.out (1, (s.size : Int), Hp.e0)).mono ?_; intro z4 w4 hq4; obtain ⟨t4, e4⟩ := DoR.ret hq4.out; subst e4)
      | fail)
    go_ret
    exact hq4
  · rw [if_neg h1]
    have k0 : (k == 3) = false := by rw [beq_eq_false_iff_ne]; exact h1
    obtain ⟨r, hr⟩ : ∃ r, Hp.findH S.hp (k, j, s) = r := ⟨_, rfl⟩
    rw [hr]
    have HR : Hid (Hp.findH S.hp (k, j, s) = r) := hr
    clear hr
    go_enter Tryz.func90, Tryz.ntmps90
    go_wp2_with (first
      | (go_at_call 28; refine (Now.top H0.out).mono ?_; rintro z1 w1 ⟨rfl, H1⟩; clear H0)
      | (go_at_call 109; refine (Now.pop H1.out HX.out.1).mono ?_; rintro z2 w2 ⟨rfl, H2⟩; clear H1; obtain ⟨tv', H2⟩ := H2.out; replace H2 : Hid _ := H2)
      | fail)
    have H3 : Hid _ := H2.out.alloc (.cells #[.int .i64 k, .int .i64 j, .string s] 52)
    have fX := Full.new w2 #[.int .i64 k, .int .i64 j, .string s] 52
    generalize w2.alloc (.cells #[.int .i64 k, .int .i64 j, .string s] 52) = X at H3 fX ⊢
    have x0 := cell_regrown (fX.cell 0 _ rfl).1
    have x1 := cell_regrown (fX.cell 1 _ rfl).1
    have x2 := cell_regrown (fX.cell 2 _ rfl).1
    have d1 : ∀ d os, Calls Tryz.prog 103 #[.pointer (some ⟨g, 8, none⟩), .agg #[.int .i64 k, .int .i64 j, .string s]] (Sort.grow (redrawn X d) os) fun e w'' => e = .returned (.tuple #[.int .i64 ((Hp.findH S.hp (k, j, s)).1.2.length : Int), .int .i64 (Hp.findH S.hp (k, j, s)).2]) ∧ ∃ z : Regrown, w'' = Sort.grow (redrawn X z.d) z.os := fun d os => Calls.regrown_of (Now.hLen (H3.out.next (below_regrown X d os)) (k, j, s) HX.out.2)
    rw [HR.out] at d1
    clear fX
    refine wp_region_quiet_below (by kernel_rfl) (by kernel_rfl) ?_
    repeat (first | go_big_quiet_step (first | with_reducible exact d1 _ _) | quiet_step (first | with_reducible exact d1 _ _))
    refine wpQuiet_nil ?_
    intro _ hw'
    obtain ⟨⟨dq, osq⟩, hw''⟩ := hw'
    subst hw''
    have hY := below_regrown X dq osq
    first | (change Exit.then _ _ Exit.normal _ (Sort.grow (redrawn X dq) osq)) | skip
    generalize Sort.grow (redrawn X dq) osq = Y at hY ⊢
    clear d1
    have H4 : Hid _ := H3.out.next hY
    clear H3 hY x0 x1 x2
    go_wp2_with (first
      | (go_at_call 108; refine (mnumber_any _ _).mono ?_; rintro z3 w3 ⟨rfl, hb3⟩; have H5 := H4.out.next hb3; replace H5 : Hid _ := H5; clear H4 hb3)
      | (go_at_call 110; refine (Now.pushOr H5.out (1, (r.1.2.length : Int), Hp.e0) r.2).mono ?_; intro z4 w4 hq4; obtain ⟨t4, e4⟩ := DoR.ret hq4.out; subst e4)
      | fail)
    go_ret
    exact hq4
end Go.Proofs.YtahdkffijlfmnaaGreatDoor

namespace Go.Proofs.YtahdkffijlfmnaaGreatDoor
open Go.RowKit
open Hp (V vc vcs)
theorem callGet (a b c : Value) (w : World) : (callFunc 117 #[a, b, c]).run Tryz.prog w = .ok (.enter 117 #[a, b, c]) w := by kernel_rfl
theorem callPushOr (a b c : Value) (w : World) : (callFunc 110 #[a, b, c]).run Tryz.prog w = .ok (.enter 110 #[a, b, c]) w := by kernel_rfl
theorem pushOr_v {w0 w : World} {g : Nat} {K : Cg} {S : Ms} {L0 : List Fm} {ov : Value} {F Q : Nat → Prop} {gf cap n : Nat} {m : Fm} (h : Now w0 w g K L0 ov F Q gf cap n S m) (v : V) (t : Int) :
    Calls Tryz.prog 110 #[.pointer (some ⟨gf, n * 4, none⟩), .agg #[.int .i64 v.1, .int .i64 v.2.1, .string v.2.2], .int .i64 t] w fun z w' => ∃ u, z = .returned u ∧ ∃ t', u = .int .i64 t' ∧ Hid (DoR w0 w' g K L0 (.slice (some ⟨gf, 0, none⟩) (n + 1) cap) ov F Q gf (n * 4) (.returned (.int .i64 t')) (doPushOr S n m.f (v, t))) := (Now.pushOr h v t).mono fun z w' q => by
  obtain ⟨t', rfl⟩ := DoR.ret q.out
  exact ⟨_, rfl, t', rfl, q⟩
def doGetS (S : Ms) (n : Nat) (f : Fr) (xs : List V) (v u : V) : Except Int Ms :=
  if v.1 = 3 then cutPush (S.cut n f (xs ++ [v])) n { f with st := xs ++ [v] } xs (vt (Hp.atS v.1 v.2.1 v.2.2 u.1 u.2.1 u.2.2))
  else if v.1 = 4 ∧ u.1 = 1 then cutPush (S.cut n f (xs ++ [v])) n { f with st := xs ++ [v] } xs (Hp.getH S.hp v u.2.1) else .error 7
set_option maxRecDepth 100000 in
set_option maxHeartbeats 4000000 in
theorem doGet_any {w : World} {g : Nat} {K : Cg} {S : Ms} {L : List Fm} {ov : Value} {F Q : Nat → Prop} {gf cap n : Nat} {m : Fm} (h : Now w w g K L ov F Q gf cap n S m) {xs : List V} {v u : V} (hx : m.f.st = (xs ++ [v]) ++ [u]) (hv : v.2.2.size ≤ 9223372036854775807) (hu : u.2.2.size ≤ 9223372036854775807) :
    Calls Tryz.prog 88 #[.pointer (some ⟨g, 0, none⟩)] w fun z w' => Hid (DoR w w' g K L (.slice (some ⟨gf, 0, none⟩) (n + 1) cap) ov F Q gf (n * 4) z (doGetS S n m.f xs v u)) := by
  obtain ⟨k, j, s⟩ := v
  obtain ⟨k', j', s'⟩ := u
  have H0 : Hid (Now w w g K L ov F Q gf cap n S m) := h
  have HX : Hid (m.f.st = (xs ++ [(k, j, s)]) ++ [(k', j', s')] ∧ s.size ≤ 9223372036854775807) := ⟨hx, hv⟩
  have HU := fun W => Hp.at_any k j s k' j' s' W hv hu
  unfold doGetS
  show Calls _ _ _ _ fun z w' => Hid (DoR _ _ _ _ _ _ _ _ _ _ _ _ (if k = 3 then cutPush (S.cut n m.f (xs ++ [(k, j, s)])) n { m.f with st := xs ++ [(k, j, s)] } xs (vt (Hp.atS k j s k' j' s')) else if k = 4 ∧ k' = 1 then cutPush (S.cut n m.f (xs ++ [(k, j, s)])) n { m.f with st := xs ++ [(k, j, s)] } xs (Hp.getH S.hp (k, j, s) j') else .error 7))
  obtain ⟨r, hr⟩ : ∃ r, Hp.atS k j s k' j' s' = r := ⟨_, rfl⟩
  rw [hr] at HU ⊢
  have HU : Hid _ := HU
  clear h hx hv hu hr
  by_cases h1 : k = 3
  · subst h1
    rw [if_pos rfl]
    go_enter Tryz.func88, Tryz.ntmps88
    go_wp2_with (first
      | (go_at_call 28; refine (Now.top H0.out).mono ?_; rintro z1 w1 ⟨rfl, H1⟩; clear H0)
      | (go_at_call 109; refine (Now.pop H1.out HX.out.1).mono ?_; rintro z2 w2 ⟨rfl, H2⟩; clear H1; obtain ⟨tv', H2⟩ := H2.out; replace H2 : Hid _ := H2)
      | (go_at_call 109; refine (Now.pop (xs := xs) (v := (3, j, s)) H2.out rfl).mono ?_; rintro z5 w5 ⟨rfl, H5⟩; clear H2; obtain ⟨tv5, H5⟩ := H5.out; replace H5 : Hid _ := H5)
      | (go_at_call 116; refine (HU.out _).mono ?_; rintro z3 w3 ⟨rfl, hb3⟩; have H3 := ((H5.out.alloc _).alloc _).next hb3; replace H3 : Hid _ := H3; clear H5 hb3)
      | (go_at_call 110; refine (Now.pushOr H3.out (r.1, r.2.1, r.2.2.1) r.2.2.2).mono ?_; intro z4 w4 hq4; obtain ⟨t4, e4⟩ := DoR.ret hq4.out; subst e4)
      | fail)
    go_ret
    exact hq4
  · rw [if_neg h1]
    have k0 : (k == 3) = false := by rw [beq_eq_false_iff_ne]; exact h1
    clear HU
    by_cases h2 : k = 4 ∧ k' = 1
    · rw [if_pos h2]
      obtain ⟨rfl, rfl⟩ := h2
      obtain ⟨r, hr⟩ : ∃ r, Hp.getH S.hp (4, j, s) j' = r := ⟨_, rfl⟩
      rw [hr]
      have HR : Hid (Hp.getH S.hp (4, j, s) j' = r) := hr
      clear hr
      go_enter Tryz.func88, Tryz.ntmps88
      go_wp2_with (first
        | (go_at_call 28; refine (Now.top H0.out).mono ?_; rintro z1 w1 ⟨rfl, H1⟩; clear H0)
        | (go_at_call 109; refine (Now.pop H1.out HX.out.1).mono ?_; rintro z2 w2 ⟨rfl, H2⟩; clear H1; obtain ⟨tv', H2⟩ := H2.out; replace H2 : Hid _ := H2)
        | (go_at_call 109; refine (Now.pop (xs := xs) (v := (4, j, s)) H2.out rfl).mono ?_; rintro z5 w5 ⟨rfl, H5⟩; clear H2; obtain ⟨tv5, H5⟩ := H5.out; replace H5 : Hid _ := H5)
        | fail)
      have f1 := Full.new w5 #[.int .i64 1, .int .i64 j', .string s'] 52
      have f2 := Full.new (w5.alloc (.cells #[.int .i64 1, .int .i64 j', .string s'] 52)) #[.int .i64 4, .int .i64 j, .string s] 52
      have b2 : Below (w5.alloc (.cells #[.int .i64 1, .int .i64 j', .string s'] 52)).heap.size (w5.alloc (.cells #[.int .i64 1, .int .i64 j', .string s'] 52)) ((w5.alloc (.cells #[.int .i64 1, .int .i64 j', .string s'] 52)).alloc (.cells #[.int .i64 4, .int .i64 j, .string s] 52)) := (Below.refl _ _).alloc (Nat.le_refl _) _
      have z2 : (w5.alloc (.cells #[.int .i64 1, .int .i64 j', .string s'] 52)).heap.size = w5.heap.size + 1 := by simp
      have f1 := f1.next b2
      rw [z2] at f2
      have H6 : Hid _ := (H5.out.alloc (.cells #[.int .i64 1, .int .i64 j', .string s'] 52)).alloc (.cells #[.int .i64 4, .int .i64 j, .string s] 52)
      clear b2 z2 H5
      generalize (w5.alloc (.cells #[.int .i64 1, .int .i64 j', .string s'] 52)).alloc (.cells #[.int .i64 4, .int .i64 j, .string s] 52) = X at f1 f2 H6 ⊢
      have bd : Below X.heap.size X X.drew := (Below.refl _ X).drew
      have H7 : Hid _ := H6.out.next bd
      replace f1 := f1.next bd
      replace f2 := f2.next bd
      have x1 := (f1.cell 1 _ rfl).1
      have y0 := (f2.cell 0 _ rfl).1
      have y1 := (f2.cell 1 _ rfl).1
      have y2 := (f2.cell 2 _ rfl).1
      have d1 : Calls Tryz.prog 117 #[.pointer (some ⟨g, 8, none⟩), .agg #[.int .i64 4, .int .i64 j, .string s], .int .i64 j'] X.drew fun e w' => ∃ v, e = .returned v ∧ v = .tuple #[.agg #[.int .i64 r.1.1, .int .i64 r.1.2.1, .string r.1.2.2], .int .i64 r.2] ∧ Hid (Now w w' g K L ov F Q gf cap n ((S.cut n m.f (xs ++ [(4, j, s)])).cut n (m.st' tv' (xs ++ [(4, j, s)])).f xs) ((m.st' tv' (xs ++ [(4, j, s)])).st' tv5 xs)) := (Now.hGet H7.out (4, j, s) j' HX.out.2).mono fun e w' q => ⟨_, q.1, by rw [show ((S.cut n m.f (xs ++ [(4, j, s)])).cut n (m.st' tv' (xs ++ [(4, j, s)])).f xs).hp = S.hp from rfl, HR.out]; rfl, H7.out.next q.2⟩
      clear f1 f2 bd H6 H7
      go_region_law (first
        | (refine step_call (by rfl) 117 [.tmp 35, .tmp 36, .tmp 38] _ [.pointer (some ⟨g, 8, none⟩), .agg #[.int .i64 4, .int .i64 j, .string s], .int .i64 j'] (by rfl) (by rfl) (callGet _ _ _) (fun v w' => v = .tuple #[.agg #[.int .i64 r.1.1, .int .i64 r.1.2.1, .string r.1.2.2], .int .i64 r.2] ∧ Hid (Now w w' g K L ov F Q gf cap n ((S.cut n m.f (xs ++ [(4, j, s)])).cut n (m.st' tv' (xs ++ [(4, j, s)])).f xs) ((m.st' tv' (xs ++ [(4, j, s)])).st' tv5 xs))) d1 ?_; rintro v8 w8 ⟨rfl, H8⟩)
        | (refine step_call (by rfl) 110 [.tmp 32, .tmp 40, .tmp 41] _ [.pointer (some ⟨gf, n * 4, none⟩), .agg #[.int .i64 r.1.1, .int .i64 r.1.2.1, .string r.1.2.2], .int .i64 r.2] (by rfl) (by rfl) (callPushOr _ _ _) (fun v w' => ∃ t, v = .int .i64 t ∧ Hid (DoR w w' g K L (.slice (some ⟨gf, 0, none⟩) (n + 1) cap) ov F Q gf (n * 4) (.returned (.int .i64 t)) (cutPush (S.cut n m.f (xs ++ [(4, j, s)])) n { m.f with st := xs ++ [(4, j, s)] } xs r))) (pushOr_v H8.out r.1 r.2) ?_; rintro v4 w4 ⟨t4, rfl, hq4⟩))
      all_goals
        clear x1 y0 y1 y2 d1
        go_wp2
        go_ret
        exact hq4
    · rw [if_neg h2]
      by_cases h4 : k = 4
      · have h5 : ¬ k' = 1 := fun q => h2 ⟨h4, q⟩
        subst h4
        have k5 : (k' == 1) = false := by rw [beq_eq_false_iff_ne]; exact h5
        go_enter Tryz.func88, Tryz.ntmps88
        go_wp2_with (first
          | (go_at_call 28; refine (Now.top H0.out).mono ?_; rintro z1 w1 ⟨rfl, H1⟩; clear H0)
          | (go_at_call 109; refine (Now.pop H1.out HX.out.1).mono ?_; rintro z2 w2 ⟨rfl, H2⟩; clear H1; obtain ⟨tv', H2⟩ := H2.out; replace H2 : Hid _ := H2)
          | (go_at_call 109; refine (Now.pop (xs := xs) (v := (4, j, s)) H2.out rfl).mono ?_; rintro z5 w5 ⟨rfl, H5⟩; clear H2; obtain ⟨tv5, H5⟩ := H5.out; replace H5 : Hid _ := H5)
          | fail)
        go_ret
        exact ((H5.out.alloc _).alloc _).err 7
      · have k5 : (k == 4) = false := by rw [beq_eq_false_iff_ne]; exact h4
        go_enter Tryz.func88, Tryz.ntmps88
        go_wp2_with (first
          | (go_at_call 28; refine (Now.top H0.out).mono ?_; rintro z1 w1 ⟨rfl, H1⟩; clear H0)
          | (go_at_call 109; refine (Now.pop H1.out HX.out.1).mono ?_; rintro z2 w2 ⟨rfl, H2⟩; clear H1; obtain ⟨tv', H2⟩ := H2.out; replace H2 : Hid _ := H2)
          | (go_at_call 109; refine (Now.pop (xs := xs) (v := (k, j, s)) H2.out rfl).mono ?_; rintro z5 w5 ⟨rfl, H5⟩; clear H2; obtain ⟨tv5, H5⟩ := H5.out; replace H5 : Hid _ := H5)
          | fail)
        go_ret
        exact ((H5.out.alloc _).alloc _).err 7
end Go.Proofs.YtahdkffijlfmnaaGreatDoor

namespace Go.Proofs.YtahdkffijlfmnaaGreatDoor
open Go.RowKit
open Hp (V vc vcs)
theorem full2 (w : World) (A B : Array Value) (t : TypeId) : Full ((w.alloc (.cells A t)).alloc (.cells B t)) w.heap.size t A.toList ∧ Full ((w.alloc (.cells A t)).alloc (.cells B t)) (w.heap.size + 1) t B.toList := by
  have z : (w.alloc (.cells A t)).heap.size = w.heap.size + 1 := by simp
  refine ⟨(Full.new w A t).next ((Below.refl _ _).alloc (Nat.le_refl _) _), ?_⟩
  have := Full.new (w.alloc (.cells A t)) B t
  rwa [z] at this
theorem full3 (w : World) (A B C : Array Value) (t : TypeId) : Full (((w.alloc (.cells A t)).alloc (.cells B t)).alloc (.cells C t)) w.heap.size t A.toList ∧ Full (((w.alloc (.cells A t)).alloc (.cells B t)).alloc (.cells C t)) (w.heap.size + 1) t B.toList ∧ Full (((w.alloc (.cells A t)).alloc (.cells B t)).alloc (.cells C t)) (w.heap.size + 1 + 1) t C.toList := by
  have z : (w.alloc (.cells A t)).heap.size = w.heap.size + 1 := by simp
  obtain ⟨h2, h3⟩ := full2 (w.alloc (.cells A t)) B C t
  rw [z] at h2 h3
  exact ⟨(full2 w A B t).1.next ((Below.refl _ _).alloc (Nat.le_refl _) _), h2, h3⟩
theorem callPut (a b c d : Value) (w : World) : (callFunc 118 #[a, b, c, d]).run Tryz.prog w = .ok (.enter 118 #[a, b, c, d]) w := by kernel_rfl
def Ms.heap (S : Ms) (A : Hp.Hp) : Ms := { S with hp := A }
theorem MachM.heaped {w w' : World} {g : Nat} {K : Cg} {S : Ms} {L : List Fm} {fv ov : Value} {F Q F' : Nat → Prop} {A : Hp.Hp} (h : MachM w g K S L fv ov F Q) (hh : Hp.HeapOf w' (mhp g K S fv ov) K.lim A F') (hk : Kp F w w') (hF : ∀ b, F' b → F b ∨ w.heap.size ≤ b) : MachM w' g K (S.heap A) L fv ov F' Q ∧ (∀ b, foot L fv ov F' b → foot L fv ov F b ∨ w.heap.size ≤ b) ∧ Kp (foot L fv ov F) w w' := by
  have hlt := h.lt
  have keep : ∀ b, ¬ F b → b < w.heap.size → w'.heap[b]? = w.heap[b]? := fun b hn hl => hk.block b hl hn
  refine ⟨⟨h.code.same (fun b hb => keep b (h.nq b hb).1 (h.code.lt b hb)) hk.size, hh, rown_same h.fr fun b hb => keep b (h.nv b (.inl hb)) (rown_blk h.fr b hb).lt, h.abs, fun m hm => ⟨rown_same (h.rows m hm).1 fun b hb => keep b (h.nf m hm b (.inl hb)) (rown_blk (h.rows m hm).1 b hb).lt, rown_same (h.rows m hm).2 fun b hb => keep b (h.nf m hm b (.inr hb)) (rown_blk (h.rows m hm).2 b hb).lt⟩, rown_same h.out fun b hb => keep b (h.nv b (.inr hb)) (rown_bk h.out b hb).lt, h.sep, fun m hm b hb q => ?_, fun b hb q => ?_, fun b hb => ?_⟩, fun b hb => ?_, ⟨hk.os, hk.tape, hk.output, hk.size, fun b hb hn => hk.block b hb fun q => hn (.inl q)⟩⟩
  · rcases hF b q with r | r
    · exact h.nf m hm b hb r
    · have := hlt b (.inl (.inr (.inr (.inr ⟨m, hm, hb⟩)))); omega
  · rcases hF b q with r | r
    · exact h.nv b hb r
    · have := hlt b (.inl (by rcases hb with hb | hb; exact .inr (.inl hb); exact .inr (.inr (.inl hb)))); omega
  · obtain ⟨n0, n1⟩ := h.nq b hb
    refine ⟨fun q => ?_, n1⟩
    rcases hF b q with r | r
    · exact n0 r
    · have := h.code.lt b hb; omega
  · rcases hb with hb | hb
    · rcases hF b hb with r | r
      · exact .inl (.inl r)
      · exact .inr r
    · exact .inl (.inr hb)
def doPutS (S : Ms) (n : Nat) (f : Fr) (xs : List V) (a i v : V) : Except Int Ms :=
  if i.1 = 1 then (if (Hp.putH S.hp a i.2.1 v).2 = 0 then .ok ((((S.cut n f (xs ++ [a] ++ [i])).cut n { f with st := xs ++ [a] ++ [i] } (xs ++ [a])).cut n { f with st := xs ++ [a] } xs).heap (Hp.putH S.hp a i.2.1 v).1) else .error (Hp.putH S.hp a i.2.1 v).2) else .error 7
theorem Now.hPut {w0 w : World} {g : Nat} {K : Cg} {S : Ms} {L0 : List Fm} {ov : Value} {F Q : Nat → Prop} {gf cap n : Nat} {m : Fm} (h : Now w0 w g K L0 ov F Q gf cap n S m) (a : V) (i : Int) (v : V) (ha : a.2.2.size ≤ 9223372036854775807) (hv : v.2.2.size ≤ 9223372036854775807) :
    Calls Tryz.prog 118 #[.pointer (some ⟨g, 8, none⟩), .agg #[.int .i64 a.1, .int .i64 a.2.1, .string a.2.2], .int .i64 i, .agg #[.int .i64 v.1, .int .i64 v.2.1, .string v.2.2]] w fun e w' => Hid (DoR w0 w' g K L0 (.slice (some ⟨gf, 0, none⟩) (n + 1) cap) ov F Q gf (n * 4) e (if (Hp.putH S.hp a i v).2 = 0 then .ok (S.heap (Hp.putH S.hp a i v).1) else .error (Hp.putH S.hp a i v).2)) := by
  obtain ⟨L, h, k⟩ := h
  refine (Hp.put_any h.h.heap a i v ha hv).mono fun e w' q => ?_
  obtain ⟨q1, q2, q3⟩ := q
  show DoR _ _ _ _ _ _ _ _ _ _ _ _ _
  refine DoR.after k ?_
  by_cases ht : (Hp.putH S.hp a i v).2 = 0
  · rw [if_pos ht]
    rw [ht] at q1
    obtain ⟨r1, r2, r3⟩ := h.h.heaped q2 ⟨q3.os, q3.tape, q3.output, q3.size, fun b hb hn => q3.block b hb fun x => hn x.1⟩ (fun b hb => .inl hb)
    exact ⟨q1, _, _, _, _, r1, r2, r3⟩
  · rw [if_neg ht]
    exact ⟨q1, TopT.of (h.h.fblk (by have := h.hn; omega)) (q3.below (B := w.heap.size) (fun b x => absurd x.2 ht) (Nat.le_refl _))⟩
set_option maxRecDepth 100000 in
set_option maxHeartbeats 4000000 in
theorem doPut_any {w : World} {g : Nat} {K : Cg} {S : Ms} {L : List Fm} {ov : Value} {F Q : Nat → Prop} {gf cap n : Nat} {m : Fm} (h : Now w w g K L ov F Q gf cap n S m) {xs : List V} {a i v : V} (hx : m.f.st = xs ++ [a] ++ [i] ++ [v]) (ha : a.2.2.size ≤ 9223372036854775807) (hv : v.2.2.size ≤ 9223372036854775807) :
    Calls Tryz.prog 89 #[.pointer (some ⟨g, 0, none⟩)] w fun z w' => Hid (DoR w w' g K L (.slice (some ⟨gf, 0, none⟩) (n + 1) cap) ov F Q gf (n * 4) z (doPutS S n m.f xs a i v)) := by
  obtain ⟨ak, aj, at_⟩ := a
  obtain ⟨ik, ij, it_⟩ := i
  obtain ⟨vk, vj, vs⟩ := v
  have H0 : Hid (Now w w g K L ov F Q gf cap n S m) := h
  have HX : Hid (m.f.st = xs ++ [(ak, aj, at_)] ++ [(ik, ij, it_)] ++ [(vk, vj, vs)] ∧ at_.size ≤ 9223372036854775807 ∧ vs.size ≤ 9223372036854775807) := ⟨hx, ha, hv⟩
  unfold doPutS
  clear h hx ha hv
  by_cases h1 : ik = 1
  · rw [if_pos h1]
    subst h1
    show Calls _ _ _ _ fun z w' => Hid (DoR _ _ _ _ _ _ _ _ _ _ _ _ (if (Hp.putH S.hp (ak, aj, at_) ij (vk, vj, vs)).2 = 0 then .ok ((((S.cut n m.f (xs ++ [(ak, aj, at_)] ++ [(1, ij, it_)])).cut n { m.f with st := xs ++ [(ak, aj, at_)] ++ [(1, ij, it_)] } (xs ++ [(ak, aj, at_)])).cut n { m.f with st := xs ++ [(ak, aj, at_)] } xs).heap (Hp.putH S.hp (ak, aj, at_) ij (vk, vj, vs)).1) else .error (Hp.putH S.hp (ak, aj, at_) ij (vk, vj, vs)).2))
    obtain ⟨R, hR⟩ : ∃ R : Except Int Ms, (if (Hp.putH S.hp (ak, aj, at_) ij (vk, vj, vs)).2 = 0 then .ok ((((S.cut n m.f (xs ++ [(ak, aj, at_)] ++ [(1, ij, it_)])).cut n { m.f with st := xs ++ [(ak, aj, at_)] ++ [(1, ij, it_)] } (xs ++ [(ak, aj, at_)])).cut n { m.f with st := xs ++ [(ak, aj, at_)] } xs).heap (Hp.putH S.hp (ak, aj, at_) ij (vk, vj, vs)).1) else .error (Hp.putH S.hp (ak, aj, at_) ij (vk, vj, vs)).2) = R := ⟨_, rfl⟩
    rw [hR]
    have HR : Hid _ := hR
    clear hR
    go_enter Tryz.func89, Tryz.ntmps89
    go_wp2_with (first
      | (go_at_call 28; refine (Now.top H0.out).mono ?_; rintro z1 w1 ⟨rfl, H1⟩; clear H0)
      | (go_at_call 109; refine (Now.pop H1.out HX.out.1).mono ?_; rintro z2 w2 ⟨rfl, H2⟩; clear H1; obtain ⟨tv2, H2⟩ := H2.out; replace H2 : Hid _ := H2)
      | (go_at_call 109; refine (Now.pop (xs := xs ++ [(ak, aj, at_)]) (v := (1, ij, it_)) H2.out rfl).mono ?_; rintro z3 w3 ⟨rfl, H3⟩; clear H2; obtain ⟨tv3, H3⟩ := H3.out; replace H3 : Hid _ := H3)
      | (go_at_call 109; refine (Now.pop (xs := xs) (v := (ak, aj, at_)) H3.out rfl).mono ?_; rintro z4 w4 ⟨rfl, H4⟩; clear H3; obtain ⟨tv4, H4⟩ := H4.out; replace H4 : Hid _ := H4)
      | fail)
    obtain ⟨f1, f2, f3⟩ := full3 w4 #[.int .i64 vk, .int .i64 vj, .string vs] #[.int .i64 1, .int .i64 ij, .string it_] #[.int .i64 ak, .int .i64 aj, .string at_] 52
    have H5 : Hid _ := ((H4.out.alloc (.cells #[.int .i64 vk, .int .i64 vj, .string vs] 52)).alloc (.cells #[.int .i64 1, .int .i64 ij, .string it_] 52)).alloc (.cells #[.int .i64 ak, .int .i64 aj, .string at_] 52)
    generalize ((w4.alloc (.cells #[.int .i64 vk, .int .i64 vj, .string vs] 52)).alloc (.cells #[.int .i64 1, .int .i64 ij, .string it_] 52)).alloc (.cells #[.int .i64 ak, .int .i64 aj, .string at_] 52) = X at f1 f2 f3 H5 ⊢
    have bd : Below X.heap.size X X.drew := (Below.refl _ X).drew
    have H6 : Hid _ := H5.out.next bd
    replace f1 := f1.next bd
    replace f2 := f2.next bd
    replace f3 := f3.next bd
    have x0 := (f1.cell 0 _ rfl).1
    have x1 := (f1.cell 1 _ rfl).1
    have x2 := (f1.cell 2 _ rfl).1
    have y1 := (f2.cell 1 _ rfl).1
    have u0 := (f3.cell 0 _ rfl).1
    have u1 := (f3.cell 1 _ rfl).1
    have u2 := (f3.cell 2 _ rfl).1
    have d1 : Calls Tryz.prog 118 #[.pointer (some ⟨g, 8, none⟩), .agg #[.int .i64 ak, .int .i64 aj, .string at_], .int .i64 ij, .agg #[.int .i64 vk, .int .i64 vj, .string vs]] X.drew fun e w' => ∃ v, e = .returned v ∧ ∃ t, v = .int .i64 t ∧ Hid (DoR w w' g K L (.slice (some ⟨gf, 0, none⟩) (n + 1) cap) ov F Q gf (n * 4) (.returned (.int .i64 t)) R) := (Now.hPut H6.out (ak, aj, at_) ij (vk, vj, vs) HX.out.2.1 HX.out.2.2).mono fun e w' q => by
      obtain ⟨t, rfl⟩ := DoR.ret q.out
      exact ⟨_, rfl, t, rfl, by rw [← HR.out]; exact q⟩
    clear f1 f2 f3 bd H5 H6 H4
    go_region_law (refine step_call (by rfl) 118 [.tmp 20, .tmp 21, .tmp 23, .tmp 24] _ [.pointer (some ⟨g, 8, none⟩), .agg #[.int .i64 ak, .int .i64 aj, .string at_], .int .i64 ij, .agg #[.int .i64 vk, .int .i64 vj, .string vs]] (by rfl) (by rfl) (callPut _ _ _ _) (fun v w' => ∃ t, v = .int .i64 t ∧ Hid (DoR w w' g K L (.slice (some ⟨gf, 0, none⟩) (n + 1) cap) ov F Q gf (n * 4) (.returned (.int .i64 t)) R)) d1 ?_; rintro v9 w9 ⟨t9, rfl, hq9⟩)
    all_goals
      clear x0 x1 x2 y1 u0 u1 u2 d1
      go_wp2
      go_ret
      exact hq9
  · rw [if_neg h1]
    have k0 : (ik == 1) = false := by rw [beq_eq_false_iff_ne]; exact h1
    have k1 : (ik != 1) = true := by rw [bne, k0]; rfl
    go_enter Tryz.func89, Tryz.ntmps89
    go_wp2_with (first
      | (go_at_call 28; refine (Now.top H0.out).mono ?_; rintro z1 w1 ⟨rfl, H1⟩; clear H0)
      | (go_at_call 109; refine (Now.pop H1.out HX.out.1).mono ?_; rintro z2 w2 ⟨rfl, H2⟩; clear H1; obtain ⟨tv2, H2⟩ := H2.out; replace H2 : Hid _ := H2)
      | (go_at_call 109; refine (Now.pop (xs := xs ++ [(ak, aj, at_)]) (v := (ik, ij, it_)) H2.out rfl).mono ?_; rintro z3 w3 ⟨rfl, H3⟩; clear H2; obtain ⟨tv3, H3⟩ := H3.out; replace H3 : Hid _ := H3)
      | (go_at_call 109; refine (Now.pop (xs := xs) (v := (ak, aj, at_)) H3.out rfl).mono ?_; rintro z4 w4 ⟨rfl, H4⟩; clear H3; obtain ⟨tv4, H4⟩ := H4.out; replace H4 : Hid _ := H4)
      | fail)
    go_ret
    exact (((H4.out.alloc _).alloc _).alloc _).err 7
end Go.Proofs.YtahdkffijlfmnaaGreatDoor

namespace Go.Proofs.YtahdkffijlfmnaaGreatDoor
open Go.RowKit
open Hp (V vc vcs)
theorem WentM.after {w0 w1 w2 : World} {g : Nat} {K : Cg} {S' : Ms} {L0 L1 : List Fm} {fv0 ov0 fv1 ov1 : Value} {F0 F1 Q : Nat → Prop} (hf : ∀ b, foot L1 fv1 ov1 F1 b → foot L0 fv0 ov0 F0 b ∨ w0.heap.size ≤ b) (hk : Kp (foot L0 fv0 ov0 F0) w0 w1) (h : WentM w1 w2 g K S' L1 fv1 ov1 F1 Q) : WentM w0 w2 g K S' L0 fv0 ov0 F0 Q := by
  obtain ⟨L', fv', ov', F', k1, k2, k3⟩ := h
  refine ⟨L', fv', ov', F', k1, fun b hb => ?_, hk.trans k3 fun b hb hq => ?_⟩
  · rcases k2 b hb with r | r
    · exact hf b r
    · exact .inr (Nat.le_trans hk.size r)
  · rcases hf b hq with r | r
    · exact r
    · omega
def Zap (w0 : World) (L0 : List Fm) (fv ov : Value) (F : Nat → Prop) : Prop := Hp.Zt w0 ∧ ¬ foot L0 fv ov F 4
theorem Now.zt {w0 w : World} {g : Nat} {K : Cg} {S : Ms} {L0 : List Fm} {ov : Value} {F Q : Nat → Prop} {gf cap n : Nat} {m : Fm} (h : Now w0 w g K L0 ov F Q gf cap n S m) (hz : Zap w0 L0 (.slice (some ⟨gf, 0, none⟩) (n + 1) cap) ov F) : Hp.Zt w ∧ ¬ F 4 := by
  obtain ⟨L, h, k⟩ := h
  exact ⟨hz.1.same (k.kp.block _ hz.1.pos hz.2), fun q => hz.2 (.inl q)⟩
theorem Now.hMake {w0 w : World} {g : Nat} {K : Cg} {S : Ms} {L0 : List Fm} {ov : Value} {F Q : Nat → Prop} {gf cap n : Nat} {m : Fm} (h : Now w0 w g K L0 ov F Q gf cap n S m) (hz : Zap w0 L0 (.slice (some ⟨gf, 0, none⟩) (n + 1) cap) ov F) (hlt : m.f.st.length < 400) (kind i : Int) :
    Calls Tryz.prog 115 #[.pointer (some ⟨g, 8, none⟩), .int .i64 kind, .int .i64 i] w fun e w' => e = .returned (.tuple #[.agg (vc (Hp.makeH S.hp K.lim kind i).2.1).toArray, .int .i64 (Hp.makeH S.hp K.lim kind i).2.2]) ∧ Hid (Calls Tryz.prog 110 #[.pointer (some ⟨gf, n * 4, none⟩), .agg #[.int .i64 (Hp.makeH S.hp K.lim kind i).2.1.1, .int .i64 (Hp.makeH S.hp K.lim kind i).2.1.2.1, .string (Hp.makeH S.hp K.lim kind i).2.1.2.2], .int .i64 (Hp.makeH S.hp K.lim kind i).2.2] w' fun z w'' => ∃ u, z = .returned u ∧ ∃ t', u = .int .i64 t' ∧ Hid (DoR w0 w'' g K L0 (.slice (some ⟨gf, 0, none⟩) (n + 1) cap) ov F Q gf (n * 4) (.returned (.int .i64 t')) (doPushOr (S.heap (Hp.makeH S.hp K.lim kind i).1) n m.f (Hp.makeH S.hp K.lim kind i).2))) := by
  obtain ⟨hz1, hz2⟩ := h.zt hz
  obtain ⟨L, hT, k⟩ := id h
  refine (Hp.make_any hT.h.heap hz1 hz2 kind i).mono fun e w' q => ⟨q.1, ?_⟩
  obtain ⟨F', q2, q3, q4⟩ := q.2.out
  generalize Hp.makeH S.hp K.lim kind i = r at q2 q3 ⊢
  obtain ⟨A, v, t⟩ := r
  simp only at q2 q3 ⊢
  by_cases ht : t = 0
  · subst ht
    obtain ⟨r1, r2, r3⟩ := hT.h.heaped q2 ⟨q3.os, q3.tape, q3.output, q3.size, fun b hb hn => q3.block b hb fun x => hn x.1⟩ q4
    have T1 : TopM w' g K (S.heap A) L ov F' Q gf cap n m := ⟨r1, hT.hn, hT.hm, hT.hb, hT.hs⟩
    refine (pushOr_v T1.now v 0).mono fun z w'' hq => ?_
    obtain ⟨u, e1, t', e2, hq⟩ := hq
    refine ⟨u, e1, t', e2, ?_⟩
    have hq := hq.out
    show DoR _ _ _ _ _ _ _ _ _ _ _ _ _
    unfold doPushOr doPush pushS at hq ⊢
    rw [if_pos rfl, if_neg (by omega)] at hq ⊢
    refine ⟨hq.1, WentM.after (fun b hb => ?_) ?_ hq.2⟩
    · rcases r2 b hb with r | r
      · exact k.ft b r
      · exact .inr (Nat.le_trans k.kp.size r)
    · exact k.kp.trans r3 fun b hb hq => by
        rcases k.ft b hq with r | r
        · exact r
        · omega
  · have hB : Below w.heap.size w w' := q3.below (B := w.heap.size) (fun b x => absurd x.2 ht) (Nat.le_refl _)
    refine (pushOr_v (h.next hB) v t).mono fun z w'' hq => ?_
    obtain ⟨u, e1, t', e2, hq⟩ := hq
    refine ⟨u, e1, t', e2, ?_⟩
    unfold doPushOr at hq ⊢
    rw [if_neg ht] at hq ⊢
    exact hq
theorem callKind (a : Value) (w : World) : (callFunc 51 #[a]).run Tryz.prog w = .ok (.enter 51 #[a]) w := by kernel_rfl
theorem callMake (a b c : Value) (w : World) : (callFunc 115 #[a, b, c]).run Tryz.prog w = .ok (.enter 115 #[a, b, c]) w := by kernel_rfl
def doNewS (K : Cg) (S : Ms) (n : Nat) (f : Fr) (xs : List V) (v : V) (so : Int) : Except Int Ms :=
  if v.1 = 1 then doPushOr ((S.cut n f xs).heap (Hp.makeH S.hp K.lim (kindS so) v.2.1).1) n { f with st := xs } (Hp.makeH S.hp K.lim (kindS so) v.2.1).2 else .error 7
set_option maxRecDepth 100000 in
set_option maxHeartbeats 4000000 in
theorem doNew_any {w : World} {g : Nat} {K : Cg} {S : Ms} {L : List Fm} {ov : Value} {F Q : Nat → Prop} {gf cap n : Nat} {m : Fm} (h : Now w w g K L ov F Q gf cap n S m) (hz : Zap w L (.slice (some ⟨gf, 0, none⟩) (n + 1) cap) ov F) {xs : List V} {v : V} (hx : m.f.st = xs ++ [v]) (so : Int) :
    Calls Tryz.prog 87 #[.pointer (some ⟨g, 0, none⟩), .int .i64 so] w fun z w' => Hid (DoR w w' g K L (.slice (some ⟨gf, 0, none⟩) (n + 1) cap) ov F Q gf (n * 4) z (doNewS K S n m.f xs v so)) := by
  obtain ⟨k, j, s⟩ := v
  have hl : xs.length < 400 := by
    obtain ⟨L1, hT, -⟩ := h
    have := hT.hs
    rw [hx] at this
    simp at this
    omega
  have H0 : Hid (Now w w g K L ov F Q gf cap n S m) := h
  have HX : Hid (m.f.st = xs ++ [(k, j, s)] ∧ xs.length < 400 ∧ Zap w L (.slice (some ⟨gf, 0, none⟩) (n + 1) cap) ov F) := ⟨hx, hl, hz⟩
  unfold doNewS
  clear h hx hl hz
  by_cases h1 : k = 1
  · rw [if_pos h1]
    subst h1
    show Calls _ _ _ _ fun z w' => Hid (DoR _ _ _ _ _ _ _ _ _ _ _ _ (doPushOr ((S.cut n m.f xs).heap (Hp.makeH S.hp K.lim (kindS so) j).1) n { m.f with st := xs } (Hp.makeH S.hp K.lim (kindS so) j).2))
    obtain ⟨r, hr⟩ : ∃ r, Hp.makeH S.hp K.lim (kindS so) j = r := ⟨_, rfl⟩
    rw [hr]
    have HR : Hid _ := hr
    clear hr
    go_enter Tryz.func87, Tryz.ntmps87
    go_wp2_with (first
      | (go_at_call 28; refine (Now.top H0.out).mono ?_; rintro z1 w1 ⟨rfl, H1⟩; clear H0)
      | (go_at_call 109; refine (Now.pop H1.out HX.out.1).mono ?_; rintro z2 w2 ⟨rfl, H2⟩; clear H1; obtain ⟨tv2, H2⟩ := H2.out; replace H2 : Hid _ := H2)
      | fail)
    have f1 := Full.new w2 #[.int .i64 1, .int .i64 j, .string s] 52
    have H5 : Hid _ := H2.out.alloc (.cells #[.int .i64 1, .int .i64 j, .string s] 52)
    generalize w2.alloc (.cells #[.int .i64 1, .int .i64 j, .string s] 52) = X at f1 H5 ⊢
    have bd : Below X.heap.size X X.drew := (Below.refl _ X).drew
    have H6 : Hid _ := H5.out.next bd
    replace f1 := f1.next bd
    have y1 := (f1.cell 1 _ rfl).1
    have d0 : Calls Tryz.prog 51 #[.int .i64 so] X.drew fun e w' => ∃ v, e = .returned v ∧ v = .int .i64 (kindS so) ∧ w' = X.drew := (kindOf_any so X.drew).mono fun e w' q => ⟨_, q.1, rfl, q.2⟩
    have d1 : Calls Tryz.prog 115 #[.pointer (some ⟨g, 8, none⟩), .int .i64 (kindS so), .int .i64 j] X.drew fun e w' => ∃ v, e = .returned v ∧ v = .tuple #[.agg #[.int .i64 r.2.1.1, .int .i64 r.2.1.2.1, .string r.2.1.2.2], .int .i64 r.2.2] ∧ Hid (Calls Tryz.prog 110 #[.pointer (some ⟨gf, n * 4, none⟩), .agg #[.int .i64 r.2.1.1, .int .i64 r.2.1.2.1, .string r.2.1.2.2], .int .i64 r.2.2] w' fun z w'' => ∃ u, z = .returned u ∧ ∃ t', u = .int .i64 t' ∧ Hid (DoR w w'' g K L (.slice (some ⟨gf, 0, none⟩) (n + 1) cap) ov F Q gf (n * 4) (.returned (.int .i64 t')) (doPushOr ((S.cut n m.f xs).heap r.1) n { m.f with st := xs } r.2))) := (Now.hMake H6.out HX.out.2.2 HX.out.2.1 (kindS so) j).mono fun e w' q => by
      rw [show (S.cut n m.f xs).hp = S.hp from rfl, HR.out] at q
      exact ⟨_, q.1, rfl, q.2⟩
    clear f1 bd H5 H6 H2
    generalize kindS so = ks at d0 d1
    go_region_law (first
      | (refine step_call (by rfl) 51 [.tmp 18] _ [.int .i64 so] (by rfl) (by rfl) (callKind _) (fun v w' => v = .int .i64 ks ∧ w' = X.drew) d0 ?_; rintro v7 w7 ⟨rfl, rfl⟩)
      | (refine step_call (by rfl) 115 [.tmp 17, .tmp 19, .tmp 21] _ [.pointer (some ⟨g, 8, none⟩), .int .i64 ks, .int .i64 j] (by rfl) (by rfl) (callMake _ _ _) (fun v w' => v = .tuple #[.agg #[.int .i64 r.2.1.1, .int .i64 r.2.1.2.1, .string r.2.1.2.2], .int .i64 r.2.2] ∧ Hid (Calls Tryz.prog 110 #[.pointer (some ⟨gf, n * 4, none⟩), .agg #[.int .i64 r.2.1.1, .int .i64 r.2.1.2.1, .string r.2.1.2.2], .int .i64 r.2.2] w' fun z w'' => ∃ u, z = .returned u ∧ ∃ t', u = .int .i64 t' ∧ Hid (DoR w w'' g K L (.slice (some ⟨gf, 0, none⟩) (n + 1) cap) ov F Q gf (n * 4) (.returned (.int .i64 t')) (doPushOr ((S.cut n m.f xs).heap r.1) n { m.f with st := xs } r.2)))) d1 ?_; rintro v8 w8 ⟨rfl, H8⟩)
      | (refine step_call (by rfl) 110 [.tmp 14, .tmp 23, .tmp 24] _ [.pointer (some ⟨gf, n * 4, none⟩), .agg #[.int .i64 r.2.1.1, .int .i64 r.2.1.2.1, .string r.2.1.2.2], .int .i64 r.2.2] (by rfl) (by rfl) (callPushOr _ _ _) (fun v w' => ∃ t, v = .int .i64 t ∧ Hid (DoR w w' g K L (.slice (some ⟨gf, 0, none⟩) (n + 1) cap) ov F Q gf (n * 4) (.returned (.int .i64 t)) (doPushOr ((S.cut n m.f xs).heap r.1) n { m.f with st := xs } r.2))) H8.out ?_; rintro v9 w9 ⟨t9, rfl, hq9⟩))
    all_goals
      clear y1 d0 d1
      go_wp2
      go_ret
      exact hq9
  · rw [if_neg h1]
    have k0 : (k == 1) = false := by rw [beq_eq_false_iff_ne]; exact h1
    have k1 : (k != 1) = true := by rw [bne, k0]; rfl
    go_enter Tryz.func87, Tryz.ntmps87
    go_wp2_with (first
      | (go_at_call 28; refine (Now.top H0.out).mono ?_; rintro z1 w1 ⟨rfl, H1⟩; clear H0)
      | (go_at_call 109; refine (Now.pop H1.out HX.out.1).mono ?_; rintro z2 w2 ⟨rfl, H2⟩; clear H1; obtain ⟨tv2, H2⟩ := H2.out; replace H2 : Hid _ := H2)
      | fail)
    go_ret
    exact (H2.out.alloc _).err 7
end Go.Proofs.YtahdkffijlfmnaaGreatDoor

namespace Go.Proofs.YtahdkffijlfmnaaGreatDoor
open Go.RowKit
open Hp (V vc vcs)
theorem _root_.Go.Proofs.YtahdkffijlfmnaaGreatDoor.Hp.HeapOf.put {w : World} {p : Hp.Hpt} {lim : Nat} {A : Hp.Hp} {F : Nat → Prop} (h : Hp.HeapOf w p lim A F) (j : Nat) (hj : j < p.o ∨ p.o + 4 ≤ j) (v : Value) (rs' : List (Nat × Value)) (hrs : ∀ x ∈ rs', (x.1 < p.o ∨ p.o + 4 ≤ x.1) ∧ (w.setCell ⟨p.b, j, none⟩ v).cell? ⟨p.b, x.1, none⟩ = some x.2) : Hp.HeapOf (w.setCell ⟨p.b, j, none⟩ v) ⟨p.b, p.o, p.t, p.n, rs'⟩ lim A F := by
  obtain ⟨As, rq, rn, rg, ro, av, e, h⟩ := h
  have other : ∀ o, o ≠ j → (w.setCell ⟨p.b, j, none⟩ v).cell? ⟨p.b, o, none⟩ = w.cell? ⟨p.b, o, none⟩ := fun o ho => World.cell?_setCell_other _ _ _ _ (fun q => ho (by have := congrArg Addr.off q; exact (by simpa using this : j = o).symm))
  have keep : ∀ b, b ≠ p.b → (w.setCell ⟨p.b, j, none⟩ v).heap[b]? = w.heap[b]? := fun b hb => set_heap (a := ⟨p.b, j, none⟩) hb
  refine ⟨As, rq, rn, rg, ro, av, e, ⟨h.blk.setCell _ _, (other p.o (by omega)).trans h.c0, (other (p.o + 1) (by omega)).trans h.c1, (other (p.o + 2) (by omega)).trans h.c2, (other (p.o + 3) (by omega)).trans h.c3, own_same h.arrs fun b hb => keep b fun q => own_ne h.arrs h.blk h.tn.1 (by rw [← q]; exact hb), fun a ha hn => ?_, fun hn => ?_, h.sep, h.sepr, h.fp, h.fa, fun b hb => by rw [set_size]; exact h.flt b hb, h.le, h.top, h.small, h.ok, h.tn, hrs⟩⟩
  · obtain ⟨h1, h2, h3, h4⟩ := h.els a ha hn
    exact ⟨h1, h2.setCell _ _, range_same h3 (keep _ fun q => h2.ne h.blk (Ne.symm h.tn.2.1) q), h4⟩
  · obtain ⟨h1, h2, h4⟩ := h.room hn
    exact ⟨h1, h2.setCell _ _, h4⟩
theorem MachM.put {w : World} {g : Nat} {K : Cg} {S S' : Ms} {L : List Fm} {fv ov : Value} {F Q : Nat → Prop} (h : MachM w g K S L fv ov F Q) (j : Nat) (hj : 12 ≤ j) (v : Value) (hm : ∀ x ∈ msc K S' fv ov, x = (j, v) ∨ (x.1 ≠ j ∧ x ∈ msc K S fv ov)) (e1 : S'.fs = S.fs) (e2 : S'.hp = S.hp) (e3 : S'.out = S.out) :
    MachM (w.setCell ⟨g, j, none⟩ v) g K S' L fv ov F Q ∧ Kp (foot L fv ov F) w (w.setCell ⟨g, j, none⟩ v) := by
  obtain ⟨hb, hF, hr⟩ := h.heap.blk
  have keep : ∀ b, ¬ F b → (w.setCell ⟨g, j, none⟩ v).heap[b]? = w.heap[b]? := fun b hn => set_heap (a := ⟨g, j, none⟩) fun q => hn (by have q : b = g := q; rw [q]; exact hF)
  have hh := h.heap.put j (.inr (show 8 + 4 ≤ j by omega)) v (msc K S' fv ov) fun x hx => by
    have hpos : x.1 < 8 ∨ 8 + 4 ≤ x.1 := by
      unfold msc at hx
      simp only [List.mem_cons, List.not_mem_nil, or_false] at hx
      rcases hx with rfl | rfl | rfl | rfl | rfl | rfl | rfl | rfl | rfl | rfl | rfl | rfl | rfl <;> simp
    refine ⟨hpos, ?_⟩
    rcases hm x hx with rfl | ⟨hne, hx'⟩
    · have hin : ∃ y, (j, y) ∈ msc K S fv ov := by
        unfold msc at hx ⊢
        simp only [List.mem_cons, List.not_mem_nil, or_false, Prod.mk.injEq] at hx ⊢
        rcases hx with h | h | h | h | h | h | h | h | h | h | h | h | h <;> obtain ⟨rfl, -⟩ := h
        · exact absurd hj (by decide)
        · exact absurd hj (by decide)
        · exact absurd hj (by decide)
        · exact absurd hj (by decide)
        · exact absurd hj (by decide)
        · exact absurd hj (by decide)
        · exact absurd hj (by decide)
        · exact absurd hj (by decide)
        · exact ⟨.int .i64 (S.rd : Int), by simp⟩
        · exact ⟨ov, by simp⟩
        · exact ⟨.int .i64 S.steps, by simp⟩
        · exact ⟨.int .i64 S.ph, by simp⟩
        · exact ⟨.int .i64 S.tr, by simp⟩
      obtain ⟨y, hy⟩ := hin
      have hy := h.at_ j y hy
      exact World.cell?_setCell_same' _ _ _ (by show (w.cell? ⟨g, j, none⟩).isSome = true; rw [hy]; rfl)
    · exact (World.cell?_setCell_other _ _ _ _ (fun q => hne (by have := congrArg Addr.off q; exact (by simpa using this : j = x.1).symm))).trans (hr x hx')
  refine ⟨⟨h.code.same (fun b hb => keep b (h.nq b hb).1) (by rw [set_size]; exact Nat.le_refl _), by rw [e2]; exact hh, rown_same h.fr fun b hb => keep b (h.nv b (.inl hb)), by rw [e1]; exact h.abs, fun m hm => ⟨rown_same (h.rows m hm).1 fun b hb => keep b (h.nf m hm b (.inl hb)), rown_same (h.rows m hm).2 fun b hb => keep b (h.nf m hm b (.inr hb))⟩, by rw [e3]; exact rown_same h.out fun b hb => keep b (h.nv b (.inr hb)), h.sep, h.nf, h.nv, h.nq⟩, (Kp.refl (foot L fv ov F) w).setCell (p := ⟨g, j, none⟩) (.inl (.inl hF)) v⟩
theorem MachM.rd {w : World} {g : Nat} {K : Cg} {S : Ms} {L : List Fm} {fv ov : Value} {F Q : Nat → Prop} (h : MachM w g K S L fv ov F Q) (k : Nat) : MachM (w.setCell ⟨g, 12, none⟩ (.int .i64 (k : Int))) g K { S with rd := k } L fv ov F Q ∧ Kp (foot L fv ov F) w (w.setCell ⟨g, 12, none⟩ (.int .i64 (k : Int))) := h.put 12 (by decide) _ (fun x hx => by
  unfold msc at hx ⊢
  simp only [List.mem_cons, List.not_mem_nil, or_false] at hx ⊢
  rcases hx with rfl | rfl | rfl | rfl | rfl | rfl | rfl | rfl | rfl | rfl | rfl | rfl | rfl <;> simp) rfl rfl rfl
theorem MachM.stepped {w : World} {g : Nat} {K : Cg} {S : Ms} {L : List Fm} {fv ov : Value} {F Q : Nat → Prop} (h : MachM w g K S L fv ov F Q) (k : Int) : MachM (w.setCell ⟨g, 14, none⟩ (.int .i64 k)) g K { S with steps := k } L fv ov F Q ∧ Kp (foot L fv ov F) w (w.setCell ⟨g, 14, none⟩ (.int .i64 k)) := h.put 14 (by decide) _ (fun x hx => by
  unfold msc at hx ⊢
  simp only [List.mem_cons, List.not_mem_nil, or_false] at hx ⊢
  rcases hx with rfl | rfl | rfl | rfl | rfl | rfl | rfl | rfl | rfl | rfl | rfl | rfl | rfl <;> simp) rfl rfl rfl
theorem MachM.phase {w : World} {g : Nat} {K : Cg} {S : Ms} {L : List Fm} {fv ov : Value} {F Q : Nat → Prop} (h : MachM w g K S L fv ov F Q) (k : Int) : MachM (w.setCell ⟨g, 15, none⟩ (.int .i64 k)) g K { S with ph := k } L fv ov F Q ∧ Kp (foot L fv ov F) w (w.setCell ⟨g, 15, none⟩ (.int .i64 k)) := h.put 15 (by decide) _ (fun x hx => by
  unfold msc at hx ⊢
  simp only [List.mem_cons, List.not_mem_nil, or_false] at hx ⊢
  rcases hx with rfl | rfl | rfl | rfl | rfl | rfl | rfl | rfl | rfl | rfl | rfl | rfl | rfl <;> simp) rfl rfl rfl
theorem MachM.trapped {w : World} {g : Nat} {K : Cg} {S : Ms} {L : List Fm} {fv ov : Value} {F Q : Nat → Prop} (h : MachM w g K S L fv ov F Q) (k : Int) : MachM (w.setCell ⟨g, 16, none⟩ (.int .i64 k)) g K { S with tr := k } L fv ov F Q ∧ Kp (foot L fv ov F) w (w.setCell ⟨g, 16, none⟩ (.int .i64 k)) := h.put 16 (by decide) _ (fun x hx => by
  unfold msc at hx ⊢
  simp only [List.mem_cons, List.not_mem_nil, or_false] at hx ⊢
  rcases hx with rfl | rfl | rfl | rfl | rfl | rfl | rfl | rfl | rfl | rfl | rfl | rfl | rfl <;> simp) rfl rfl rfl
end Go.Proofs.YtahdkffijlfmnaaGreatDoor

namespace Go.Proofs.YtahdkffijlfmnaaGreatDoor
open Go.RowKit
open Hp (V vc vcs)
theorem callTop (a : Value) (w : World) : (callFunc 28 #[a]).run Tryz.prog w = .ok (.enter 28 #[a]) w := by kernel_rfl
theorem callNumber (a : Value) (w : World) : (callFunc 108 #[a]).run Tryz.prog w = .ok (.enter 108 #[a]) w := by kernel_rfl
theorem callPush (a b : Value) (w : World) : (callFunc 107 #[a, b]).run Tryz.prog w = .ok (.enter 107 #[a, b]) w := by kernel_rfl
theorem Now.top_v {w0 w : World} {g : Nat} {K : Cg} {S : Ms} {L0 : List Fm} {ov : Value} {F Q : Nat → Prop} {gf cap n : Nat} {m : Fm} (h : Now w0 w g K L0 ov F Q gf cap n S m) : Calls Tryz.prog 28 #[.pointer (some ⟨g, 0, none⟩)] w fun z w' => ∃ v, z = .returned v ∧ v = .pointer (some ⟨gf, n * 4, none⟩) ∧ Hid (Now w0 w' g K L0 ov F Q gf cap n S m) := h.top.mono fun _ _ q => ⟨_, q.1, rfl, q.2⟩
theorem Now.number_v {w0 w : World} {g : Nat} {K : Cg} {S : Ms} {L0 : List Fm} {ov : Value} {F Q : Nat → Prop} {gf cap n : Nat} {m : Fm} (h : Now w0 w g K L0 ov F Q gf cap n S m) (x : Int) : Calls Tryz.prog 108 #[.int .i64 x] w fun z w' => ∃ v, z = .returned v ∧ v = .agg #[.int .i64 1, .int .i64 x, .string Hp.e0] ∧ Hid (Now w0 w' g K L0 ov F Q gf cap n S m) := (mnumber_any x w).mono fun _ _ q => ⟨_, q.1, rfl, h.next q.2⟩
theorem Now.push_yes {w0 w : World} {g : Nat} {K : Cg} {S : Ms} {L0 : List Fm} {ov : Value} {F Q : Nat → Prop} {gf cap n : Nat} {m : Fm} (h : Now w0 w g K L0 ov F Q gf cap n S m) (v : V) (h4 : ¬ m.f.st.length = 400) :
    Calls Tryz.prog 107 #[.pointer (some ⟨gf, n * 4, none⟩), .agg #[.int .i64 v.1, .int .i64 v.2.1, .string v.2.2]] w fun z w' => ∃ u, z = .returned u ∧ u = .int .i64 0 ∧ Hid (WentM w0 w' g K (S.setF n { m.f with st := m.f.st ++ [v] }) L0 (.slice (some ⟨gf, 0, none⟩) (n + 1) cap) ov F Q) := (h.push v).mono fun z w' q => by
  have q := q.out
  unfold doPush pushS at q
  rw [if_neg h4] at q
  exact ⟨_, q.1, rfl, q.2⟩
theorem Now.push_no {w0 w : World} {g : Nat} {K : Cg} {S : Ms} {L0 : List Fm} {ov : Value} {F Q : Nat → Prop} {gf cap n : Nat} {m : Fm} (h : Now w0 w g K L0 ov F Q gf cap n S m) (v : V) (h4 : m.f.st.length = 400) :
    Calls Tryz.prog 107 #[.pointer (some ⟨gf, n * 4, none⟩), .agg #[.int .i64 v.1, .int .i64 v.2.1, .string v.2.2]] w fun z w' => ∃ u, z = .returned u ∧ u = .int .i64 7 ∧ Hid (DoR w0 w' g K L0 (.slice (some ⟨gf, 0, none⟩) (n + 1) cap) ov F Q gf (n * 4) (.returned (.int .i64 7)) (.error 7)) := (h.push v).mono fun z w' q => by
  have q := q.out
  unfold doPush pushS at q
  rw [if_pos h4] at q
  exact ⟨_, q.1, rfl, rfl, q.2⟩
theorem WentM.rd {w w' : World} {g : Nat} {K : Cg} {S : Ms} {L : List Fm} {fv ov : Value} {F Q : Nat → Prop} (h : WentM w w' g K S L fv ov F Q) (k : Nat) : WentM w (w'.setCell ⟨g, 12, none⟩ (.int .i64 (k : Int))) g K { S with rd := k } L fv ov F Q := by
  obtain ⟨L', fv', ov', F', k1, k2, k3⟩ := h
  obtain ⟨r1, r2⟩ := k1.rd k
  exact WentM.after k2 k3 ⟨L', fv', ov', F', r1, fun b hb => .inl hb, r2⟩
def doReadS (K : Cg) (S : Ms) (n : Nat) (f : Fr) : Except Int Ms :=
  if h : S.rd < K.inp.length then (doPush S n f (1, K.inp[S.rd], Hp.e0)).map fun S' => { S' with rd := S.rd + 1 } else .error 5
set_option maxRecDepth 100000 in
set_option maxHeartbeats 4000000 in
theorem doRead_any {w : World} {g : Nat} {K : Cg} {S : Ms} {L : List Fm} {ov : Value} {F Q : Nat → Prop} {gf cap n : Nat} {m : Fm} (h : Now w w g K L ov F Q gf cap n S m) (hrd : S.rd ≤ K.inp.length) (hin : K.inp.length ≤ 1000000) :
    Calls Tryz.prog 93 #[.pointer (some ⟨g, 0, none⟩)] w fun z w' => Hid (DoR w w' g K L (.slice (some ⟨gf, 0, none⟩) (n + 1) cap) ov F Q gf (n * 4) z (doReadS K S n m.f)) := by
  have H0 : Hid (Now w w g K L ov F Q gf cap n S m) := h
  obtain ⟨L1, hM, -, -, -⟩ := h.mach
  unfold doReadS
  by_cases hr : S.rd < K.inp.length
  · rw [dif_pos hr]
    obtain ⟨gi, o, hq, -, -⟩ := hM.code.nr (by omega)
    have HC : Hid (∀ w', Now w w' g K L ov F Q gf cap n S m → w'.cell? ⟨g, 4, none⟩ = some (.slice (some ⟨gi, o, none⟩) K.inp.length K.na) ∧ w'.cell? ⟨g, 12, none⟩ = some (.int .i64 (S.rd : Int)) ∧ w'.cell? ⟨gi, o + S.rd, none⟩ = some (.int .i64 K.inp[S.rd])) := fun w' h' => by
      obtain ⟨L2, hM, -, -, -⟩ := h'.mach
      obtain ⟨gi', o', hq', -, hr'⟩ := hM.code.nr (by omega)
      rw [hq] at hq'
      cases hq'
      refine ⟨by rw [← hq]; exact hM.k4, hM.k12, hr' S.rd _ ?_⟩
      unfold sv
      rw [List.getElem?_map, List.getElem?_eq_getElem hr]
      rfl
    obtain ⟨x, hx⟩ : ∃ x, K.inp[S.rd] = x := ⟨_, rfl⟩
    rw [hx] at HC ⊢
    obtain ⟨N, hN⟩ : ∃ N, K.inp.length = N := ⟨_, rfl⟩
    rw [hN] at HC hr hin
    obtain ⟨r, hrr⟩ : ∃ r, S.rd = r := ⟨_, rfl⟩
    rw [hrr] at HC hr
    have HRR : Hid (S.rd = r) := hrr
    have i0 : (0 : Int) ≤ (r : Int) := by omega
    have i1 : (r : Int) < (N : Int) := by omega
    have i2 : ((r : Int) == (N : Int)) = false := by rw [beq_eq_false_iff_ne]; omega
    have i3 : ¬ ((r : Int) = (N : Int)) := by omega
    have hw : IntKind.i64.wrap ((r : Int) + 1) = ((r + 1 : Nat) : Int) := by rw [IntKind.wrap_i64]; omega
    obtain ⟨c0, c1, c2⟩ := HC.out w h
    clear hM hrd hin h hx
    go_enter Tryz.func93, Tryz.ntmps93
    go_upto_region 1 with fail
    have y0 := cell_regrown c0
    have y1 := cell_regrown c1
    refine wp_region_quiet_below (by kernel_rfl) (by kernel_rfl) ?_
    repeat (first | go_big_quiet_step (first | fail) | quiet_step (first | fail))
    refine wpQuiet_nil ?_
    intro _ hw'
    obtain ⟨⟨dq, osq⟩, hw''⟩ := hw'
    subst hw''
    have hY := below_regrown w dq osq
    first | (change Exit.then _ _ Exit.normal _ (Sort.grow (redrawn w dq) osq)) | skip
    generalize Sort.grow (redrawn w dq) osq = Y at hY ⊢
    clear y0 y1 c0 c1 c2
    go_upto_region 3 with fail
    have H2 : Hid _ := (H0.out.next hY).next (Below.refl _ Y).drew
    obtain ⟨s0, s1, s2⟩ := HC.out _ H2.out
    clear H0 hY
    by_cases h4 : m.f.st.length = 400
    · have H4 : Hid _ := h4
      go_region_law (first
      | (refine step_call (by rfl) 28 [.tmp 14] _ [.pointer (some ⟨g, 0, none⟩)] (by rfl) (by rfl) (callTop _) (fun v w' => v = .pointer (some ⟨gf, n * 4, none⟩) ∧ Hid (Now w w' g K L ov F Q gf cap n S m)) (Now.top_v H2.out) ?_; rintro v5 w5 ⟨rfl, H5⟩; obtain ⟨t0, t1, t2⟩ := HC.out w5 H5.out)
      | (refine step_call (by rfl) 108 [.tmp 25] _ [.int .i64 x] (by rfl) (by rfl) (callNumber _) (fun v w' => v = .agg #[.int .i64 1, .int .i64 x, .string Hp.e0] ∧ Hid (Now w w' g K L ov F Q gf cap n S m)) (Now.number_v H5.out x) ?_; rintro v6 w6 ⟨rfl, H6⟩)
      | (refine step_call (by rfl) 107 [.tmp 15, .tmp 26] _ [.pointer (some ⟨gf, n * 4, none⟩), .agg #[.int .i64 1, .int .i64 x, .string Hp.e0]] (by rfl) (by rfl) (callPush _ _) (fun v w' => v = .int .i64 7 ∧ Hid (DoR w w' g K L (.slice (some ⟨gf, 0, none⟩) (n + 1) cap) ov F Q gf (n * 4) (.returned (.int .i64 7)) (.error 7))) (Now.push_no H6.out (1, x, Hp.e0) H4.out) ?_; rintro v7 w7 ⟨rfl, H7⟩))
      all_goals
        clear s0 s1 s2 t0 t1 t2 h4
        go_wp2
        go_ret
        have hR : doPush S n m.f (1, x, Hp.e0) = .error 7 := by unfold doPush pushS; rw [if_pos H4.out]; rfl
        rw [hR]
        exact H7
    · have H4 : Hid _ := h4
      go_region_law (first
      | (refine step_call (by rfl) 28 [.tmp 14] _ [.pointer (some ⟨g, 0, none⟩)] (by rfl) (by rfl) (callTop _) (fun v w' => v = .pointer (some ⟨gf, n * 4, none⟩) ∧ Hid (Now w w' g K L ov F Q gf cap n S m)) (Now.top_v H2.out) ?_; rintro v5 w5 ⟨rfl, H5⟩; obtain ⟨t0, t1, t2⟩ := HC.out w5 H5.out)
      | (refine step_call (by rfl) 108 [.tmp 25] _ [.int .i64 x] (by rfl) (by rfl) (callNumber _) (fun v w' => v = .agg #[.int .i64 1, .int .i64 x, .string Hp.e0] ∧ Hid (Now w w' g K L ov F Q gf cap n S m)) (Now.number_v H5.out x) ?_; rintro v6 w6 ⟨rfl, H6⟩)
      | (refine step_call (by rfl) 107 [.tmp 15, .tmp 26] _ [.pointer (some ⟨gf, n * 4, none⟩), .agg #[.int .i64 1, .int .i64 x, .string Hp.e0]] (by rfl) (by rfl) (callPush _ _) (fun v w' => v = .int .i64 0 ∧ Hid (WentM w w' g K (S.setF n { m.f with st := m.f.st ++ [(1, x, Hp.e0)] }) L (.slice (some ⟨gf, 0, none⟩) (n + 1) cap) ov F Q)) (Now.push_yes H6.out (1, x, Hp.e0) H4.out) ?_; rintro v7 w7 ⟨rfl, H7⟩))
      all_goals
        obtain ⟨b12, b13⟩ : w7.cell? ⟨g, 12, none⟩ = some (.int .i64 (r : Int)) ∧ w7.frozen? ⟨g, 12, none⟩ = false := by
          obtain ⟨L', fv', ov', F', k1, -, -⟩ := H7.out
          exact ⟨by rw [← HRR.out]; exact k1.k12, k1.un 12⟩
        clear s0 s1 s2 t0 t1 t2 h4
        go_wp2
        go_ret
        have hR : doPush S n m.f (1, x, Hp.e0) = .ok (S.setF n { m.f with st := m.f.st ++ [(1, x, Hp.e0)] }) := by unfold doPush pushS; rw [if_neg H4.out]; rfl
        rw [hR]
        refine ⟨rfl, ?_⟩
        have := H7.out.rd (r + 1)
        rw [← HRR.out] at this ⊢
        exact this
  · rw [dif_neg hr]
    have c1 := hM.k12
    have c0 := hM.k4
    have e : S.rd = K.inp.length := by omega
    rw [e] at c1
    clear hM h hrd hin hr e
    go_enter Tryz.func93, Tryz.ntmps93
    go_upto_region 1 with fail
    have y0 := cell_regrown c0
    have y1 := cell_regrown c1
    refine wp_region_quiet_below (by kernel_rfl) (by kernel_rfl) ?_
    repeat (first | go_big_quiet_step (first | fail) | quiet_step (first | fail))
    refine wpQuiet_nil ?_
    intro _ hw'
    obtain ⟨⟨dq, osq⟩, hw''⟩ := hw'
    subst hw''
    have hY := below_regrown w dq osq
    first | (change Exit.then _ _ Exit.normal _ (Sort.grow (redrawn w dq) osq)) | skip
    generalize Sort.grow (redrawn w dq) osq = Y at hY ⊢
    clear y0 y1 c0 c1
    go_wp2
    go_ret
    exact (H0.out.next hY).err 5
end Go.Proofs.YtahdkffijlfmnaaGreatDoor
