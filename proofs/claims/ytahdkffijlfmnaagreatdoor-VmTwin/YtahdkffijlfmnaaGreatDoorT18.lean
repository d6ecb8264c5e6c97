import Derived.Test.YtahdkffijlfmnaaGreatDoorT17
namespace Go.Proofs.YtahdkffijlfmnaaGreatDoor
open Go.RowKit
open Hp (V vc vcs)
theorem Now.below_full {w0 w : World} {g : Nat} {K : Cg} {S : Ms} {L0 : List Fm} {ov : Value} {F Q : Nat → Prop} {gf cap n : Nat} {m : Fm} (h : Now w0 w g K L0 ov F Q gf cap (n + 1) S m) {fb : Fr} (hfb : S.fs[n]? = some fb) (h4 : fb.st.length = 400) (v : V) :
    Calls Tryz.prog 107 #[.pointer (some ⟨gf, n * 4, none⟩), .agg #[.int .i64 v.1, .int .i64 v.2.1, .string v.2.2]] w fun z w' => z = .returned (.int .i64 7) ∧ Hid (DoR w0 w' g K L0 (.slice (some ⟨gf, 0, none⟩) (n + 1 + 1) cap) ov F Q gf ((n + 1) * 4) (.returned (.int .i64 7)) (.error 7)) := by
  obtain ⟨L, hT, k⟩ := h
  obtain ⟨mb, hmb, rfl⟩ : ∃ mb, L[n]? = some mb ∧ mb.f = fb := by
    rw [← hT.h.abs, List.getElem?_map] at hfb
    cases hq : L[n]? with
    | none => rw [hq] at hfb; cases hfb
    | some mb => rw [hq] at hfb; cases hfb; exact ⟨mb, rfl, rfl⟩
  have hh := hT.h
  rw [← hT.hn] at hh k ⊢
  refine (mpush_any hh hmb (by omega) v ((n + 1) * 4)).mono fun z w' q => ?_
  have q := DoR.after k q.out
  unfold pushS at q
  rw [if_pos h4] at q
  exact ⟨q.1, rfl, q.2⟩
set_option maxRecDepth 100000 in
set_option maxHeartbeats 4000000 in
theorem doRet_zero {w : World} {g : Nat} {K : Cg} {S : Ms} {L : List Fm} {ov : Value} {F Q : Nat → Prop} {gf cap n : Nat} {m : Fm} (h : Now w w g K L ov F Q gf cap n S m) {xs : List V} {v : V} (hx : m.f.st = xs ++ [v]) (hv : v.2.2.size ≤ 9223372036854775807) {i : Nat} (hf : FnOk K m.f i) (h0 : (K.Es[i]'hf.2.1).1.result = 0) :
    Calls Tryz.prog 85 #[.pointer (some ⟨g, 0, none⟩)] w fun z w' => Hid (DoR w w' g K L (.slice (some ⟨gf, 0, none⟩) (n + 1) cap) ov F Q gf (n * 4) z (.error 7)) := by
  obtain ⟨k, j, s⟩ := v
  have H0 : Hid (Now w w g K L ov F Q gf cap n S m) := h
  have HX : Hid (m.f.st = xs ++ [(k, j, s)] ∧ s.size ≤ 9223372036854775807) := ⟨hx, hv⟩
  have d1 := h.entry hf
  unfold enV at d1
  generalize K.Es[i]'hf.2.1 = E at d1 h0
  have hfd := fldE (.string E.1.name) (.int .i64 E.1.start) (.int .i64 E.1.params) (.slice E.2.1 E.1.sorts.length E.2.2) (.int .i64 E.1.result) 4 _ rfl
  obtain ⟨so, hso⟩ : ∃ so, E.1.result = so := ⟨_, rfl⟩
  rw [hso] at hfd d1 h0
  subst h0
  clear h hx hv hf hso
  go_enter Tryz.func85, Tryz.ntmps85
  go_wp2_with (first
    | (go_at_call 72; refine d1.mono ?_; rintro z1 w1 ⟨rfl, H1⟩; clear d1 H0)
    | (go_at_call 28; refine (Now.top H1.out).mono ?_; rintro z2 w2 ⟨rfl, H2⟩; clear H1)
    | (go_at_call 109; refine (Now.pop H2.out HX.out.1).mono ?_; rintro z3 w3 ⟨rfl, H3⟩; clear H2; obtain ⟨tv3, H3⟩ := H3.out; replace H3 : Hid _ := H3)
    | fail)
  go_ret
  exact (H3.out.alloc _).err 7
set_option maxRecDepth 100000 in
set_option maxHeartbeats 4000000 in
theorem doRet_unfit {w : World} {g : Nat} {K : Cg} {S : Ms} {L : List Fm} {ov : Value} {F Q : Nat → Prop} {gf cap n : Nat} {m : Fm} (h : Now w w g K L ov F Q gf cap n S m) {xs : List V} {v : V} (hx : m.f.st = xs ++ [v]) (hv : v.2.2.size ≤ 9223372036854775807) {i : Nat} (hf : FnOk K m.f i) (h0 : ¬ (K.Es[i]'hf.2.1).1.result = 0) (hfit : fitV S.hp v (K.Es[i]'hf.2.1).1.result = false) :
    Calls Tryz.prog 85 #[.pointer (some ⟨g, 0, none⟩)] w fun z w' => Hid (DoR w w' g K L (.slice (some ⟨gf, 0, none⟩) (n + 1) cap) ov F Q gf (n * 4) z (.error 7)) := by
  obtain ⟨k, j, s⟩ := v
  have H0 : Hid (Now w w g K L ov F Q gf cap n S m) := h
  have HX : Hid (m.f.st = xs ++ [(k, j, s)] ∧ s.size ≤ 9223372036854775807) := ⟨hx, hv⟩
  have d1 := h.entry hf
  unfold enV at d1
  generalize K.Es[i]'hf.2.1 = E at d1 h0 hfit
  have hfd := fldE (.string E.1.name) (.int .i64 E.1.start) (.int .i64 E.1.params) (.slice E.2.1 E.1.sorts.length E.2.2) (.int .i64 E.1.result) 4 _ rfl
  obtain ⟨so, hso⟩ : ∃ so, E.1.result = so := ⟨_, rfl⟩
  rw [hso] at hfd d1 h0 hfit
  have HFI : Hid (fitV S.hp (k, j, s) so = false) := hfit
  have k0 : (so == 0) = false := by rw [beq_eq_false_iff_ne]; exact h0
  clear h hx hv hf hso hfit
  go_enter Tryz.func85, Tryz.ntmps85
  go_wp2_with (first
    | (go_at_call 72; refine d1.mono ?_; rintro z1 w1 ⟨rfl, H1⟩; clear d1 H0)
    | (go_at_call 28; refine (Now.top H1.out).mono ?_; rintro z2 w2 ⟨rfl, H2⟩; clear H1)
    | (go_at_call 109; refine (Now.pop H2.out HX.out.1).mono ?_; rintro z3 w3 ⟨rfl, H3⟩; clear H2; obtain ⟨tv3, H3⟩ := H3.out; replace H3 : Hid _ := H3)
    | fail)
  have f1 := Full.new w3 #[.int .i64 k, .int .i64 j, .string s] 52
  have H4 : Hid _ := H3.out.alloc (.cells #[.int .i64 k, .int .i64 j, .string s] 52)
  generalize w3.alloc (.cells #[.int .i64 k, .int .i64 j, .string s] 52) = X at H4 f1 ⊢
  clear H3
  have d2 : Calls Tryz.prog 102 #[.pointer (some ⟨g, 0, none⟩), .agg #[.int .i64 k, .int .i64 j, .string s], .int .i64 so] X fun z w' => z = .returned (.bool false) ∧ Below X.heap.size X w' := (Now.fits H4.out (k, j, s) so HX.out.2).mono fun z w' q => ⟨by rw [q.1, show (S.cut n m.f xs).hp = S.hp from rfl, HFI.out], q.2⟩
  refine d2.mono ?_
  rintro z4 w4 ⟨rfl, hb4⟩
  have H5 : Hid _ := H4.out.next hb4
  clear d2 H4 hb4 f1
  go_wp2
  go_ret
  exact H5.out.err 7
set_option maxRecDepth 100000 in
set_option maxHeartbeats 4000000 in
theorem doRet_last {w : World} {g : Nat} {K : Cg} {S : Ms} {L : List Fm} {ov : Value} {F Q : Nat → Prop} {gf cap n : Nat} {m : Fm} (h : Now w w g K L ov F Q gf cap n S m) {xs : List V} {v : V} (hx : m.f.st = xs ++ [v]) (hv : v.2.2.size ≤ 9223372036854775807) {i : Nat} (hf : FnOk K m.f i) (hn : n = 0) (h0 : ¬ (K.Es[i]'hf.2.1).1.result = 0) (hfit : fitV S.hp v (K.Es[i]'hf.2.1).1.result = true) :
    Calls Tryz.prog 85 #[.pointer (some ⟨g, 0, none⟩)] w fun z w' => Hid (DoR w w' g K L (.slice (some ⟨gf, 0, none⟩) (n + 1) cap) ov F Q gf (n * 4) z (.error 7)) := by
  obtain ⟨k, j, s⟩ := v
  have H0 : Hid (Now w w g K L ov F Q gf cap n S m) := h
  have HX : Hid (m.f.st = xs ++ [(k, j, s)] ∧ s.size ≤ 9223372036854775807) := ⟨hx, hv⟩
  have d1 := h.entry hf
  unfold enV at d1
  generalize K.Es[i]'hf.2.1 = E at d1 h0 hfit
  have hfd := fldE (.string E.1.name) (.int .i64 E.1.start) (.int .i64 E.1.params) (.slice E.2.1 E.1.sorts.length E.2.2) (.int .i64 E.1.result) 4 _ rfl
  obtain ⟨so, hso⟩ : ∃ so, E.1.result = so := ⟨_, rfl⟩
  rw [hso] at hfd d1 h0 hfit
  have HFI : Hid (fitV S.hp (k, j, s) so = true) := hfit
  have k0 : (so == 0) = false := by rw [beq_eq_false_iff_ne]; exact h0
  subst hn
  clear h hx hv hf hso hfit
  go_enter Tryz.func85, Tryz.ntmps85
  go_wp2_with (first
    | (go_at_call 72; refine d1.mono ?_; rintro z1 w1 ⟨rfl, H1⟩; clear d1 H0)
    | (go_at_call 28; refine (Now.top H1.out).mono ?_; rintro z2 w2 ⟨rfl, H2⟩; clear H1)
    | (go_at_call 109; refine (Now.pop H2.out HX.out.1).mono ?_; rintro z3 w3 ⟨rfl, H3⟩; clear H2; obtain ⟨tv3, H3⟩ := H3.out; replace H3 : Hid _ := H3)
    | fail)
  have f1 := Full.new w3 #[.int .i64 k, .int .i64 j, .string s] 52
  have H4 : Hid _ := H3.out.alloc (.cells #[.int .i64 k, .int .i64 j, .string s] 52)
  generalize w3.alloc (.cells #[.int .i64 k, .int .i64 j, .string s] 52) = X at H4 f1 ⊢
  clear H3
  have d2 : Calls Tryz.prog 102 #[.pointer (some ⟨g, 0, none⟩), .agg #[.int .i64 k, .int .i64 j, .string s], .int .i64 so] X fun z w' => z = .returned (.bool true) ∧ Below X.heap.size X w' := (Now.fits H4.out (k, j, s) so HX.out.2).mono fun z w' q => ⟨by rw [q.1, show (S.cut 0 m.f xs).hp = S.hp from rfl, HFI.out], q.2⟩
  refine d2.mono ?_
  rintro z4 w4 ⟨rfl, hb4⟩
  have H5 : Hid _ := H4.out.next hb4
  have c7 : w4.cell? ⟨g, 7, none⟩ = some (.slice (some ⟨gf, 0, none⟩) 1 cap) := by
    obtain ⟨L1, hM, -, -, -⟩ := H5.out.mach
    exact hM.k7
  clear d2 H4 hb4 f1
  go_wp2
  go_ret
  exact H5.out.err 7
set_option maxRecDepth 100000 in
set_option maxHeartbeats 4000000 in
theorem doRet_full {w : World} {g : Nat} {K : Cg} {S : Ms} {L : List Fm} {ov : Value} {F Q : Nat → Prop} {gf cap n : Nat} {m : Fm} (h : Now w w g K L ov F Q gf cap (n + 1) S m) {xs : List V} {v : V} (hx : m.f.st = xs ++ [v]) (hv : v.2.2.size ≤ 9223372036854775807) {i : Nat} (hf : FnOk K m.f i) {fb : Fr} (hfb : S.fs[n]? = some fb) (h4 : fb.st.length = 400) (h0 : ¬ (K.Es[i]'hf.2.1).1.result = 0) (hfit : fitV S.hp v (K.Es[i]'hf.2.1).1.result = true) :
    Calls Tryz.prog 85 #[.pointer (some ⟨g, 0, none⟩)] w fun z w' => Hid (DoR w w' g K L (.slice (some ⟨gf, 0, none⟩) (n + 1 + 1) cap) ov F Q gf ((n + 1) * 4) z (.error 7)) := by
  obtain ⟨k, j, s⟩ := v
  have H0 : Hid (Now w w g K L ov F Q gf cap (n + 1) S m) := h
  have HX : Hid (m.f.st = xs ++ [(k, j, s)] ∧ s.size ≤ 9223372036854775807) := ⟨hx, hv⟩
  have d1 := h.entry hf
  unfold enV at d1
  have hbb : n + 1 + 1 ≤ 9223372036854775807 := by obtain ⟨L1, -, -, -, hb⟩ := h.mach; exact hb
  have HB : Hid ((S.cut (n + 1) m.f xs).fs[n]? = some fb ∧ fb.st.length = 400) := ⟨by
    show (S.fs.set (n + 1) _)[n]? = _
    rw [List.getElem?_set_ne (by omega)]
    exact hfb, h4⟩
  generalize K.Es[i]'hf.2.1 = E at d1 h0 hfit
  have hfd := fldE (.string E.1.name) (.int .i64 E.1.start) (.int .i64 E.1.params) (.slice E.2.1 E.1.sorts.length E.2.2) (.int .i64 E.1.result) 4 _ rfl
  obtain ⟨so, hso⟩ : ∃ so, E.1.result = so := ⟨_, rfl⟩
  rw [hso] at hfd d1 h0 hfit
  have HFI : Hid (fitV S.hp (k, j, s) so = true) := hfit
  have k0 : (so == 0) = false := by rw [beq_eq_false_iff_ne]; exact h0
  obtain ⟨n2, Hn2⟩ : ∃ n2, Hid (n + 1 + 1 = n2) := ⟨_, (rfl : n + 1 + 1 = _)⟩
  have hw2 : IntKind.i64.wrap ((n2 : Int) - 2) = (n : Int) := by have := Hn2.out; rw [IntKind.wrap_i64]; omega
  have k1 : ((n2 : Int) == 1) = false := by have := Hn2.out; rw [beq_eq_false_iff_ne]; omega
  have k2 : ¬ ((n2 : Int) = 1) := by have := Hn2.out; omega
  have i0 : (0 : Int) ≤ (n : Int) := by omega
  have i1 : (n : Int) < (n2 : Int) := by have := Hn2.out; omega
  clear h hx hv hf hso hfit hfb h4 hbb
  go_enter Tryz.func85, Tryz.ntmps85
  go_wp2_with (first
    | (go_at_call 72; refine d1.mono ?_; rintro z1 w1 ⟨rfl, H1⟩; clear d1 H0)
    | (go_at_call 28; refine (Now.top H1.out).mono ?_; rintro z2 w2 ⟨rfl, H2⟩; clear H1)
    | (go_at_call 109; refine (Now.pop H2.out HX.out.1).mono ?_; rintro z3 w3 ⟨rfl, H3⟩; clear H2; obtain ⟨tv3, H3⟩ := H3.out; replace H3 : Hid _ := H3)
    | fail)
  have f1 := Full.new w3 #[.int .i64 k, .int .i64 j, .string s] 52
  have H4 : Hid _ := H3.out.alloc (.cells #[.int .i64 k, .int .i64 j, .string s] 52)
  generalize w3.alloc (.cells #[.int .i64 k, .int .i64 j, .string s] 52) = X at H4 f1 ⊢
  clear H3
  have d2 : Calls Tryz.prog 102 #[.pointer (some ⟨g, 0, none⟩), .agg #[.int .i64 k, .int .i64 j, .string s], .int .i64 so] X fun z w' => z = .returned (.bool true) ∧ Below X.heap.size X w' := (Now.fits H4.out (k, j, s) so HX.out.2).mono fun z w' q => ⟨by rw [q.1, show (S.cut (n + 1) m.f xs).hp = S.hp from rfl, HFI.out], q.2⟩
  refine d2.mono ?_
  rintro z4 w4 ⟨rfl, hb4⟩
  have H5 : Hid _ := H4.out.next hb4
  have c7 : w4.cell? ⟨g, 7, none⟩ = some (.slice (some ⟨gf, 0, none⟩) n2 cap) := by
    obtain ⟨L1, hM, -, -, -⟩ := H5.out.mach
    rw [← Hn2.out]
    exact hM.k7
  replace f1 := f1.next hb4
  clear d2 H4 hb4
  go_wp2_with fail
  have y7 := cell_regrown c7
  refine wp_region_quiet_below (by kernel_rfl) (by kernel_rfl) ?_
  repeat (first | go_big_quiet_step (first | fail) | quiet_step (first | fail))
  refine wpQuiet_nil ?_
  intro _ hw'
  obtain ⟨⟨dq, osq⟩, hw''⟩ := hw'
  subst hw''
  have hY := below_regrown w4 dq osq
  first | (change Exit.then _ _ Exit.normal _ (Sort.grow (redrawn w4 dq) osq)) | skip
  generalize Sort.grow (redrawn w4 dq) osq = Y at hY ⊢
  have H6 : Hid _ := H5.out.next hY
  replace f1 := f1.next hY
  have x0 := (f1.cell 0 _ rfl).1
  have x1 := (f1.cell 1 _ rfl).1
  have x2 := (f1.cell 2 _ rfl).1
  clear y7 c7 H5 hY f1
  go_wp2_with (first
    | (go_at_call 107; refine (Now.below_full H6.out HB.out.1 HB.out.2 (k, j, s)).mono ?_; rintro z7 w7 ⟨rfl, H7⟩)
    | fail)
  go_ret
  exact H7
end Go.Proofs.YtahdkffijlfmnaaGreatDoor

namespace Go.Proofs.YtahdkffijlfmnaaGreatDoor
open Go.RowKit
open Hp (V vc vcs)
theorem cutLo (a : Option Addr) (n cap k : Nat) (hk : k ≤ n) : ∀ w : World, (Instr.slice 64 (.slice a n cap) (some (.int .i64 (k : Int))) none none).run Tryz.prog w = .ok (.slice (if cap = k then a else a.map (·.add (k * 3))) (n - k) (cap - k)) w := fun w => by
  have h0 : (0 : Int) ≤ (k : Int) := by omega
  have h1 : (k : Int) ≤ (n : Int) := by omega
  by_cases e : cap = k
  · simp [go_sem, Tryz.underlying64, h0, h1, e]
  · simp [go_sem, Tryz.underlying64, h0, h1, e]
theorem cutHi (a : Option Addr) (n cap k : Nat) (hk : k ≤ cap) : ∀ w : World, (Instr.slice 64 (.slice a n cap) none (some (.int .i64 (k : Int))) none).run Tryz.prog w = .ok (.slice a k cap) w := fun w => by
  have h0 : (0 : Int) ≤ (k : Int) := by omega
  have h1 : (k : Int) ≤ (cap : Int) := by omega
  simp [go_sem, Tryz.underlying64, h0, h1]
set_option maxRecDepth 100000 in
set_option maxHeartbeats 2000000 in
theorem popAll_yes {w : World} {fb fo n cap : Nat} {q : Option Addr} (hc : w.cell? ⟨fb, fo + 3, none⟩ = some (.slice q n cap)) (hf : w.frozen? ⟨fb, fo + 3, none⟩ = false) (hn : n ≤ 400) (hcap : n ≤ cap) (c : Nat) (hcn : c ≤ n) :
    Calls Tryz.prog 113 #[.pointer (some ⟨fb, fo, none⟩), .int .i64 (c : Int)] w fun z w' => z = .returned (.tuple #[.slice (if cap = n - c then q else q.map (·.add ((n - c) * 3))) c (cap - (n - c)), .bool true]) ∧ Hid (Pu w w' fb (fo + 3) (.slice none 0 0) (.slice q (n - c) cap)) := by
  obtain ⟨l, hl⟩ : ∃ l, n - c = l := ⟨_, rfl⟩
  rw [hl]
  have hw1 : IntKind.i64.wrap ((n : Int) - (c : Int)) = (l : Int) := by rw [IntKind.wrap_i64]; omega
  have s1 := cutLo q n cap l (by omega)
  have s2 := cutHi q n cap l (by omega)
  rw [show n - l = c by omega] at s1
  generalize (if cap = l then q else q.map (·.add (l * 3))) = q' at s1 ⊢
  have i0 : ¬ ((l : Int) < 0) := by omega
  have i1 : (0 : Int) ≤ (l : Int) := by omega
  have hfl : fb < w.heap.size := block_lt_of_cell hc
  have HE : Hid (∀ w', w' = w.setCell ⟨fb, fo + 3, none⟩ (.slice q l cap) ∨ w' = (w.setCell ⟨fb, fo + 3, none⟩ (.slice q l cap)).drew → Pu w w' fb (fo + 3) (.slice none 0 0) (.slice q l cap)) := fun w' e => by
    have base : Pu w (w.setCell ⟨fb, fo + 3, none⟩ (.slice q l cap)) fb (fo + 3) (.slice none 0 0) (.slice q l cap) := ⟨rfl, (Kp.refl (fun x => x = fb ∨ (obk (Value.slice none 0 0)) = some x) w).setCell (p := ⟨fb, fo + 3, none⟩) (.inl (.inl rfl)) _⟩
    rcases e with rfl | rfl
    · exact base
    · exact base.next hfl (Below.refl _ _).drew
  clear hl hcap hcn hfl
  go_enter Tryz.func113, Tryz.ntmps113
  go_wp2
  go_ret2
  exact ⟨rfl, HE.out _ (.inl rfl)⟩
set_option maxRecDepth 100000 in
set_option maxHeartbeats 2000000 in
theorem popAll_no {w : World} {fb fo n cap : Nat} {q : Option Addr} (hc : w.cell? ⟨fb, fo + 3, none⟩ = some (.slice q n cap)) (hn : n ≤ 400) (c : Nat) (hcn : n < c) (hcm : c ≤ 1000000) :
    Calls Tryz.prog 113 #[.pointer (some ⟨fb, fo, none⟩), .int .i64 (c : Int)] w fun z w' => z = .returned (.tuple #[.slice none 0 0, .bool false]) ∧ Below w.heap.size w w' := by
  have hw1 : IntKind.i64.wrap ((n : Int) - (c : Int)) = (n : Int) - (c : Int) := by rw [IntKind.wrap_i64]; omega
  have i0 : ((n : Int) - (c : Int) < 0) := by omega
  clear hcn hcm hn
  go_enter Tryz.func113, Tryz.ntmps113
  go_wp2
  go_ret2
  exact ⟨rfl, Below.refl _ _⟩
theorem Now.popAll {w0 w : World} {g : Nat} {K : Cg} {S : Ms} {L0 : List Fm} {ov : Value} {F Q : Nat → Prop} {gf cap n : Nat} {m : Fm} (h : Now w0 w g K L0 ov F Q gf cap n S m) (c l : Nat) (hc : l + c = m.f.st.length) :
    Calls Tryz.prog 113 #[.pointer (some ⟨gf, n * 4, none⟩), .int .i64 (c : Int)] w fun z w' => ∃ q' cp, z = .returned (.tuple #[.slice q' c cp, .bool true]) ∧ Hid ((0 < c → ∃ gs o, q' = some ⟨gs, o, none⟩ ∧ w'.rangeAt gs o (vcs (m.f.st.drop l)) ∧ Blk w' gs 52 0) ∧ ∃ tv', Now w0 w' g K L0 ov F Q gf cap n (S.cut n m.f (m.f.st.take l)) (m.st' tv' (m.f.st.take l))) := by
  have hfc := h.fc
  obtain ⟨L, hT, k⟩ := h
  have hm : m ∈ L := List.mem_of_getElem? hT.hm
  have hrow := (hT.h.rows m hm).2
  obtain ⟨q, cp, etv, hcp, hq⟩ := rown_slice hrow
  have c3 := hfc.2.2.2.1
  rw [etv] at c3
  refine (popAll_yes c3 (hfc.2.2.2.2 _) hT.hs hcp c (by omega)).mono fun z w' r => ?_
  obtain ⟨r1, r2⟩ := r
  have hpu := r2.out
  rw [show m.f.st.length - c = l by omega] at r1 hpu
  refine ⟨_, _, r1, ?_⟩
  have hlen : (m.f.st.take l).length = l := by rw [List.length_take]; omega
  have hh := hT.h
  rw [← hT.hn] at hh
  rcases Nat.eq_zero_or_pos m.f.st.length with h0 | h0
  · have hl0 : l = 0 := by omega
    have hc0 : c = 0 := by omega
    subst hl0 hc0
    have est : m.f.st = [] := List.eq_nil_of_length_eq_zero h0
    have hrow2 := hrow
    rw [etv] at hrow2
    have hkeep : ∀ b, (obk (Value.slice q m.f.st.length cp)) = some b → w'.heap[b]? = w.heap[b]? := fun b hb => hpu.kp.block b (rown_blk hrow2 b hb).lt fun e => by
      rcases e with e | e
      · exact rown_ne hrow2 (hT.h.fblk (by have := hT.hn; omega)) (by decide) (by rw [← e]; exact hb)
      · cases e
    have ht' : OwnR w' 52 3 (.slice q 0 cp) (m.f.st.take 0).length (vcs (m.f.st.take 0)) := by
      have := rown_same hrow2 hkeep
      rw [est] at this ⊢
      exact this
    have hob : ∀ b, (obk (Value.slice q 0 cp)) = some b → (obk m.tv) = some b := fun b hb => by rw [etv, h0]; exact hb
    obtain ⟨k1, k2, k3⟩ := hh.stack hT.hm hpu (fun b hb => by cases hb) ht' (fun b hb => .inl (hob b hb))
    rw [hT.hn] at k1 k2 k3
    exact ⟨fun q => absurd q (by omega), .slice q 0 cp, L.set n (m.st' (.slice q 0 cp) (m.f.st.take 0)), ⟨k1, by rw [List.length_set]; exact hT.hn, by rw [List.getElem?_set_self (by have := hT.hn; omega)], hT.hb, by show (m.f.st.take 0).length ≤ 400; simp⟩, k.trans ⟨k1, k2, k3, TopT.pu (hT.h.fblk (by have := hT.hn; omega)) hpu rfl⟩⟩
  · obtain ⟨gs, rfl, hrg⟩ := hq h0
    rw [etv] at hrow
    have ht := own_take hrow (k := l) (by omega)
    have hne : gs ≠ gf := fun q => rown_ne hrow (hT.h.fblk (by have := hT.hn; omega)) (by decide) (by rw [q]; exact obk_pos (by omega))
    have hgl : gs < w.heap.size := (rown_blk hrow gs (obk_pos (by omega))).lt
    have hkeep : w'.heap[gs]? = w.heap[gs]? := hpu.kp.block gs hgl fun q => by
      rcases q with q | q
      · exact hne q
      · cases q
    have ht' : OwnR w' 52 3 (.slice (some ⟨gs, 0, none⟩) l cp) (m.f.st.take l).length (vcs (m.f.st.take l)) := by
      rw [hlen]
      exact rown_same ht fun b hb => by have hb := obk_own hb; cases hb; exact hkeep
    obtain ⟨k1, k2, k3⟩ := hh.stack hT.hm hpu (fun b hb => by cases hb) ht' (fun b hb => .inl (by rw [etv]; exact hb))
    rw [hT.hn] at k1 k2 k3
    refine ⟨fun hc0 => ⟨gs, l * 3, ?_, fun j v hv => ?_, ((rown_blk hrow gs (obk_pos (by omega))).same hkeep).le (Nat.zero_le _)⟩, .slice (some ⟨gs, 0, none⟩) l cp, L.set n (m.st' (.slice (some ⟨gs, 0, none⟩) l cp) (m.f.st.take l)), ⟨k1, by rw [List.length_set]; exact hT.hn, by rw [List.getElem?_set_self (by have := hT.hn; omega)], hT.hb, ?_⟩, k.trans ⟨k1, k2, k3, TopT.pu (hT.h.fblk (by have := hT.hn; omega)) hpu rfl⟩⟩
    · rw [if_neg (by omega)]
      simp [Addr.add]
      intro h
      omega
    · have e1 : vcs m.f.st = vcs (m.f.st.take l) ++ vcs (m.f.st.drop l) := by rw [← Hp.vcs_app, List.take_append_drop]
      have := hrg (l * 3 + j) v (by rw [e1, List.getElem?_append_right (by rw [Hp.vcs_len, hlen]; omega), Hp.vcs_len, hlen, show l * 3 + j - l * 3 = j by omega]; exact hv)
      rw [Nat.zero_add] at this
      exact (World.cell?_of_block (w := w) (a := ⟨gs, l * 3 + j, none⟩) hkeep).trans this
    · have := hT.hs
      show (m.f.st.take l).length ≤ 400
      omega
end Go.Proofs.YtahdkffijlfmnaaGreatDoor

namespace Go.Proofs.YtahdkffijlfmnaaGreatDoor
open Go.RowKit
open Hp (V vc vcs)
def fitL (A : Hp.Hp) (vs : List V) (so : List Int) (i : Nat) : Bool := (vs.drop i).zip (so.drop i) |>.all fun p => fitV A p.1 p.2
theorem fitL_step (A : Hp.Hp) (vs : List V) (so : List Int) (i : Nat) (h1 : i < vs.length) (h2 : i < so.length) : fitL A vs so i = (fitV A vs[i] so[i] && fitL A vs so (i + 1)) := by
  unfold fitL
  rw [List.drop_eq_getElem_cons h1, List.drop_eq_getElem_cons h2, List.zip_cons_cons, List.all_cons]
theorem fitL_end (A : Hp.Hp) (vs : List V) (so : List Int) : fitL A vs so vs.length = true := by
  unfold fitL
  rw [List.drop_length, List.zip_nil_left]
  rfl
set_option maxRecDepth 100000 in
set_option maxHeartbeats 4000000 in
theorem fitAll_any {w : World} {g : Nat} {A : Hp.Hp} {vs : List V} {so : List Int} {q q2 : Option Addr} {cp cp2 : Nat} (hl : vs.length ≤ so.length) (hn : so.length ≤ 1000000)
    (hq : ∀ i (_ : i < vs.length), ∃ b o, q = some ⟨b, o, none⟩ ∧ w.cell? ⟨b, o + i * 3, none⟩ = some (.int .i64 vs[i].1) ∧ w.cell? ⟨b, o + i * 3 + 1, none⟩ = some (.int .i64 vs[i].2.1) ∧ w.cell? ⟨b, o + i * 3 + 2, none⟩ = some (.string vs[i].2.2))
    (hq2 : ∀ i (_ : i < so.length), ∃ b o, q2 = some ⟨b, o, none⟩ ∧ w.cell? ⟨b, o + i, none⟩ = some (.int .i64 so[i]))
    (hfit : ∀ w', Below w.heap.size w w' → ∀ v ∈ vs, ∀ s, Calls Tryz.prog 102 #[.pointer (some ⟨g, 0, none⟩), .agg #[.int .i64 v.1, .int .i64 v.2.1, .string v.2.2], .int .i64 s] w' fun z w'' => z = .returned (.bool (fitV A v s)) ∧ Below w'.heap.size w' w'') :
    Calls Tryz.prog 65 #[.pointer (some ⟨g, 0, none⟩), .slice q vs.length cp, .slice q2 so.length cp2] w fun z w' => z = .returned (.bool (fitL A vs so 0)) ∧ Below w.heap.size w w' := by
  obtain ⟨R, hR⟩ : ∃ R, fitL A vs so 0 = R := ⟨_, rfl⟩
  rw [hR]
  have HR : Hid (fitL A vs so 0 = R) := hR
  have HQ : Hid _ := hq
  have HQ2 : Hid _ := hq2
  have HFI : Hid _ := hfit
  clear hq hq2 hfit hR
  obtain ⟨N, hN⟩ : ∃ N, vs.length = N := ⟨_, rfl⟩
  obtain ⟨M, hM⟩ : ∃ M, so.length = M := ⟨_, rfl⟩
  rw [hN, hM]
  go_enter Tryz.func65, Tryz.ntmps65
  go_wp2_with fail
  have HL : Hid (vs.length = N ∧ so.length = M) := ⟨hN, hM⟩
  rw [hN, hM] at hl
  rw [hM] at hn
  clear hN hM
  go_loopw [11] (fun v wv => ∃ i : Nat, i ≤ N ∧ v = .int .i64 (i : Int) ∧ Hid (Below w.heap.size w wv ∧ fitL A vs so i = R)) (fun v _ => N - (intOf v).toNat)
  case atStart => exact ⟨0, Nat.zero_le _, rfl, Below.refl _ _, HR.out⟩
  case round =>
    obtain ⟨i, hi, rfl, hI⟩ := hrel
    by_cases hlt : i < N
    case neg =>
      obtain rfl : i = N := by omega
      have HE : Hid (R = true) := by show R = true; rw [← hI.out.2, ← HL.out.1]; exact fitL_end A vs so
      go_wp2
      go_ret
      exact ⟨by rw [HE.out]; rfl, hI.out.1⟩
    have i0 : (0 : Int) ≤ (i : Int) := Int.natCast_nonneg _
    have i1 : (i : Int) < (N : Int) := Int.ofNat_lt.2 hlt
    have i2 : (i : Int) < (M : Int) := by omega
    have hw : IntKind.i64.wrap ((i : Int) + 1) = ((i + 1 : Nat) : Int) := by rw [IntKind.wrap_i64]; omega
    have hv : i < vs.length := by rw [HL.out.1]; exact hlt
    have hs : i < so.length := by rw [HL.out.2]; omega
    obtain ⟨b, o, eq1, a0, a1, a2⟩ := HQ.out i hv
    obtain ⟨b2, o2, eq2, a3⟩ := HQ2.out i hs
    have HST : Hid ((fitV A vs[i] so[i] && fitL A vs so (i + 1)) = R) := by show _ = R; rw [← fitL_step A vs so i hv hs]; exact hI.out.2
    have hmem : vs[i] ∈ vs := List.getElem_mem hv
    generalize vs[i] = v at a0 a1 a2 HST hmem
    generalize so[i] = sr at a3 HST
    obtain ⟨k, j, s⟩ := v
    have HM2 : Hid ((k, j, s) ∈ vs) := hmem
    clear hmem hv hs
    subst eq1 eq2
    have kk := fun {p : Addr} {u : Value} (q : w.cell? p = some u) => (hI.out.1.cell (p := p) (block_lt_of_cell q)).trans q
    have c0 := kk a0
    have c1 := kk a1
    have c2 := kk a2
    have c3 := kk a3
    clear kk a0 a1 a2 a3
    go_wp2_with fail
    have f1 := Full.new wr #[.int .i64 k, .int .i64 j, .string s] 52
    have bX : Below wr.heap.size wr (wr.alloc (.cells #[.int .i64 k, .int .i64 j, .string s] 52)) := (Below.refl _ _).alloc (Nat.le_refl _) _
    have e3 := (bX.cell (p := ⟨b2, o2 + i, none⟩) (block_lt_of_cell c3)).trans c3
    generalize wr.alloc (.cells #[.int .i64 k, .int .i64 j, .string s] 52) = X at f1 bX e3 ⊢
    have x0 := cell_regrown (f1.cell 0 _ rfl).1
    have x1 := cell_regrown (f1.cell 1 _ rfl).1
    have x2 := cell_regrown (f1.cell 2 _ rfl).1
    have x3 := cell_regrown e3
    have hBX : Below w.heap.size w X := below2 hI.out.1 bX
    have d1 : ∀ d os, Calls Tryz.prog 102 #[.pointer (some ⟨g, 0, none⟩), .agg #[.int .i64 k, .int .i64 j, .string s], .int .i64 sr] (Sort.grow (redrawn X d) os) fun z w'' => z = .returned (.bool (fitV A (k, j, s) sr)) ∧ ∃ z : Regrown, w'' = Sort.grow (redrawn X z.d) z.os := fun d os => Calls.regrown_of (HFI.out _ (below2 hBX (below_regrown X d os)) (k, j, s) HM2.out sr)
    clear f1 c0 c1 c2 c3 e3 bX
    cases hfv : fitV A (k, j, s) sr with
    | false =>
      rw [hfv] at d1 HST
      refine wp_region_quiet_below (by kernel_rfl) (by kernel_rfl) ?_
      repeat (first | go_big_quiet_step (first | with_reducible exact d1 _ _) | quiet_step (first | with_reducible exact d1 _ _))
      refine wpQuiet_nil ?_
      intro _ hw'
      obtain ⟨⟨dq, osq⟩, hw''⟩ := hw'
      subst hw''
      have hY := below_regrown X dq osq
      first | (change Exit.then _ _ Exit.normal _ (Sort.grow (redrawn X dq) osq)) | skip
      generalize Sort.grow (redrawn X dq) osq = Y at hY ⊢
      clear d1
      clear x0 x1 x2 x3
      have HB : Hid (Below w.heap.size w Y) := below2 hBX hY
      have HE : Hid (R = false) := HST.out.symm
      clear hBX hY hfv
      go_wp2
      go_ret
      exact ⟨by rw [HE.out]; rfl, HB.out⟩
    | true =>
      rw [hfv] at d1 HST
      refine wp_region_quiet_below (by kernel_rfl) (by kernel_rfl) ?_
      repeat (first | go_big_quiet_step (first | with_reducible exact d1 _ _) | quiet_step (first | with_reducible exact d1 _ _))
      refine wpQuiet_nil ?_
      intro _ hw'
      obtain ⟨⟨dq, osq⟩, hw''⟩ := hw'
      subst hw''
      have hY := below_regrown X dq osq
      first | (change Exit.then _ _ Exit.normal _ (Sort.grow (redrawn X dq) osq)) | skip
      generalize Sort.grow (redrawn X dq) osq = Y at hY ⊢
      clear d1
      clear x0 x1 x2 x3
      have HB : Hid (Below w.heap.size w Y) := below2 hBX hY
      clear hBX hY hfv
      go_wp2
      exact ⟨⟨i + 1, by omega, by first | rfl | (push_cast; rfl) | go_num, HB.out, HST.out⟩, by simp [intOf]; omega⟩
end Go.Proofs.YtahdkffijlfmnaaGreatDoor
