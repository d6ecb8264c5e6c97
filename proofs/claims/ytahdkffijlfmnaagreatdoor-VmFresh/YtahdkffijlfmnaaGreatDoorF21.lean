import Derived.Test.YtahdkffijlfmnaaGreatDoorF20
namespace Go.Proofs.YtahdkffijlfmnaaGreatDoor
open Go.RowKit
open Hp (V vc vcs)

/-- A call. -/
def doCallS (K : Cg) (S : Ms) (n : Nat) (f : Fr) (a : Nat) : Except Int Ms :=
  if h : a < K.Es.length then
    if f.st.length < K.Es[a].1.params.toNat then .error 7
    else if fitL S.hp (f.st.drop (f.st.length - K.Es[a].1.params.toNat)) K.Es[a].1.sorts 0 = false then .error 7
    else if ((n + 1 : Nat) : Int) = K.dep then .error 3
    else .ok { S.cut n f (f.st.take (f.st.length - K.Es[a].1.params.toNat)) with fs := (S.cut n f (f.st.take (f.st.length - K.Es[a].1.params.toNat))).fs ++ [⟨(a : Int), K.Es[a].1.start, slotsS K.Es[a].1.sorts (f.st.drop (f.st.length - K.Es[a].1.params.toNat)), []⟩] }
  else .error 7
theorem Now.kp {w0 w : World} {g : Nat} {K : Cg} {S : Ms} {L0 : List Fm} {ov : Value} {F Q : Nat → Prop} {gf cap n : Nat} {m : Fm} (h : Now w0 w g K L0 ov F Q gf cap n S m) : Kp (foot L0 (.slice (some ⟨gf, 0, none⟩) (n + 1) cap) ov F) w0 w := by
  obtain ⟨_, _, k⟩ := h
  exact k.kp
/-- What is new since then is not touched by the machine. -/
theorem Now.split {w0 w : World} {g : Nat} {K : Cg} {S : Ms} {L0 : List Fm} {ov : Value} {F Q : Nat → Prop} {gf cap n : Nat} {m : Fm} (h : Now w0 w g K L0 ov F Q gf cap n S m) : ∃ L2, (∀ b, foot L2 (.slice (some ⟨gf, 0, none⟩) (n + 1) cap) ov F b → b < w.heap.size) ∧ ∀ W, Below w.heap.size w W → Now W W g K L2 ov F Q gf cap n S m ∧ ∀ w' S' m', Now W w' g K L2 ov F Q gf cap n S' m' → Now w0 w' g K L0 ov F Q gf cap n S' m' := by
  obtain ⟨L2, hT, k⟩ := h
  refine ⟨L2, fun b hb => hT.h.lt b (.inl hb), fun W b => ?_⟩
  have hTW : TopM W g K S L2 ov F Q gf cap n m := ⟨hT.h.next b, hT.hn, hT.hm, hT.hb, hT.hs⟩
  refine ⟨hTW.now, fun w' S' m' h' => ?_⟩
  obtain ⟨L3, hT3, k3⟩ := h'
  exact ⟨L3, hT3, (k.next b).trans k3⟩
/-- popAll, at the top frame, where there are not so many. -/
theorem Now.popNo {w0 w : World} {g : Nat} {K : Cg} {S : Ms} {L0 : List Fm} {ov : Value} {F Q : Nat → Prop} {gf cap n : Nat} {m : Fm} (h : Now w0 w g K L0 ov F Q gf cap n S m) (c : Nat) (hc : m.f.st.length < c) (hm : c ≤ 1000000) :
    Calls Tryz.prog 113 #[.pointer (some ⟨gf, n * 4, none⟩), .int .i64 (c : Int)] w fun z w' => z = .returned (.tuple #[.slice none 0 0, .bool false]) ∧ Hid (Now w0 w' g K L0 ov F Q gf cap n S m) := by
  have hfc := h.fc
  obtain ⟨L, hT, k⟩ := id h
  have hrow := (hT.h.rows m (List.mem_of_getElem? hT.hm)).2
  obtain ⟨q, cp, etv, hcp, hq⟩ := rown_slice hrow
  have c3 := hfc.2.2.2.1
  rw [etv] at c3
  exact (popAll_no c3 hT.hs c hc hm).mono fun z w' r => ⟨r.1, h.next r.2⟩
theorem Now.begin {w0 w : World} {g : Nat} {K : Cg} {S : Ms} {L0 : List Fm} {ov : Value} {F Q : Nat → Prop} {gf cap n : Nat} {m : Fm} (h : Now w0 w g K L0 ov F Q gf cap n S m) {i : Nat} (hi : i < K.Es.length) (hso : (K.Es[i]).1.sorts.length ≤ 1000000) (hn : n ≤ 100000)
    {q : Option Addr} {cp : Nat} {args : List V} (ha : args.length ≤ (K.Es[i]).1.sorts.length) (hq : 0 < args.length → ∃ b o, q = some ⟨b, o, none⟩ ∧ w.rangeAt b o (vcs args)) :
    Calls Tryz.prog 26 #[.pointer (some ⟨g, 0, none⟩), .int .i64 (i : Int), .slice q args.length cp] w fun z w' => (∃ u, z = .returned u) ∧ Hid (WentM w0 w' g K { S with fs := S.fs ++ [⟨(i : Int), (K.Es[i]).1.start, slotsS (K.Es[i]).1.sorts args, []⟩] } L0 (.slice (some ⟨gf, 0, none⟩) (n + 1) cap) ov F Q) := by
  obtain ⟨L, hT, k⟩ := h
  refine (begin_any hT.h hi hso (by have := hT.hn; omega) ha hq).mono fun z w' r => ⟨r.1, ?_⟩
  exact WentM.after k.ft k.kp r.2.out
/-- What fitAll asks of the values that lie above the cut. -/
theorem Now.fitAll {w0 w : World} {g : Nat} {K : Cg} {S : Ms} {L0 : List Fm} {ov : Value} {F Q : Nat → Prop} {gf cap n : Nat} {m : Fm} (h : Now w0 w g K L0 ov F Q gf cap n S m) {i : Nat} (hi : i < K.Es.length) (hso : (K.Es[i]).1.sorts.length ≤ 1000000)
    {q : Option Addr} {cp : Nat} {args : List V} (ha : args.length ≤ (K.Es[i]).1.sorts.length) (hq : 0 < args.length → ∃ b o, q = some ⟨b, o, none⟩ ∧ w.rangeAt b o (vcs args)) (hv : ∀ v ∈ args, v.2.2.size ≤ 9223372036854775807) :
    Calls Tryz.prog 65 #[.pointer (some ⟨g, 0, none⟩), .slice q args.length cp, .slice (K.Es[i]).2.1 (K.Es[i]).1.sorts.length (K.Es[i]).2.2] w fun z w' => z = .returned (.bool (fitL S.hp args (K.Es[i]).1.sorts 0)) ∧ Below w.heap.size w w' := by
  obtain ⟨L, hM, -, -, -⟩ := h.mach
  refine fitAll_any ha hso (fun j hj => ?_) (fun j hj => ?_) fun w' b v hvm s => mfits_any (hM.next b) v s (hv v hvm)
  · obtain ⟨b, o, r1, r2⟩ := hq (by omega)
    have r3 := Hp.vcs_get r2 j hj
    exact ⟨b, o, r1, r3 0 _ rfl, r3 1 _ rfl, r3 2 _ rfl⟩
  · obtain ⟨b, o, r1, -, r3⟩ := hM.code.sr K.Es[i] (List.getElem_mem hi) (by omega)
    refine ⟨b, o, r1, r3 j _ ?_⟩
    unfold sv
    rw [List.getElem?_map, List.getElem?_eq_getElem hj]
    rfl
theorem callPopAll (a b : Value) (w : World) : (callFunc 113 #[a, b]).run Tryz.prog w = .ok (.enter 113 #[a, b]) w := by kernel_rfl
set_option maxRecDepth 100000 in
set_option maxHeartbeats 4000000 in
theorem doCall_any {w : World} {g : Nat} {K : Cg} {S : Ms} {L : List Fm} {ov : Value} {F Q : Nat → Prop} {gf cap n : Nat} {m : Fm} (h : Now w w g K L ov F Q gf cap n S m) (a : Nat) (hn : n ≤ 100000) (hv : ∀ v ∈ m.f.st, v.2.2.size ≤ 9223372036854775807)
    (hp : ∀ E ∈ K.Es, 0 ≤ E.1.params ∧ E.1.params ≤ 8 ∧ E.1.params ≤ (E.1.sorts.length : Int) ∧ E.1.sorts.length ≤ 250) :
    Calls Tryz.prog 84 #[.pointer (some ⟨g, 0, none⟩), .int .i64 (a : Int)] w fun z w' => Hid (DoR w w' g K L (.slice (some ⟨gf, 0, none⟩) (n + 1) cap) ov F Q gf (n * 4) z (doCallS K S n m.f a)) := by
  have H0 : Hid (Now w w g K L ov F Q gf cap n S m) := h
  unfold doCallS
  have a0 : (0 : Int) ≤ (a : Int) := by omega
  obtain ⟨L1, hM, hn1, hm1, hb1⟩ := h.mach
  have c1 := hM.k1
  rw [← hM.code.len] at c1
  obtain ⟨ne, hne⟩ : ∃ ne, K.Es.length = ne := ⟨_, rfl⟩
  by_cases ha : a < K.Es.length
  · rw [dif_pos ha]
    obtain ⟨ge, oe, he, -, e0, e1, e2, e3, e4⟩ := hM.code.ent a ha
    obtain ⟨p0, p8, pl, psz⟩ := hp _ (List.getElem_mem ha)
    have HF : Hid (∀ w' (m' : Fm) S' q cp (args : List V), Now w w' g K L ov F Q gf cap n S' m' → S'.hp = S.hp → args.length ≤ (K.Es[a]).1.sorts.length → (0 < args.length → ∃ b o, q = some ⟨b, o, none⟩ ∧ w'.rangeAt b o (vcs args)) → (∀ v ∈ args, v.2.2.size ≤ 9223372036854775807) → (Calls Tryz.prog 65 #[.pointer (some ⟨g, 0, none⟩), .slice q args.length cp, .slice (K.Es[a]).2.1 (K.Es[a]).1.sorts.length (K.Es[a]).2.2] w' fun z w'' => z = .returned (.bool (fitL S.hp args (K.Es[a]).1.sorts 0)) ∧ Below w'.heap.size w' w'') ∧ (Calls Tryz.prog 26 #[.pointer (some ⟨g, 0, none⟩), .int .i64 (a : Int), .slice q args.length cp] w' fun z w'' => (∃ u, z = .returned u) ∧ Hid (WentM w w'' g K { S' with fs := S'.fs ++ [⟨(a : Int), (K.Es[a]).1.start, slotsS (K.Es[a]).1.sorts args, []⟩] } L (.slice (some ⟨gf, 0, none⟩) (n + 1) cap) ov F Q))) := fun w' m' S' q cp args h' e1 e2 e3 e4 => ⟨by rw [← e1]; exact h'.fitAll ha (by omega) e2 e3 e4, h'.begin ha (by omega) hn e2 e3⟩
    rw [he, hne] at c1
    rw [hne] at ha
    obtain ⟨E, hEE⟩ : ∃ E, K.Es[a]'(by omega) = E := ⟨_, rfl⟩
    rw [hEE] at e0 e1 e2 e3 e4 p0 p8 pl psz HF ⊢
    obtain ⟨p, hpp⟩ : ∃ p : Nat, E.1.params = (p : Int) := ⟨E.1.params.toNat, by omega⟩
    rw [hpp] at e2 p8 pl p0
    rw [show E.1.params.toNat = p by omega]
    have i1 : (a : Int) < (ne : Int) := by omega
    have i2 : ¬ ((ne : Int) ≤ (a : Int)) := by omega
    obtain ⟨N, hN⟩ : ∃ N, E.1.sorts.length = N := ⟨_, rfl⟩
    obtain ⟨sq, hsq⟩ : ∃ sq, E.2.1 = sq := ⟨_, rfl⟩
    rw [hN, hsq] at e3
    have HV : Hid (∀ v ∈ m.f.st, v.2.2.size ≤ 9223372036854775807) := hv
    have HPL : Hid ((p : Int) ≤ (E.1.sorts.length : Int) ∧ p ≤ 8) := ⟨pl, by omega⟩
    obtain ⟨L2, hlt2, hsp⟩ := h.split
    obtain ⟨X, hX⟩ : ∃ X, w.alloc (.cells #[.string E.1.name, .int .i64 E.1.start, .int .i64 (p : Int), .slice sq N E.2.2, .int .i64 E.1.result] 71) = X := ⟨_, rfl⟩
    have bX : Below w.heap.size w X.drew := by rw [← hX]; exact ((Below.refl _ w).alloc (Nat.le_refl _) _).drew
    have fX : Full X.drew w.heap.size 71 [.string E.1.name, .int .i64 E.1.start, .int .i64 (p : Int), .slice sq N E.2.2, .int .i64 E.1.result] := by rw [← hX]; exact (Full.new w _ _).next (Below.refl _ _).drew
    obtain ⟨hN2, hback⟩ := hsp X.drew bX
    have HN2 : Hid (Now X.drew X.drew g K L2 ov F Q gf cap n S m) := hN2
    have HBK : Hid _ := hback
    have HFU : Hid (∀ w' S' m', Now X.drew w' g K L2 ov F Q gf cap n S' m' → Full w' w.heap.size 71 [.string E.1.name, .int .i64 E.1.start, .int .i64 (p : Int), .slice sq N E.2.2, .int .i64 E.1.result]) := fun w' S' m' h' => (h'.kp.block _ fX.lt fun q => by have := hlt2 _ q; omega).trans fX
    have q2 := (fX.cell 2 _ rfl).1
    have q2' : X.cell? ⟨w.heap.size, 2, none⟩ = some (.int .i64 (p : Int)) := q2
    have dT := Now.top_v hN2
    have HDP : Hid (K.dep = K.dep) := rfl
    clear hM h hv hp hn hsp hN2 hback hlt2 bX fX
    by_cases hlt : m.f.st.length < p
    · rw [if_pos hlt]
      have HLT : Hid _ := hlt
      clear hlt
      go_enter Tryz.func84, Tryz.ntmps84
      go_upto_region 4 with fail
      go_region_law (first
        | (refine step_call (by rfl) 28 [.tmp 25] _ [.pointer (some ⟨g, 0, none⟩)] (by rfl) (by rfl) (callTop _) (fun v w' => v = .pointer (some ⟨gf, n * 4, none⟩) ∧ Hid (Now X.drew w' g K L2 ov F Q gf cap n S m)) dT ?_; rintro v5 w5 ⟨rfl, H5⟩; have q5 := ((HFU.out w5 _ _ H5.out).cell 2 _ rfl).1)
        | (refine step_call (by rfl) 113 [.tmp 26, .tmp 28] _ [.pointer (some ⟨gf, n * 4, none⟩), .int .i64 (p : Int)] (by rfl) (by rfl) (callPopAll _ _) (fun v w' => v = .tuple #[.slice none 0 0, .bool false] ∧ Hid (Now X.drew w' g K L2 ov F Q gf cap n S m)) ((Now.popNo H5.out p HLT.out (by have := HPL.out.2; omega)).mono fun _ _ q => ⟨_, q.1, rfl, q.2⟩) ?_; rintro v6 w6 ⟨rfl, H6⟩))
      all_goals
        clear q2 q2' q5 dT
        have H7 : Hid _ := HBK.out _ _ _ H6.out
        go_wp2
        go_ret
        exact H7.out.err 7
    rw [if_neg hlt]
    have HLT : Hid _ := hlt
    obtain ⟨l, hl⟩ : ∃ l, m.f.st.length - p = l := ⟨_, rfl⟩
    rw [hl]
    have HL : Hid (l + p = m.f.st.length) := by show _ = _; omega
    have hdl : (m.f.st.drop l).length = p := by rw [List.length_drop]; omega
    have HDL : Hid _ := hdl
    clear hlt hl hdl
    obtain ⟨dep, hdep⟩ : ∃ dep, K.dep = dep := ⟨_, rfl⟩
    rw [hdep]
    have HDE : Hid (K.dep = dep) := hdep
    clear hdep
    cases hfit : fitL S.hp (m.f.st.drop l) E.1.sorts 0 with
    | false =>
      have HFT : Hid (fitL S.hp (m.f.st.drop l) E.1.sorts 0 = false) := hfit
      rw [if_pos rfl]
      clear hfit
      go_enter Tryz.func84, Tryz.ntmps84
      go_upto_region 4 with fail
      go_region_law (first
        | (refine step_call (by rfl) 28 [.tmp 25] _ [.pointer (some ⟨g, 0, none⟩)] (by rfl) (by rfl) (callTop _) (fun v w' => v = .pointer (some ⟨gf, n * 4, none⟩) ∧ Hid (Now X.drew w' g K L2 ov F Q gf cap n S m)) dT ?_; rintro v5 w5 ⟨rfl, H5⟩; have q5 := ((HFU.out w5 _ _ H5.out).cell 2 _ rfl).1)
        | (refine step_call (by rfl) 113 [.tmp 26, .tmp 28] _ [.pointer (some ⟨gf, n * 4, none⟩), .int .i64 (p : Int)] (by rfl) (by rfl) (callPopAll _ _) (fun v w' => ∃ q' cp, v = .tuple #[.slice q' p cp, .bool true] ∧ Hid ((0 < p → ∃ gs o, q' = some ⟨gs, o, none⟩ ∧ w'.rangeAt gs o (vcs (m.f.st.drop l)) ∧ Blk w' gs 52 0) ∧ ∃ tv', Now X.drew w' g K L2 ov F Q gf cap n (S.cut n m.f (m.f.st.take l)) (m.st' tv' (m.f.st.take l)))) ((Now.popAll H5.out p l HL.out).mono fun z w' q => by (obtain ⟨q', cp, r1, r2⟩ := q; exact ⟨_, r1, q', cp, rfl, r2⟩)) ?_; rintro v6 w6 ⟨q', cp, rfl, H6⟩))
      all_goals
        clear q2 q2' q5 dT
        obtain ⟨hrow, tv', hN6⟩ := H6.out
        have q3 := ((HFU.out w6 _ _ hN6).cell 3 _ rfl).1
        have H7 : Hid (Now w w6 g K L ov F Q gf cap n (S.cut n m.f (m.f.st.take l)) (m.st' tv' (m.f.st.take l))) := HBK.out _ _ _ hN6
        have HCB : Hid (∀ W, Below w6.heap.size w6 W → (Calls Tryz.prog 65 #[.pointer (some ⟨g, 0, none⟩), .slice q' p cp, .slice sq N E.2.2] W fun z w'' => z = .returned (.bool false) ∧ Below W.heap.size W w'') ∧ (Calls Tryz.prog 26 #[.pointer (some ⟨g, 0, none⟩), .int .i64 (a : Int), .slice q' p cp] W fun z w'' => (∃ u, z = .returned u) ∧ Hid (WentM w w'' g K { S.cut n m.f (m.f.st.take l) with fs := (S.cut n m.f (m.f.st.take l)).fs ++ [⟨(a : Int), E.1.start, slotsS E.1.sorts (m.f.st.drop l), []⟩] } L (.slice (some ⟨gf, 0, none⟩) (n + 1) cap) ov F Q)) ∧ W.cell? ⟨g, 7, none⟩ = some (.slice (some ⟨gf, 0, none⟩) (n + 1) cap) ∧ W.cell? ⟨g, 5, none⟩ = some (.int .i64 dep) ∧ Now w W g K L ov F Q gf cap n (S.cut n m.f (m.f.st.take l)) (m.st' tv' (m.f.st.take l))) := fun W bW => by
          have hNW := H7.out.next bW
          have hdl := HDL.out
          have := HF.out W _ _ q' cp (m.f.st.drop l) hNW rfl (by rw [hdl]; have := HPL.out.1; omega) (fun h0 => by
            obtain ⟨gs, o, r1, r2, -⟩ := hrow (by omega)
            refine ⟨gs, o, r1, range_same r2 (bW.block gs (block_lt_of_cell (r2 0 _ (List.getElem?_eq_getElem (by rw [Hp.vcs_len]; omega)))))⟩) (fun v hv => HV.out v (List.mem_of_mem_drop hv))
          rw [hdl, hsq, hN, HFT.out] at this
          obtain ⟨L9, hM9, -, -, -⟩ := hNW.mach
          exact ⟨this.1, this.2, hM9.k7, by rw [← HDE.out]; exact hM9.k5, hNW⟩
        clear H6 hN6 hrow
        have dF := (HCB.out w6 (Below.refl _ _)).1
        go_wp2_with (first
          | (go_at_call 65; refine dF.mono ?_; rintro z8 w8 ⟨rfl, hb8⟩)
          | fail)
        go_ret
        exact (H7.out.next hb8).err 7
    | true =>
      have HFT : Hid (fitL S.hp (m.f.st.drop l) E.1.sorts 0 = true) := hfit
      rw [if_neg (by decide)]
      clear hfit
      obtain ⟨n1, hn1⟩ : ∃ n1, n + 1 = n1 := ⟨_, rfl⟩
      have HN1 : Hid _ := hn1
      by_cases hd : ((n + 1 : Nat) : Int) = dep
      · rw [if_pos hd]
        rw [hn1] at hd
        have k1 : ((n1 : Int) == dep) = true := by rw [beq_iff_eq]; exact hd
        clear hn1
        go_enter Tryz.func84, Tryz.ntmps84
        go_upto_region 4 with fail
        go_region_law (first
          | (refine step_call (by rfl) 28 [.tmp 25] _ [.pointer (some ⟨g, 0, none⟩)] (by rfl) (by rfl) (callTop _) (fun v w' => v = .pointer (some ⟨gf, n * 4, none⟩) ∧ Hid (Now X.drew w' g K L2 ov F Q gf cap n S m)) dT ?_; rintro v5 w5 ⟨rfl, H5⟩; have q5 := ((HFU.out w5 _ _ H5.out).cell 2 _ rfl).1)
          | (refine step_call (by rfl) 113 [.tmp 26, .tmp 28] _ [.pointer (some ⟨gf, n * 4, none⟩), .int .i64 (p : Int)] (by rfl) (by rfl) (callPopAll _ _) (fun v w' => ∃ q' cp, v = .tuple #[.slice q' p cp, .bool true] ∧ Hid ((0 < p → ∃ gs o, q' = some ⟨gs, o, none⟩ ∧ w'.rangeAt gs o (vcs (m.f.st.drop l)) ∧ Blk w' gs 52 0) ∧ ∃ tv', Now X.drew w' g K L2 ov F Q gf cap n (S.cut n m.f (m.f.st.take l)) (m.st' tv' (m.f.st.take l)))) ((Now.popAll H5.out p l HL.out).mono fun z w' q => by (obtain ⟨q', cp, r1, r2⟩ := q; exact ⟨_, r1, q', cp, rfl, r2⟩)) ?_; rintro v6 w6 ⟨q', cp, rfl, H6⟩))
        all_goals
          clear q2 q2' q5 dT
          obtain ⟨hrow, tv', hN6⟩ := H6.out
          have q3 := ((HFU.out w6 _ _ hN6).cell 3 _ rfl).1
          have H7 : Hid (Now w w6 g K L ov F Q gf cap n (S.cut n m.f (m.f.st.take l)) (m.st' tv' (m.f.st.take l))) := HBK.out _ _ _ hN6
          have HCB : Hid (∀ W, Below w6.heap.size w6 W → (Calls Tryz.prog 65 #[.pointer (some ⟨g, 0, none⟩), .slice q' p cp, .slice sq N E.2.2] W fun z w'' => z = .returned (.bool true) ∧ Below W.heap.size W w'') ∧ (Calls Tryz.prog 26 #[.pointer (some ⟨g, 0, none⟩), .int .i64 (a : Int), .slice q' p cp] W fun z w'' => (∃ u, z = .returned u) ∧ Hid (WentM w w'' g K { S.cut n m.f (m.f.st.take l) with fs := (S.cut n m.f (m.f.st.take l)).fs ++ [⟨(a : Int), E.1.start, slotsS E.1.sorts (m.f.st.drop l), []⟩] } L (.slice (some ⟨gf, 0, none⟩) (n + 1) cap) ov F Q)) ∧ W.cell? ⟨g, 7, none⟩ = some (.slice (some ⟨gf, 0, none⟩) n1 cap) ∧ W.cell? ⟨g, 5, none⟩ = some (.int .i64 dep) ∧ Now w W g K L ov F Q gf cap n (S.cut n m.f (m.f.st.take l)) (m.st' tv' (m.f.st.take l))) := fun W bW => by
            have hNW := H7.out.next bW
            have hdl := HDL.out
            have := HF.out W _ _ q' cp (m.f.st.drop l) hNW rfl (by rw [hdl]; have := HPL.out.1; omega) (fun h0 => by
              obtain ⟨gs, o, r1, r2, -⟩ := hrow (by omega)
              refine ⟨gs, o, r1, range_same r2 (bW.block gs (block_lt_of_cell (r2 0 _ (List.getElem?_eq_getElem (by rw [Hp.vcs_len]; omega)))))⟩) (fun v hv => HV.out v (List.mem_of_mem_drop hv))
            rw [hdl, hsq, hN, HFT.out] at this
            obtain ⟨L9, hM9, -, -, -⟩ := hNW.mach
            exact ⟨this.1, this.2, by rw [← HN1.out]; exact hM9.k7, by rw [← HDE.out]; exact hM9.k5, hNW⟩
          clear H6 hN6 hrow
          have dF := (HCB.out w6 (Below.refl _ _)).1
          go_wp2_with (first
            | (go_at_call 65; refine dF.mono ?_; rintro z8 w8 ⟨rfl, hb8⟩; obtain ⟨-, -, c7, c5, -⟩ := HCB.out w8 hb8; clear dF)
            | fail)
          have y7 := cell_regrown c7
          have y5 := cell_regrown c5
          refine wp_region_quiet_below (by kernel_rfl) (by kernel_rfl) ?_
          repeat (first | go_big_quiet_step (first | fail) | quiet_step (first | fail))
          refine wpQuiet_nil ?_
          intro _ hw'
          obtain ⟨⟨dq, osq⟩, hw''⟩ := hw'
          subst hw''
          have hY := below_regrown w8 dq osq
          first | (change Exit.then _ _ Exit.normal _ (Sort.grow (redrawn w8 dq) osq)) | skip
          generalize Sort.grow (redrawn w8 dq) osq = Y at hY ⊢
          clear y7 y5 c7 c5
          go_wp2
          go_ret
          exact (HCB.out Y (below2 hb8 hY)).2.2.2.2.err 3
      · rw [if_neg hd]
        rw [hn1] at hd
        have k1 : ((n1 : Int) == dep) = false := by rw [beq_eq_false_iff_ne]; exact hd
        clear hn1
        go_enter Tryz.func84, Tryz.ntmps84
        go_upto_region 4 with fail
        go_region_law (first
          | (refine step_call (by rfl) 28 [.tmp 25] _ [.pointer (some ⟨g, 0, none⟩)] (by rfl) (by rfl) (callTop _) (fun v w' => v = .pointer (some ⟨gf, n * 4, none⟩) ∧ Hid (Now X.drew w' g K L2 ov F Q gf cap n S m)) dT ?_; rintro v5 w5 ⟨rfl, H5⟩; have q5 := ((HFU.out w5 _ _ H5.out).cell 2 _ rfl).1)
          | (refine step_call (by rfl) 113 [.tmp 26, .tmp 28] _ [.pointer (some ⟨gf, n * 4, none⟩), .int .i64 (p : Int)] (by rfl) (by rfl) (callPopAll _ _) (fun v w' => ∃ q' cp, v = .tuple #[.slice q' p cp, .bool true] ∧ Hid ((0 < p → ∃ gs o, q' = some ⟨gs, o, none⟩ ∧ w'.rangeAt gs o (vcs (m.f.st.drop l)) ∧ Blk w' gs 52 0) ∧ ∃ tv', Now X.drew w' g K L2 ov F Q gf cap n (S.cut n m.f (m.f.st.take l)) (m.st' tv' (m.f.st.take l)))) ((Now.popAll H5.out p l HL.out).mono fun z w' q => by (obtain ⟨q', cp, r1, r2⟩ := q; exact ⟨_, r1, q', cp, rfl, r2⟩)) ?_; rintro v6 w6 ⟨q', cp, rfl, H6⟩))
        all_goals
          clear q2 q2' q5 dT
          obtain ⟨hrow, tv', hN6⟩ := H6.out
          have q3 := ((HFU.out w6 _ _ hN6).cell 3 _ rfl).1
          have H7 : Hid (Now w w6 g K L ov F Q gf cap n (S.cut n m.f (m.f.st.take l)) (m.st' tv' (m.f.st.take l))) := HBK.out _ _ _ hN6
          have HCB : Hid (∀ W, Below w6.heap.size w6 W → (Calls Tryz.prog 65 #[.pointer (some ⟨g, 0, none⟩), .slice q' p cp, .slice sq N E.2.2] W fun z w'' => z = .returned (.bool true) ∧ Below W.heap.size W w'') ∧ (Calls Tryz.prog 26 #[.pointer (some ⟨g, 0, none⟩), .int .i64 (a : Int), .slice q' p cp] W fun z w'' => (∃ u, z = .returned u) ∧ Hid (WentM w w'' g K { S.cut n m.f (m.f.st.take l) with fs := (S.cut n m.f (m.f.st.take l)).fs ++ [⟨(a : Int), E.1.start, slotsS E.1.sorts (m.f.st.drop l), []⟩] } L (.slice (some ⟨gf, 0, none⟩) (n + 1) cap) ov F Q)) ∧ W.cell? ⟨g, 7, none⟩ = some (.slice (some ⟨gf, 0, none⟩) n1 cap) ∧ W.cell? ⟨g, 5, none⟩ = some (.int .i64 dep) ∧ Now w W g K L ov F Q gf cap n (S.cut n m.f (m.f.st.take l)) (m.st' tv' (m.f.st.take l))) := fun W bW => by
            have hNW := H7.out.next bW
            have hdl := HDL.out
            have := HF.out W _ _ q' cp (m.f.st.drop l) hNW rfl (by rw [hdl]; have := HPL.out.1; omega) (fun h0 => by
              obtain ⟨gs, o, r1, r2, -⟩ := hrow (by omega)
              refine ⟨gs, o, r1, range_same r2 (bW.block gs (block_lt_of_cell (r2 0 _ (List.getElem?_eq_getElem (by rw [Hp.vcs_len]; omega)))))⟩) (fun v hv => HV.out v (List.mem_of_mem_drop hv))
            rw [hdl, hsq, hN, HFT.out] at this
            obtain ⟨L9, hM9, -, -, -⟩ := hNW.mach
            exact ⟨this.1, this.2, by rw [← HN1.out]; exact hM9.k7, by rw [← HDE.out]; exact hM9.k5, hNW⟩
          clear H6 hN6 hrow
          have dF := (HCB.out w6 (Below.refl _ _)).1
          go_wp2_with (first
            | (go_at_call 65; refine dF.mono ?_; rintro z8 w8 ⟨rfl, hb8⟩; obtain ⟨-, -, c7, c5, -⟩ := HCB.out w8 hb8; clear dF)
            | fail)
          have y7 := cell_regrown c7
          have y5 := cell_regrown c5
          refine wp_region_quiet_below (by kernel_rfl) (by kernel_rfl) ?_
          repeat (first | go_big_quiet_step (first | fail) | quiet_step (first | fail))
          refine wpQuiet_nil ?_
          intro _ hw'
          obtain ⟨⟨dq, osq⟩, hw''⟩ := hw'
          subst hw''
          have hY := below_regrown w8 dq osq
          first | (change Exit.then _ _ Exit.normal _ (Sort.grow (redrawn w8 dq) osq)) | skip
          generalize Sort.grow (redrawn w8 dq) osq = Y at hY ⊢
          clear y7 y5 c7 c5
          obtain ⟨-, dB, -⟩ := HCB.out Y (below2 hb8 hY)
          go_wp2_with (first
            | (go_at_call 26; refine dB.mono ?_; rintro z9 w9 ⟨⟨u9, rfl⟩, H9⟩)
            | fail)
          go_ret
          exact ⟨rfl, H9.out⟩
  · rw [dif_neg ha]
    have i2 : ((ne : Int) ≤ (a : Int)) := by omega
    rw [hne] at c1
    clear hM h
    go_enter Tryz.func84, Tryz.ntmps84
    go_wp2
    go_ret
    exact H0.out.err 7
end Go.Proofs.YtahdkffijlfmnaaGreatDoor

namespace Go.Proofs.YtahdkffijlfmnaaGreatDoor
open Go.RowKit
open Hp (V vc vcs bv)

/-! The output grows. -/
theorem app_none (w : World) (ty : TypeId) (q : Option Addr) (n cap : Nat) (hn : n ≤ cap) (s : ByteArray) (hs : s.size = 0) (hq : q = none → n = 0) : (Builtin.append_ #[80, 9] ty #[.slice q n cap, .string s]).run Tryz.prog w = .ok (.slice q n cap) w := by
  obtain ⟨i, hi, hz0, hz1, hz2⟩ := info_parts Hp.info5
  have hf := Lib.run_firstCells_string (P := Tryz.prog) w 1 s
  have he : Lib.strCells s = [] := by
    have : (Lib.strCells s).length = 0 := by rw [Lib.strCells_length]; exact hs
    exact List.eq_nil_of_length_eq_zero this
  rw [he, hs] at hf
  cases q with
  | none =>
    have := hq rfl
    subst this
    simp [Builtin.append_, run_underlying Tryz.underlying80, run_underlying Tryz.underlying9, sizeOf, typeInfo, hi, hz1, Builtin.lenOf, hs, hf]
  | some a => simp [Builtin.append_, run_underlying Tryz.underlying80, run_underlying Tryz.underlying9, sizeOf, typeInfo, hi, hz1, Builtin.lenOf, hs, hn, hf, storeCells]
set_option maxRecDepth 100000 in
theorem runR_appS (w : World) (ty : TypeId) (v : Value) (n : Nat) (l : List UInt8) (s : ByteArray) (hown : OwnR w 5 1 v n (bv l)) (hn : n + s.size ≤ 1000000000) :
    ∃ v' w', (Builtin.append_ #[80, 9] ty #[v, .string s]).run Tryz.prog w = .ok v' w' ∧ OwnR w' 5 1 v' (n + s.size) (bv (l ++ s.data.toList)) ∧ w.grownBy w' (obk v) ∧ (obk v' = obk v ∨ obk v' = some w.heap.size) := by
  rcases Nat.eq_zero_or_pos s.size with h0 | h0
  · obtain ⟨q, cap, rfl, hc, hq⟩ := rown_slice hown
    have he : s.data.toList = [] := List.eq_nil_of_length_eq_zero (by rw [Array.length_toList]; exact h0)
    refine ⟨_, _, app_none w ty q n cap hc s h0 (fun e => ?_), by rw [h0, he, List.append_nil]; exact hown, ⟨rfl, rfl, rfl, Nat.le_refl _, fun _ _ _ => rfl⟩, .inl rfl⟩
    rcases Nat.eq_zero_or_pos n with r | r
    · exact r
    · obtain ⟨g, e1, -⟩ := hq r
      rw [e] at e1; cases e1
  · obtain ⟨i, hi, hz0, hz1, hz2⟩ := info_parts Hp.info5
    have nil : n = 0 → l = [] → ∃ v' w', (Builtin.append_ #[80, 9] ty #[.slice none 0 0, .string s]).run Tryz.prog w = .ok v' w' ∧ OwnR w' 5 1 v' (n + s.size) (bv (l ++ s.data.toList)) ∧ w.grownBy w' none ∧ obk v' = some w.heap.size := fun e1 e2 => by
      subst e1 e2
      obtain ⟨v', w', h1, h2, h3, _⟩ := Lib.run_append_own_string (P := Tryz.prog) w 0 80 9 ty 5 i Tryz.underlying80 Tryz.underlying9 hi hz0 hz1 hz2 (.slice none 0 0) 0 [] ⟨rfl, .inl ⟨rfl, rfl⟩⟩ s (by unfold maxLen; omega) (by omega) (Nat.zero_le _)
      have r1 := run_append_nil_string (P := Tryz.prog) w 80 9 ty 5 i (.int .u8 0) Tryz.underlying80 Tryz.underlying9 hi hz0 s h0 (by omega) (by rw [hz2]; omega)
      refine ⟨v', w', h1, .inl ?_, h3, ?_⟩
      · rw [List.nil_append, ← Hp.strCells_bv]; exact h2
      · obtain ⟨q, c, e, hc, hq⟩ := own_slice h2
        rw [h1] at r1
        injection r1 with a b
        rw [a] at e
        injection e with e5 e6 e7
        rw [a, e7]
        exact obk_pos (by omega)
    have zero : ∀ q, v = .slice q 0 0 → n = 0 → l = [] → ∃ v' w', (Builtin.append_ #[80, 9] ty #[v, .string s]).run Tryz.prog w = .ok v' w' ∧ OwnR w' 5 1 v' (n + s.size) (bv (l ++ s.data.toList)) ∧ w.grownBy w' (obk v) ∧ (obk v' = obk v ∨ obk v' = some w.heap.size) := by
      rintro q rfl e1 e2
      obtain ⟨v', w', a1, a2, a3, a4⟩ := nil e1 e2
      cases q with
      | none => exact ⟨v', w', a1, a2, a3, .inr a4⟩
      | some a =>
        have r1 := Lib.run_append_grow_string (P := Tryz.prog) w 80 9 ty 5 i (.int .u8 0) Tryz.underlying80 Tryz.underlying9 hi hz0 a 0 0 [] (by simp) (fun j v hv => by cases hv) s (by omega) (by omega) (by rw [hz2]; exact growslice_fits (by omega) (by omega))
        have r2 := run_append_nil_string (P := Tryz.prog) w 80 9 ty 5 i (.int .u8 0) Tryz.underlying80 Tryz.underlying9 hi hz0 s h0 (by omega) (by rw [hz2]; omega)
        refine ⟨v', w', ?_, a2, by rw [obk_zero]; exact a3, .inr a4⟩
        have e5 : (Lib.strCells s).toArray = s.data.map (fun b => Value.int .u8 (b.toNat : Int)) := by
          apply Array.ext'
          simp [Lib.strCells]
        rw [r1, ← a1, r2, e5, Nat.zero_add]
        simp
    rcases hown with ho | ⟨q, e1, e2, e3⟩
    · rcases ho.2 with ⟨rfl, e2⟩ | ⟨g', cap, cur, rfl, b1, b2, b3, b4, b5, b6⟩
      · exact zero none rfl e2 (List.eq_nil_of_length_eq_zero (by have := ho.1; rw [Hp.bv_len] at this; omega))
      · by_cases hc : cap = 0
        · subst hc
          obtain rfl : n = 0 := by omega
          exact zero _ rfl rfl (List.eq_nil_of_length_eq_zero (by have := ho.1; rw [Hp.bv_len] at this; omega))
        · obtain ⟨v', w', a1, a2, a3, a4⟩ := Hp.run_appS w ty 0 g' cap n l s ho hn (Nat.zero_le _)
          have hv : obk (.slice (some ⟨g', 0, none⟩) n cap) = some g' := obk_pos (by omega)
          have hv' : obk v' = v'.ownBlock := by
            obtain ⟨q, c, rfl, hc2, hq⟩ := own_slice a2
            obtain ⟨g3, rfl, -⟩ := hq (by omega)
            rw [obk_pos (by omega)]
            rfl
          exact ⟨v', w', a1, .inl a2, by rw [hv]; exact a3, by rw [hv, hv']; exact a4⟩
    · exact zero q e1 e2 (List.eq_nil_of_length_eq_zero (by have := congrArg List.length e3; rw [Hp.bv_len] at this; exact this))
/-- The output is another list now. -/
theorem MachM.outs {w w5 : World} {g : Nat} {K : Cg} {S : Ms} {L : List Fm} {fv ov v5 : Value} {F Q : Nat → Prop} (h : MachM w g K S L fv ov F Q) (hk : Kp (fun x => obk ov = some x) w w5) (out : List UInt8)
    (ho : OwnR w5 5 1 v5 out.length (bv out)) (hv : ∀ b, obk v5 = some b → obk ov = some b ∨ w.heap.size ≤ b) :
    MachM (w5.setCell ⟨g, 13, none⟩ v5) g K { S with out := out } L fv v5 F Q ∧ Kp (fun x => x = g ∨ obk ov = some x) w (w5.setCell ⟨g, 13, none⟩ v5) := by
  obtain ⟨hb, hF, hr⟩ := h.heap.blk
  have hb : Blk w g 82 17 := hb
  have hF : F g := hF
  have hgl : g < w.heap.size := hb.lt
  have hlt := h.lt
  have h5 : w5.heap[g]? = w.heap[g]? := hk.block g hgl fun q => h.nv g (.inr q) hF
  have keep : ∀ b, b < w.heap.size → b ≠ g → obk ov ≠ some b → (w5.setCell ⟨g, 13, none⟩ v5).heap[b]? = w.heap[b]? := fun b h1 h2 h3 => (set_heap (a := ⟨g, 13, none⟩) h2).trans (hk.block b h1 h3)
  have hne : ∀ b, ¬ F b → b ≠ g := fun b hb q => hb (q ▸ hF)
  have hv5 : obk v5 ≠ some g := fun q => by
    rcases hv g q with r | r
    · exact h.nv g (.inr r) hF
    · omega
  have h5c : ∀ j, w5.cell? ⟨g, j, none⟩ = w.cell? ⟨g, j, none⟩ := fun j => World.cell?_of_block (w := w) (a := ⟨g, j, none⟩) h5
  have hh : Hp.HeapOf w5 (mhp g K S fv ov) K.lim S.hp F := h.heap.same (fun b hb => hk.block b (hlt b (.inl (.inl hb))) fun q => h.nv b (.inr q) hb) hk.size
  have hh2 := hh.put 13 (.inr (show 8 + 4 ≤ 13 by decide)) v5 (msc K { S with out := out } fv v5) fun x hx => by
    have other : ∀ j v, j ≠ 13 → w.cell? ⟨g, j, none⟩ = some v → (w5.setCell ⟨g, 13, none⟩ v5).cell? ⟨g, j, none⟩ = some v := fun j v hj hv => (World.cell?_setCell_other _ _ _ _ (fun q => hj (by have := congrArg Addr.off q; exact (by simpa using this : 13 = j).symm))).trans ((h5c j).trans hv)
    have same : (w5.setCell ⟨g, 13, none⟩ v5).cell? ⟨g, 13, none⟩ = some v5 := World.cell?_setCell_same' _ _ _ (by rw [h5c 13, h.k13]; rfl)
    unfold msc at hx
    simp only [List.mem_cons, List.not_mem_nil, or_false] at hx
    rcases hx with rfl | rfl | rfl | rfl | rfl | rfl | rfl | rfl | rfl | rfl | rfl | rfl | rfl
    · exact ⟨.inl (show 0 < 8 by decide), other 0 _ (by decide) h.k0⟩
    · exact ⟨.inl (show 1 < 8 by decide), other 1 _ (by decide) h.k1⟩
    · exact ⟨.inl (show 2 < 8 by decide), other 2 _ (by decide) h.k2⟩
    · exact ⟨.inl (show 3 < 8 by decide), other 3 _ (by decide) h.k3⟩
    · exact ⟨.inl (show 4 < 8 by decide), other 4 _ (by decide) h.k4⟩
    · exact ⟨.inl (show 5 < 8 by decide), other 5 _ (by decide) h.k5⟩
    · exact ⟨.inl (show 6 < 8 by decide), other 6 _ (by decide) h.k6⟩
    · exact ⟨.inl (show 7 < 8 by decide), other 7 _ (by decide) h.k7⟩
    · exact ⟨.inr (show 8 + 4 ≤ 12 by decide), other 12 _ (by decide) h.k12⟩
    · exact ⟨.inr (show 8 + 4 ≤ 13 by decide), same⟩
    · exact ⟨.inr (show 8 + 4 ≤ 14 by decide), other 14 _ (by decide) h.k14⟩
    · exact ⟨.inr (show 8 + 4 ≤ 15 by decide), other 15 _ (by decide) h.k15⟩
    · exact ⟨.inr (show 8 + 4 ≤ 16 by decide), other 16 _ (by decide) h.k16⟩
  have ovn : ∀ m ∈ L, ∀ b, obk m.sv = some b ∨ obk m.tv = some b → obk ov ≠ some b := fun m hm b hb q => by
    rcases hb with hb | hb
    · exact rown_ne (h.rows m hm).1 (rown_blk h.out b q) (by decide) hb
    · exact rown_ne (h.rows m hm).2 (rown_blk h.out b q) (by decide) hb
  refine ⟨⟨h.code.same (fun b hb => keep b (h.code.lt b hb) (hne b (h.nq b hb).1) (h.nq b hb).2.2.1) (by rw [set_size]; exact hk.size), hh2, ?_, h.abs, fun m hm => ⟨rown_same (h.rows m hm).1 fun b hb => keep b (hlt b (.inl (.inr (.inr (.inr ⟨m, hm, .inl hb⟩))))) (hne b (h.nf m hm b (.inl hb))) (ovn m hm b (.inl hb)), rown_same (h.rows m hm).2 fun b hb => keep b (hlt b (.inl (.inr (.inr (.inr ⟨m, hm, .inr hb⟩))))) (hne b (h.nf m hm b (.inr hb))) (ovn m hm b (.inr hb))⟩, ?_, h.sep, h.nf, fun b hb q => ?_, fun b hb => ?_⟩, ?_⟩
  · exact rown_same h.fr fun b hb => keep b (hlt b (.inl (.inr (.inl hb)))) (hne b (h.nv b (.inl hb))) fun q => rown_ne h.out (rown_blk h.fr b hb) (by decide) q
  · exact rown_same ho fun b hb => set_heap (a := ⟨g, 13, none⟩) fun q => hv5 (by have q : b = g := q; rw [← q]; exact hb)
  · rcases hb with hb | hb
    · exact h.nv b (.inl hb) q
    · rcases hv b hb with r | r
      · exact h.nv b (.inr r) q
      · have := hlt b (.inl (.inl q))
        omega
  · obtain ⟨n0, n1, n2, n3⟩ := h.nq b hb
    refine ⟨n0, n1, fun q => ?_, n3⟩
    rcases hv b q with r | r
    · exact n2 r
    · have := h.code.lt b hb
      omega
  · exact (⟨hk.os, hk.tape, hk.output, hk.size, fun b hb hn => hk.block b hb fun q => hn (.inr q)⟩ : Kp (fun x => x = g ∨ obk ov = some x) w w5).setCell (p := ⟨g, 13, none⟩) (.inl (.inl rfl)) _
/-- Something has been printed since. -/
structure PrI (w1 W : World) (g : Nat) (K : Cg) (S : Ms) (L : List Fm) (fv ov : Value) (F Q : Nat → Prop) (out : List UInt8) : Prop where
  ex : ∃ ov', MachM W g K { S with out := out } L fv ov' F Q ∧ (∀ b, obk ov' = some b → obk ov = some b ∨ w1.heap.size ≤ b)
  kp : Kp (fun x => x = g ∨ obk ov = some x) w1 W
theorem PrI.next {w1 W W' : World} {g : Nat} {K : Cg} {S : Ms} {L : List Fm} {fv ov : Value} {F Q : Nat → Prop} {out : List UInt8} (h : PrI w1 W g K S L fv ov F Q out) (k : Below W.heap.size W W') : PrI w1 W' g K S L fv ov F Q out := by
  obtain ⟨ov', h1, h2⟩ := h.ex
  exact ⟨⟨ov', h1.next k, h2⟩, h.kp.next k⟩
/-- The list that the output is, and what an append to it does. -/
theorem PrI.app {w1 W : World} {g : Nat} {K : Cg} {S : Ms} {L : List Fm} {fv ov : Value} {F Q : Nat → Prop} {out : List UInt8} (h : PrI w1 W g K S L fv ov F Q out) : ∃ q c, W.cell? ⟨g, 13, none⟩ = some (.slice q out.length c) ∧ W.frozen? ⟨g, 13, none⟩ = false ∧ OwnR W 5 1 (.slice q out.length c) out.length (bv out) ∧
    ∀ W2, Below W.heap.size W W2 → ∀ v5 w5 (l : List UInt8), OwnR w5 5 1 v5 (out ++ l).length (bv (out ++ l)) → W2.grownBy w5 (obk (.slice q out.length c)) → (obk v5 = obk (.slice q out.length c) ∨ obk v5 = some W2.heap.size) →
      (w5.cell? ⟨g, 13, none⟩ = some (.slice q out.length c) ∧ w5.frozen? ⟨g, 13, none⟩ = false) ∧ PrI w1 (w5.setCell ⟨g, 13, none⟩ v5) g K S L fv ov F Q (out ++ l) := by
  obtain ⟨ov', h1, h2⟩ := h.ex
  obtain ⟨q, c, e, -, -⟩ := rown_slice h1.out
  have e : ov' = .slice q out.length c := e
  subst e
  refine ⟨q, c, h1.k13, h1.un 13, h1.out, fun W2 b v5 w5 l ho hg hv => ?_⟩
  have hkw : Kp (fun x => obk (.slice q out.length c) = some x) W w5 := (Kp.of b).grown hg fun x hx => .inl hx
  have hgF : F g := h1.heap.blk.2.1
  have hgb : w5.heap[g]? = W.heap[g]? := hkw.block g h1.heap.blk.1.lt fun e => h1.nv g (.inr e) hgF
  have hv5 : ∀ x, obk v5 = some x → obk (.slice q out.length c) = some x ∨ W.heap.size ≤ x := fun x hx => by
    rcases hv with r | r
    · exact .inl (r ▸ hx)
    · rw [r] at hx; cases hx; exact .inr b.size
  obtain ⟨r1, r2⟩ := h1.outs hkw (out ++ l) ho hv5
  refine ⟨⟨(World.cell?_of_block (w := W) (a := ⟨g, 13, none⟩) hgb).trans h1.k13, ?_⟩, ⟨⟨v5, r1, fun x hx => ?_⟩, h.kp.trans r2 fun x hx hq => ?_⟩⟩
  · have : w5.frozen? ⟨g, 13, none⟩ = W.frozen? ⟨g, 13, none⟩ := by unfold World.frozen?; rw [show w5.heap[(⟨g, 13, none⟩ : Addr).block]? = W.heap[(⟨g, 13, none⟩ : Addr).block]? from hgb]
    rw [this]
    exact h1.un 13
  · rcases hv5 x hx with r | r
    · exact h2 x r
    · exact .inr (Nat.le_trans h.kp.size r)
  · rcases hq with r | r
    · exact .inl r
    · rcases h2 x r with r | r
      · exact .inr r
      · omega
end Go.Proofs.YtahdkffijlfmnaaGreatDoor
