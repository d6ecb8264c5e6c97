import Derived.Test.YtdcaonfnhdjibaaDoorVD1
import Derived.Test.YtdcaonfnhdjibaaDoorVM1
namespace Go.Proofs.YtdcaonfnhdjibaaDoor
open Go.RowKit

/-! VerifyDead, with what twin answers as a premise. -/
/-- A twin in memory: its instructions lie in a block of their own, which may be written. -/
structure TwM (w w' : World) (gi ci : Nat) (eq' tq' : Option Addr) (Es' : List Em) (c : Cd) : Prop where
  b : Below w.heap.size w w'
  own : w'.ownsRow w.heap.size 38 3 (.slice (some ⟨gi, 0, none⟩) c.ins.length ci) c.ins.length (c.ins.flatMap ic)
  cm : ∀ (W : World) (I : List In), I.length = c.ins.length → (∀ k, k < w'.heap.size → k ≠ gi → W.heap[k]? = w'.heap[k]?) → Row W w'.heap.size (some ⟨gi, 0, none⟩) I.length (I.flatMap ic) → CodeM W w'.heap.size (some ⟨gi, 0, none⟩) eq' tq' Es' { c with ins := I }
  cp : ∀ y ∈ Es', y.1.sorts.length ≤ y.2.2 ∧ (y.2.1 = none → y.1.sorts.length = 0)
def TwC : Prop := ∀ (w : World) (B : Nat) (iq eq tq : Option Addr) (ia ea ta : Nat) (Es : List Em) (c : Cd), CodeM w B iq eq tq Es c → CodeOk c → (∀ y ∈ Es, y.1.sorts.length ≤ y.2.2 ∧ (y.2.1 = none → y.1.sorts.length = 0)) → B ≤ w.heap.size →
  Calls Tryd.prog 9 #[codeV iq eq tq ia ea ta c] w fun z w' => Hid (∃ gi ci eq' ce tq' ct Es', z = .returned (codeV (some ⟨gi, 0, none⟩) eq' tq' ci ce ct c) ∧ TwM w w' gi ci eq' tq' Es' c)
/-- Between two rounds. -/
structure DdI (W3 wr : World) (gi ci : Nat) (c : Cd) (K : Kn) (j k : Nat) (I : List In) : Prop where
  len : I.length = c.ins.length
  kj : k ≤ j
  own : wr.ownsRow 0 38 3 (.slice (some ⟨gi, 0, none⟩) c.ins.length ci) c.ins.length (I.flatMap ic)
  kp : Kp (fun x => x = gi) W3 wr
  same : ∀ i s, K.getD i none = some s → I.getD i (0, 0, 0) = insAt c i
theorem callSS (a b : Value) (w : World) : (callFunc 11 #[a, b]).run Tryd.prog w = .ok (.enter 11 #[a, b]) w := by kernel_rfl
section
variable {w : World} {B : Nat} {iq eq tq nq : Option Addr} {nl nc : Nat} {Es : List Em} {c : Cd} {N : List In}
set_option maxRecDepth 100000 in
set_option maxHeartbeats 8000000 in
theorem dead_any (TW : TwC) (m : CodeM w B iq eq tq Es c) (cp : ∀ y ∈ Es, y.1.sorts.length ≤ y.2.2 ∧ (y.2.1 = none → y.1.sorts.length = 0)) (ia ea ta : Nat) (hN : Row w B nq nl (N.flatMap ic)) (hNl : N.length = nl) (hn63 : nl ≤ 9223372036854775807) (hB : B ≤ w.heap.size) (ht : Tabs w) :
    Calls Tryd.prog 3 #[.agg #[.slice iq c.ins.length ia, .slice eq c.ens.length ea, .slice tq c.txs.length ta, .int .i64 c.main, .slice nq nl nc]] w fun z w' => z = .returned (.bool true) ∧ Below w.heap.size w w' := by
  have B1 : Below w.heap.size w (w.alloc (.cells #[.slice iq c.ins.length ia, .slice eq c.ens.length ea, .slice tq c.txs.length ta, .int .i64 c.main, .slice nq nl nc] 28)) := (Below.refl _ w).alloc (Nat.le_refl _) _
  have F1 : Full (w.alloc (.cells #[.slice iq c.ins.length ia, .slice eq c.ens.length ea, .slice tq c.txs.length ta, .int .i64 c.main, .slice nq nl nc] 28)) w.heap.size 28 [.slice iq c.ins.length ia, .slice eq c.ens.length ea, .slice tq c.txs.length ta, .int .i64 c.main, .slice nq nl nc] := Full.new w _ _
  have c1 := lives_any _ (ht.next B1)
  have HF1 : Hid (Full (w.alloc (.cells #[.slice iq c.ins.length ia, .slice eq c.ens.length ea, .slice tq c.txs.length ta, .int .i64 c.main, .slice nq nl nc] 28)) w.heap.size 28 [.slice iq c.ins.length ia, .slice eq c.ens.length ea, .slice tq c.txs.length ta, .int .i64 c.main, .slice nq nl nc] ∧ Below w.heap.size w (w.alloc (.cells #[.slice iq c.ins.length ia, .slice eq c.ens.length ea, .slice tq c.txs.length ta, .int .i64 c.main, .slice nq nl nc] 28))) := ⟨F1, B1⟩
  have HM : Hid (CodeM w B iq eq tq Es c ∧ (∀ y ∈ Es, y.1.sorts.length ≤ y.2.2 ∧ (y.2.1 = none → y.1.sorts.length = 0)) ∧ B ≤ w.heap.size ∧ Tabs w ∧ Row w B nq nl (N.flatMap ic) ∧ N.length = nl) := ⟨m, cp, hB, ht, hN, hNl⟩
  clear m cp hB ht hN hNl F1 B1
  go_enter Tryd.func3, Tryd.ntmps3
  go_upto_region 1 with fail
  generalize w.alloc (.cells #[.slice iq c.ins.length ia, .slice eq c.ens.length ea, .slice tq c.txs.length ta, .int .i64 c.main, .slice nq nl nc] 28) = X at *
  go_wp2_with fail
  refine c1.mono ?_
  rintro z W1 ⟨rfl, b1⟩
  have HF : Hid (Full W1 w.heap.size 28 [.slice iq c.ins.length ia, .slice eq c.ens.length ea, .slice tq c.txs.length ta, .int .i64 c.main, .slice nq nl nc] ∧ Below w.heap.size w W1) := ⟨HF1.out.1.next b1, below2 HF1.out.2 b1⟩
  clear c1 HF1 b1
  have x0 := (HF.out.1.cell 0 _ rfl).1
  have x1 := (HF.out.1.cell 1 _ rfl).1
  have x2 := (HF.out.1.cell 2 _ rfl).1
  have x3 := (HF.out.1.cell 3 _ rfl).1
  have c2 := stacks_any (HM.out.1.below HF.out.2 HM.out.2.2.1) HM.out.2.1 ia ea ta (Nat.le_trans HM.out.2.2.1 HF.out.2.size) (HM.out.2.2.2.1.next HF.out.2)
  obtain ⟨R, HR⟩ : ∃ R, Hid (surS c = R) := ⟨_, (rfl : surS c = _)⟩
  rw [HR.out] at c2
  unfold codeV at c2
  go_wp2_with fail
  refine c2.mono ?_
  rintro z W2 h2
  obtain ⟨b2, h2⟩ := h2.out
  clear c2 x0 x1 x2 x3
  cases hR : R with
  | error k =>
    rw [hR] at h2 HR
    have h2 : z = _ := h2
    subst h2
    have hk0 := sur_nz HR.out
    obtain ⟨ke, ka⟩ := k
    have hk : (ke == 0) = false := by rw [beq_eq_false_iff_ne]; exact hk0
    have hk2 : (ke != 0) = true := by rw [bne, hk]; rfl
    have HB2 : Hid (Below w.heap.size w W2) := below2 HF.out.2 b2
    clear hk0
    simp only
    go_wp2
    go_ret
    exact ⟨rfl, HB2.out⟩
  | ok K =>
    rw [hR] at h2 HR
    obtain ⟨v, vs, rfl, hls⟩ := h2
    obtain ⟨hc, -, hKl, -, -⟩ := sur_ok HR.out
    rw [hKl] at hls
    obtain ⟨lq, lc, rfl, -⟩ := own_slice hls.own
    have HC : Hid (CodeOk c ∧ K.length = c.ins.length ∧ All SOk K) := ⟨hc, hKl, sur_sok HR.out⟩
    have HW : Hid (LsM W2 W1.heap.size (.slice lq c.ins.length lc) K c.ins.length vs ∧ Full W2 w.heap.size 28 [.slice iq c.ins.length ia, .slice eq c.ens.length ea, .slice tq c.txs.length ta, .int .i64 c.main, .slice nq nl nc] ∧ Below w.heap.size w W2) := ⟨hls, HF.out.1.next b2, below2 HF.out.2 b2⟩
    have x0 := (HW.out.2.1.cell 0 _ rfl).1
    have x1 := (HW.out.2.1.cell 1 _ rfl).1
    have x2 := (HW.out.2.1.cell 2 _ rfl).1
    have x3 := (HW.out.2.1.cell 3 _ rfl).1
    have c3 := TW W2 B iq eq tq ia ea ta Es c (HM.out.1.below HW.out.2.2 HM.out.2.2.1) hc HM.out.2.1 (Nat.le_trans HM.out.2.2.1 HW.out.2.2.size)
    have hil : (c.ins.length : Int) ≤ 60000 := by have := hc.il; omega
    clear hc hKl hls HF b2 hR
    unfold codeV at c3
    go_wp2_with fail
    refine c3.mono ?_
    rintro z W3 h3
    obtain ⟨gi, ci, eq', ce, tq', ct, Es', rfl, tw⟩ := h3.out
    clear c3 h3 x0 x1 x2 x3
    go_upto_region 7 with fail
    obtain ⟨W4, hW4⟩ : ∃ W4, W4 = W3.alloc (.cells #[.slice (some ⟨gi, 0, none⟩) c.ins.length ci, .slice eq' c.ens.length ce, .slice tq' c.txs.length ct, .int .i64 c.main] 26) := ⟨_, rfl⟩
    rw [← hW4]
    have b4 : Below W3.heap.size W3 W4 := by rw [hW4]; exact (Below.refl _ W3).alloc (Nat.le_refl _) _
    have F4 : Full W4 W3.heap.size 26 [.slice (some ⟨gi, 0, none⟩) c.ins.length ci, .slice eq' c.ens.length ce, .slice tq' c.txs.length ct, .int .i64 c.main] := by rw [hW4]; exact Full.new W3 _ _
    have HTw : Hid (TwM W2 W3 gi ci eq' tq' Es' c ∧ Below W3.heap.size W3 W4 ∧ W2.heap.size ≤ gi ∧ gi < W3.heap.size) := ⟨tw, b4, tw.own.lt gi rfl⟩
    have HI0 : Hid (DdI W4 W4 gi ci c K 0 0 c.ins) := ⟨rfl, Nat.le_refl _, own_down (own_next tw.own b4) (Nat.zero_le _), Kp.refl _ _, fun i s _ => rfl⟩
    have HF4 : Hid (Full W4 W3.heap.size 26 [.slice (some ⟨gi, 0, none⟩) c.ins.length ci, .slice eq' c.ens.length ce, .slice tq' c.txs.length ct, .int .i64 c.main]) := F4
    have HBel : Hid (∀ wr, Kp (fun x => x = gi) W4 wr → Below W2.heap.size W2 wr ∧ Full wr W3.heap.size 26 [.slice (some ⟨gi, 0, none⟩) c.ins.length ci, .slice eq' c.ens.length ce, .slice tq' c.txs.length ct, .int .i64 c.main]) := fun wr kp => by
      have l1 := HTw.out.2.2.1
      have l2 := HTw.out.2.2.2
      have hb := below2 HTw.out.1.b HTw.out.2.1
      exact ⟨hb.trans (kp.below (fun k x => by omega) hb.size), (kp.block _ HF4.out.lt fun x => by omega).trans HF4.out⟩
    clear tw hW4 b4 F4 HF4
    obtain ⟨D, HD⟩ : ∃ D, Hid (W3.heap.size = D) := ⟨_, (rfl : W3.heap.size = _)⟩
    rw [HD.out] at HBel ⊢
    have x0 := ((HBel.out W4 HI0.out.kp).2.cell 0 _ rfl).1
    go_wp2_with fail
    clear x0
    go_loopw [6, 37] (fun kv sv wr => ∃ (j k : Nat) (I : List In), j ≤ c.ins.length ∧ kv = .int .i64 (k : Int) ∧ sv = .int .i64 (j : Int) ∧ Hid (DdI W4 wr gi ci c K j k I)) (fun _ sv _ => c.ins.length - (intOf sv).toNat)
    case atStart => exact ⟨0, 0, c.ins, Nat.zero_le _, rfl, rfl, HI0⟩
    case round =>
      obtain ⟨j, k, I, hj, rfl, rfl, HI⟩ := hrel
      clear HI0
      have HB := (HBel.out wr HI.out.kp).1
      by_cases hlt : j < c.ins.length
      · obtain ⟨g, cc, x, hv, y1, hx⟩ := ls_at (HW.out.1.next HB) j hlt
        cases hv
        have a0 : (0 : Int) ≤ (j : Int) := by omega
        have a1 : (j : Int) < (c.ins.length : Int) := by omega
        have hkj : (k : Int) ≤ 60000 := by have := HI.out.kj; omega
        have x4 := ((HW.out.2.1.next HB).cell 4 _ rfl).1
        have d0 := ((HBel.out wr HI.out.kp).2.cell 0 _ rfl).1
        cases hKj : K.getD j none with
        | none =>
          rw [hKj] at hx
          have hx : x = .slice none 0 0 := hx
          subst hx
          have nE := nilEqL
          by_cases hkl : k < nl
          · obtain ⟨gn, on, hq, -, hr⟩ := (HM.out.2.2.2.2.1.below (below2 HW.out.2.2 HB) HM.out.2.2.1) (by omega)
            subst hq
            have hkN : k < N.length := by rw [HM.out.2.2.2.2.2]; exact hkl
            obtain ⟨y, hy⟩ : ∃ y, N[k] = y := ⟨_, rfl⟩
            have key : ∀ t v, (ic y)[t]? = some v → wr.cell? ⟨gn, on + k * 3 + t, none⟩ = some v := fun t v hv => by
              have ht3 : t < 3 := (List.getElem?_eq_some_iff.1 hv).1
              have e1 := flat_at ic 3 (fun _ => rfl) N k t hkN ht3
              rw [hy] at e1
              have := hr (k * 3 + t) v (e1.trans hv)
              rw [← Nat.add_assoc] at this
              exact this
            have r0 := key 0 _ rfl
            have r1 := key 1 _ rfl
            have r2 := key 2 _ rfl
            rw [Nat.add_zero] at r0
            have hjI : j < I.length := by rw [HI.out.len]; exact hlt
            obtain ⟨yj, hyj⟩ : ∃ yj, I[j] = yj := ⟨_, rfl⟩
            have kei : ∀ t, t < 3 → wr.cell? ⟨gi, j * 3 + t, none⟩ = (ic yj)[t]? := fun t ht3 => by
              rw [HI.out.own.cellAt (j * 3 + t) (by omega), flat_at ic 3 (fun _ => rfl) I j t hjI ht3, hyj]
            have s0 := (kei 0 (by decide)).trans (rfl : _ = some _)
            have s1 := (kei 1 (by decide)).trans (rfl : _ = some _)
            have s2 := (kei 2 (by decide)).trans (rfl : _ = some _)
            have f0 := HI.out.own.frozenAt (j * 3 + 0)
            have f1 := HI.out.own.frozenAt (j * 3 + 1)
            have f2 := HI.out.own.frozenAt (j * 3 + 2)
            rw [Nat.add_zero] at s0 f0
            have hk1 : (0 : Int) ≤ (k : Int) := by omega
            have hk2 : (k : Int) < (nl : Int) := by omega
            have hwk : IntKind.i64.wrap ((k : Int) + 1) = (k : Int) + 1 := by rw [IntKind.wrap_i64]; omega
            have HN : Hid (DdI W4 (wr.setCells gi (j * 3) (ic y)).drew gi ci c K (j + 1) (k + 1) (I.set j y)) := by
              have bd : Below (wr.setCells gi (j * 3) (ic y)).heap.size (wr.setCells gi (j * 3) (ic y)) (wr.setCells gi (j * 3) (ic y)).drew := (Below.refl _ _).drew
              have kp1 : Kp (fun x => x = gi) wr (wr.setCells gi (j * 3) (ic y)) := by
                have hb0 : Below gi wr (wr.setCells gi (j * 3) (ic y)) := below_sets (Below.refl _ _) (Nat.le_refl _) _ _
                exact ⟨hb0.os, hb0.tape, hb0.output, hb0.size, fun x _ hx => sets_heap hx (ic y) (j * 3) wr⟩
              refine ⟨by rw [List.length_set]; exact HI.out.len, Nat.succ_le_succ HI.out.kj, own_next (own_setT (c := ic) (k := 3) (fun _ => rfl) HI.out.len HI.out.own j hlt y) bd, (HI.out.kp.trans kp1 fun _ _ h => h).next bd, fun i s hs => ?_⟩
              have hne : j ≠ i := fun e => by rw [e, hs] at hKj; cases hKj
              rw [List.getD_eq_getElem?_getD, List.getElem?_set_ne hne, ← List.getD_eq_getElem?_getD]
              exact HI.out.same i s hs
            clear hKj HB hr key kei hy hyj hjI hkN
            go_upto_region 12 with fail
            go_region
            go_wp2
            exact ⟨⟨j + 1, k + 1, I.set j y, by omega, by go_num, by go_num, HN⟩, by simp [intOf]; omega⟩
          · have hk2 : ¬ ((k : Int) < (nl : Int)) := by omega
            have HN : Hid (DdI W4 wr gi ci c K (j + 1) k I) := ⟨HI.out.len, Nat.le_succ_of_le HI.out.kj, HI.out.own, HI.out.kp, HI.out.same⟩
            clear hkl hKj HB
            go_wp2
            exact ⟨⟨j + 1, k, I, by omega, rfl, by go_num, HN⟩, by simp [intOf]; omega⟩
        | some s =>
          rw [hKj] at hx
          obtain ⟨gx, -, rfl, -⟩ := hx
          have nN := nilNeL ⟨gx, 0, none⟩ s.length s.length
          have HN : Hid (DdI W4 wr gi ci c K (j + 1) k I) := ⟨HI.out.len, Nat.le_succ_of_le HI.out.kj, HI.out.own, HI.out.kp, HI.out.same⟩
          clear hKj HB
          go_wp2
          exact ⟨⟨j + 1, k, I, by omega, rfl, by go_num, HN⟩, by simp [intOf]; omega⟩
      · obtain rfl : j = c.ins.length := by omega
        have i1 : ¬ ((c.ins.length : Int) < (c.ins.length : Int)) := by omega
        have hFD := (HBel.out wr HI.out.kp).2
        have d0 := (hFD.cell 0 _ rfl).1
        have d1 := (hFD.cell 1 _ rfl).1
        have d2 := (hFD.cell 2 _ rfl).1
        have d3 := (hFD.cell 3 _ rfl).1
        have kp3 : Kp (fun x => x = gi) W3 wr := (Kp.of HTw.out.2.1).trans HI.out.kp fun _ _ h => h
        have cmD : CodeM wr W3.heap.size (some ⟨gi, 0, none⟩) eq' tq' Es' { c with ins := I } := HTw.out.1.cm wr I HI.out.len (fun x hx hne => kp3.block x hx hne) (fun _ => ⟨gi, 0, rfl, HTw.out.2.2.2, fun t v hv => by
          have ht : t < I.length * 3 := by
            have := (List.getElem?_eq_some_iff.1 hv).1
            rw [flat_lenF ic 3 (fun _ => rfl)] at this
            exact this
          rw [Nat.zero_add, HI.out.own.cellAt t (by rw [← HI.out.len]; exact ht)]
          exact hv⟩)
        have HWr : Hid (Below w.heap.size w wr) := below2 HW.out.2.2 HB
        have c5 := valid_any cmD ci ce ct kp3.size (HM.out.2.2.2.1.next HWr.out)
        have HCM : Hid (CodeM wr W3.heap.size (some ⟨gi, 0, none⟩) eq' tq' Es' { c with ins := I } ∧ W3.heap.size ≤ wr.heap.size ∧ Full wr D 26 [.slice (some ⟨gi, 0, none⟩) c.ins.length ci, .slice eq' c.ens.length ce, .slice tq' c.txs.length ct, .int .i64 c.main] ∧ LsM wr W1.heap.size (.slice lq c.ins.length lc) K c.ins.length vs) := ⟨cmD, kp3.size, hFD, HW.out.1.next HB⟩
        obtain ⟨V, HV⟩ : ∃ V, Hid (validS { c with ins := I } = V) := ⟨_, (rfl : validS { c with ins := I } = _)⟩
        rw [HV.out] at c5
        unfold codeV at c5
        simp only at c5
        rw [HI.out.len] at c5
        clear cmD kp3 hFD HB
        go_wp2_with fail
        refine c5.mono ?_
        rintro z W5 ⟨rfl, b5⟩
        clear c5 d0 d1 d2 d3
        by_cases hV : V = 0
        case neg =>
          have hv : (V == 0) = false := by rw [beq_eq_false_iff_ne]; exact hV
          have hv2 : (V != 0) = true := by rw [bne, hv]; rfl
          have HB5 : Hid (Below w.heap.size w W5) := below2 HWr.out b5
          clear hV
          go_wp2
          go_ret
          exact ⟨rfl, HB5.out⟩
        subst hV
        have hdOk : CodeOk { c with ins := I } := code_ok.1 HV.out
        have hsd : surS { c with ins := I } = .ok K := sur_dead HR.out hdOk rfl rfl rfl HI.out.len (fun i s hs => HI.out.same i s hs)
        have c6 := stacks_any (HCM.out.1.below b5 HCM.out.2.1) HTw.out.1.cp ci ce ct (Nat.le_trans HCM.out.2.1 b5.size) (HM.out.2.2.2.1.next (below2 HWr.out b5))
        rw [hsd] at c6
        unfold codeV at c6
        simp only at c6
        rw [HI.out.len] at c6
        have HL5 : Hid (LsM W5 W1.heap.size (.slice lq c.ins.length lc) K c.ins.length vs ∧ Below w.heap.size w W5) := ⟨HCM.out.2.2.2.next b5, below2 HWr.out b5⟩
        have d0 := ((HCM.out.2.2.1.next b5).cell 0 _ rfl).1
        have d1 := ((HCM.out.2.2.1.next b5).cell 1 _ rfl).1
        have d2 := ((HCM.out.2.2.1.next b5).cell 2 _ rfl).1
        have d3 := ((HCM.out.2.2.1.next b5).cell 3 _ rfl).1
        clear hdOk hsd b5 HCM
        go_wp2_with fail
        refine c6.mono ?_
        rintro z W6 h6
        obtain ⟨b6, h6⟩ := h6.out
        obtain ⟨v', vs', h6, hls'⟩ := h6
        subst h6
        rw [HC.out.2.1] at hls'
        have c7 := sameStacks_yes (HL5.out.1.next b6) hls' (by omega) HC.out.2.2
        have HL6 : Hid (Below w.heap.size w W6) := below2 HL5.out.2 b6
        have c7' : Calls Tryd.prog 11 #[.slice lq c.ins.length lc, v'] W6 fun e w' => ∃ u, e = .returned u ∧ (u = .bool true ∧ Hid (Below w.heap.size w w')) := c7.mono fun _ _ h => ⟨_, h.1, rfl, below2 HL6.out h.2⟩
        clear c6 c7 d0 d1 d2 d3 hls' b6
        go_wp2_with (first
          | (refine wpList_callG (by rfl) 11 [.tmp 75, .tmp 76] #[30, 30] [.slice lq c.ins.length lc, v'] (by rfl) (by rfl) (callSS _ _) _ c7' ?_; rintro u Z7 ⟨rfl, hz7⟩)
          | go_in)
        go_ret
        exact ⟨rfl, hz7.out⟩
end
end Go.Proofs.YtdcaonfnhdjibaaDoor
