import Derived.Test.YtdcaonfnhdjibaaDoorVPd
namespace Go.Proofs.YtdcaonfnhdjibaaDoor
open Go.RowKit

/-- What effect does at put. -/
def Eff16 : Prop := ∀ (w : World) (h G B : Nat) (a A Bb : Int) (q : Option Addr) (n cap : Nat) (s : List Int) (iq eq tq : Option Addr) (ia ea ta : Nat) (Es : List Em) (c : Cd) (e : En) (sq : Option Addr) (sc : Nat) (hi : Int) (kv ov : Value), LS w h G a (16, A, Bb) q n cap s → n ≤ 1000 → Pce w h G B iq eq tq ia ea ta Es c e sq sc hi kv ov → (∀ v ∈ s, 1 ≤ v ∧ v < 20) → Calls Tryd.prog 54 #[.pointer (some ⟨h, 0, none⟩)] w fun z w' => Hid (Eff w h G a (16, A, Bb) (effS c e (16, A, Bb) s) z w')
section
variable {w w' : World} {B b G kg : Nat} {iq eq tq : Option Addr} {ia ea ta : Nat} {Es : List Em} {c : Cd} {e : En} {sq : Option Addr} {sc : Nat} {hi : Int} {K : Kn} {O : List Int} {q : Option Addr} {cap : Nat}
theorem Sv.pce (S : Sv w B b G kg iq eq tq ia ea ta Es c e sq sc hi K O q cap) {h : Nat} {x : In} {a : Int} {ql : Option Addr} {nl cl : Nat} (k : LkM w h G a x ql nl cl) (hh : B ≤ h) : Pce w h G B iq eq tq ia ea ta Es c e sq sc hi (.slice (some ⟨kg, 0, none⟩) c.ins.length c.ins.length) (.slice q O.length cap) := by
  refine ⟨S.pl.full, S.pl.blk.ne k.blk (by decide), ⟨fun h0 => ?_, S.sn.1, S.sn.2⟩, S.m, ⟨hh, Nat.le_trans S.bs.1 S.bs.2.2.2⟩, S.cp⟩
  obtain ⟨g, o, h1, h2, h3⟩ := S.so h0
  exact ⟨g, o, h1, ⟨Nat.lt_of_lt_of_le h2 (Nat.le_trans S.bs.1 S.bs.2.2.2), fun e => by omega⟩, h3⟩
theorem Sv.ins (S : Sv w B b G kg iq eq tq ia ea ta Es c e sq sc hi K O q cap) (i : Nat) (hi' : i < c.ins.length) : ∃ g o, iq = some ⟨g, o, none⟩ ∧ g < w.heap.size ∧ w.rangeAt g (o + i * 3) [.int .i64 (insAt c i).1, .int .i64 (insAt c i).2.1, .int .i64 (insAt c i).2.2] := by
  obtain ⟨g, o, h1, h2, h3⟩ := S.m.ir (by omega)
  refine ⟨g, o, h1, Nat.lt_of_lt_of_le h2 (Nat.le_trans S.bs.1 S.bs.2.2.2), fun j v hv => ?_⟩
  have hj : j < 3 := (List.getElem?_eq_some_iff.1 hv).1
  have e1 := flat_at ic 3 (fun _ => rfl) c.ins i j hi' hj
  have ee : c.ins[i] = insAt c i := by
    unfold insAt
    rw [List.getD_eq_getElem?_getD, List.getElem?_eq_getElem hi']
    rfl
  rw [ee] at e1
  have := h3 (i * 3 + j) v (e1.trans hv)
  rw [← Nat.add_assoc] at this
  exact this
/-- The open places are taken as they come. -/
theorem Sv.pop (S : Sv w B b G kg iq eq tq ia ea ta Es c e sq sc hi K O q cap) {O' : List Int} {w' : World} (hp : PlM w' b G (pcV iq eq tq ia ea ta c e sq sc hi kg c.ins.length) O' q cap) (pt : Pt w w' G G q q) (hl : O'.length ≤ O.length) : Sv w' B b G kg iq eq tq ia ea ta Es c e sq sc hi K O' q cap ∧ Pt w w' G kg q q := by
  have P2 : Pt w w' G kg q q := ⟨(Kp.refl (fun k => k = G ∨ k = kg ∨ ob q = some k) w).trans pt.kp fun i _ x => by
    rcases x with x | x | x
    · exact .inl x
    · exact .inl x
    · exact .inr (.inr x), pt.new⟩
  obtain ⟨ks, hk⟩ := S.kn
  have hkW : w'.heap[kg]? = w.heap[kg]? := pt.kp.block kg hk.blk.lt fun x => by
    rcases x with x | x | x
    · exact S.kG x
    · exact S.kG x
    · exact S.kO x
  have hB := S.below P2
  refine ⟨⟨hp, ⟨ks, hk.keep hkW (S.sort P2)⟩, S.m.below hB (Nat.le_refl _), S.so.below hB (Nat.le_refl _), S.sn, S.cp, ⟨S.bs.1, S.bs.2.1, S.bs.2.2.1, Nat.le_trans S.bs.2.2.2 P2.kp.size⟩, S.kl, ?_⟩, P2⟩
  have := S.lf
  unfold lft at this ⊢
  simp only at this ⊢
  omega
/-- One round of the search answers and leaves. -/
def RdR (w : World) (B b G kg : Nat) (iq eq tq : Option Addr) (ia ea ta : Nat) (Es : List Em) (c : Cd) (e : En) (sq : Option Addr) (sc : Nat) (hi : Int) (q0 : Option Addr) (R : Except (Int × Int) Kn) (z : Ending) (w' : World) : Prop :=
  match R with
  | .error k => z = rfs k.1 k.2 ∧ ∃ q', Pt w w' G kg q0 q'
  | .ok K' => z = .returned (.tuple #[]) ∧ ∃ O q' cap', Sv w' B b G kg iq eq tq ia ea ta Es c e sq sc hi K' O q' cap' ∧ Pt w w' G kg q0 q'
theorem lk_no {c : Cd} {e : En} {hi : Int} {i : Nat} {st : Vst} {x : In} (hx : insAt c i = x) (hn : namedS c e x = false) : lkS c e hi i st = .error 143 := by
  unfold lkS
  rw [hx, hn]
  rfl
theorem lk_eff {c : Cd} {e : En} {hi : Int} {i : Nat} {st : Vst} {x : In} {s : List Int} (hx : insAt c i = x) (hs : st.1.getD i none = some s) (hn : namedS c e x = true) : lkS c e hi i st = match effS c e x s with | .error k => .error k | .ok s1 => fwsS e.start hi s1 (flS x i) st := by
  have e1 : stkAt st.1 i = s := by unfold stkAt; rw [hs]; rfl
  unfold lkS
  rw [hx, if_pos hn, e1]
  cases effS c e x s <;> rfl
set_option maxRecDepth 100000 in
set_option maxHeartbeats 8000000 in
theorem psurvey_any (H16 : Eff16) (S : Sv w B b G kg iq eq tq ia ea ta Es c e sq sc hi K [] q cap) (hc : CodeOk c) (he : EntOk e) (h0 : 0 ≤ e.start ∧ e.start < hi) (h1 : hi ≤ (c.ins.length : Int)) (hK : ∀ i : Nat, e.start ≤ (i : Int) → K.getD i none = none) (hA : All SOk K) :
    Calls Tryd.prog 44 #[.pointer (some ⟨G, 0, none⟩)] w fun z w' => Hid (RdR w B b G kg iq eq tq ia ea ta Es c e sq sc hi q (pieceS c e hi (c.ins.length + 1) (K.set e.start.toNat (some []), pushH [] e.start)) z w') := by
  obtain ⟨R, HR⟩ : ∃ R, Hid (pieceS c e hi (c.ins.length + 1) (K.set e.start.toNat (some []), pushH [] e.start) = R) := ⟨_, (rfl : pieceS c e hi (c.ins.length + 1) (K.set e.start.toNat (some []), pushH [] e.start) = _)⟩
  rw [HR.out]
  obtain ⟨W0, hW0⟩ : ∃ W0, W0 = w.alloc (.cells #[] 45) := ⟨_, rfl⟩
  have b0 : Below w.heap.size w W0 := by rw [hW0]; exact (Below.refl _ w).alloc (Nat.le_refl _) _
  have st0 : Stk W0 (some ⟨w.heap.size, 0, none⟩) 0 0 [] := ⟨w.heap.size, 0, rfl, rfl, Nat.le_refl _, (fun j v hv => by cases hv), by rw [hW0]; exact Blk.new w _ _ (Nat.zero_le _)⟩
  obtain ⟨st, hst⟩ : ∃ st : Nat, e.start = (st : Int) := ⟨e.start.toNat, by omega⟩
  have est : e.start.toNat = st := by omega
  have hsl : st < c.ins.length := by omega
  have hKs := hK st (by omega)
  have c1 := learn_any (S.next b0) st hsl hKs st0
  obtain ⟨⟨-, p5, -⟩, -, -⟩ := S.cs
  have hlK : (K.set e.start.toNat (some [])).length = c.ins.length := by rw [List.length_set]; exact S.kl
  have HI0 : Hid (Wl e hi (K.set st (some []), pushH [] (st : Int)) ∧ lft (K.set st (some []), pushH [] (st : Int)) < c.ins.length + 1 ∧ All SOk (K.set st (some []))) := by
    refine ⟨⟨h0.1, by rw [List.length_set, S.kl]; exact h1, fun y hy => ?_⟩, ?_, fun i s hs => ?_⟩
    · rcases (push_mem [] _ y).1 hy with rfl | hy
      · exact ⟨⟨by omega, by omega⟩, [], by rw [Int.toNat_natCast, set_getD, if_pos ⟨rfl, by rw [S.kl]; exact hsl⟩]⟩
      · cases hy
    · have e1 := cnt_set (s := []) (K := K) (i := st) (by rw [S.kl]; exact hsl) hKs
      have e2 : K.countP (·.isNone) ≤ K.length := List.countP_le_length
      have e3 := S.kl
      unfold lft
      rw [push_len]
      simp only [List.length_nil]
      omega
    · rw [set_getD] at hs
      split at hs
      · cases hs; exact sok_nil
      · exact hA i s hs
  have HCo : Hid (CodeOk c ∧ EntOk e ∧ 0 ≤ e.start ∧ hi ≤ (c.ins.length : Int) ∧ c.ins.length ≤ 60000 ∧ ∀ d ∈ c.ens, EntOk d) := ⟨hc, he, h0.1, h1, hc.il, fun d hd => ent_ok.1 (hc.es d hd)⟩
  have HBb : Hid (B ≤ b ∧ b ≤ w.heap.size) := ⟨S.bs.1, S.bs.2.2.2⟩
  have HP0 : Hid (Pt w W0 G kg q q) := Pt.of b0 G kg q
  rw [est, hst] at HR
  rw [hst] at p5
  have HN : Hid (c.ins.length ≤ 60000) := hc.il
  clear S hc he h0 h1 hK hA est hst st0 hKs hlK hsl b0
  go_enter Tryd.func44, Tryd.ntmps44
  go_wp2_with fail
  rw [← hW0]
  clear hW0
  refine c1.mono ?_
  rintro z W1 ⟨rfl, q1, cap1, hw1⟩
  have HS1 : Hid (Sv W1 B b G kg iq eq tq ia ea ta Es c e sq sc hi (K.set st (some [])) (pushH [] (st : Int)) q1 cap1 ∧ Pt w W1 G kg q q1) := ⟨hw1.out.1, HP0.out.trans hw1.out.2⟩
  clear c1 hw1 HP0
  go_wp2_with fail
  go_loopg [2] (c.ins.length + 1) (fun g _ wr => ∃ (K' : Kn) (O' : List Int) (q' : Option Addr) (cap' : Nat), Hid (Sv wr B b G kg iq eq tq ia ea ta Es c e sq sc hi K' O' q' cap' ∧ Pt w wr G kg q q') ∧ Hid (pieceS c e hi g (K', O') = R) ∧ Hid (lft (K', O') < g ∧ Wl e hi (K', O') ∧ All SOk K'))
  case atStart => exact ⟨K.set st (some []), pushH [] (st : Int), q1, cap1, HS1, HR, HI0.out.2.1, HI0.out.1, HI0.out.2.2⟩
  case round =>
    obtain ⟨K', O', q', cap', HS, HR', HI⟩ := hrel
    clear HS1 HI0 HR
    cases gk with
    | zero => exact absurd HI.out.1 (Nat.not_lt_zero _)
    | succ g =>
    obtain ⟨⟨y0, y5, y9⟩, y10, y11⟩ := HS.out.1.cs
    by_cases hO : O' = []
    · subst hO
      have HE : Hid (R = .ok K') := by show R = _; rw [← HR'.out, pieceS, if_pos rfl]
      clear HR'
      go_wp2
      go_end0
      rw [HE.out]
      exact ⟨rfl, [], q', cap', HS.out⟩
    · obtain ⟨m, hm⟩ : ∃ m, O'.length = m + 1 := ⟨O'.length - 1, by have := List.length_pos_iff.2 hO; omega⟩
      rw [hm] at y11
      have hm2 : m ≤ 900000 := by
        have := HS.out.1.lf
        unfold lft at this
        simp only at this
        omega
      have m1 : (0 : Int) < (m : Int) + 1 := by omega
      have c2 := hpop_any HS.out.1.pl hm hm2
      obtain ⟨y, Hy⟩ : ∃ y, Hid ((popL O').getD m 0 = y) := ⟨_, (rfl : (popL O').getD m 0 = _)⟩
      rw [Hy.out] at c2
      have hta := taI y
      have hTop := HI.out.2.1.top hO
      have hmm : O'.length - 1 = m := by omega
      rw [hmm, Hy.out] at hTop
      have HR2 : Hid (R = match lkS c e hi y.toNat (K', (popL O').take m) with | .error k => .error (k, y) | .ok st' => pieceS c e hi g st') := by
        show R = _
        rw [← HR'.out, pieceS, if_neg hO]
        simp only [hmm, Hy.out]
        rfl
      have HPop : Hid (∀ st', lkS c e hi y.toNat (K', (popL O').take m) = .ok st' → Wl e hi st' ∧ lft st' < lft (K', O')) := fun st' hl => HI.out.2.1.pop hO (by simp only [hmm, Hy.out]; exact hl)
      obtain ⟨⟨t1, t2⟩, s, t3⟩ := hTop
      obtain ⟨at_, hat⟩ : ∃ at_ : Nat, y = (at_ : Int) := ⟨y.toNat, by have := HCo.out.2.2.1; omega⟩
      subst hat
      rw [Int.toNat_natCast] at t3 HR2 HPop
      have hal : at_ < c.ins.length := by have := HCo.out.2.2.2.1; omega
      clear HR'
      go_wp2_with fail
      refine c2.mono ?_
      rintro z W2 ⟨rfl, hw2⟩
      obtain ⟨S2, P2⟩ := HS.out.1.pop hw2.out.1 hw2.out.2 (by rw [List.length_take, pop_len]; omega)
      have HS2 : Hid (Sv W2 B b G kg iq eq tq ia ea ta Es c e sq sc hi K' ((popL O').take m) q' cap' ∧ Pt w W2 G kg q q') := ⟨S2, HS.out.2.trans P2⟩
      clear c2 hw2 HS S2 P2 y0 y5 y9 y10 y11
      obtain ⟨gi, oi, hiq, hgi, hri⟩ := HS2.out.1.ins at_ hal
      obtain ⟨⟨y0, -, -⟩, y10, -⟩ := HS2.out.1.cs
      rw [hiq] at y0
      clear hiq
      have r0 := hri 0 _ rfl
      have r1 := hri 1 _ rfl
      have r2 := hri 2 _ rfl
      rw [Nat.add_zero] at r0
      obtain ⟨ks, hk⟩ := HS2.out.1.kn
      obtain ⟨qs, ns, cs, hks, hst⟩ := hk.yes at_ s t3
      have yk := (hk.full.cell at_ _ hks).1
      have a0 : (0 : Int) ≤ (at_ : Int) := by omega
      have a1 : (at_ : Int) < (c.ins.length : Int) := by omega
      have HSt : Hid (Stk W2 qs ns cs s) := hst
      obtain ⟨x, Hx⟩ : ∃ x, Hid (insAt c at_ = x) := ⟨_, (rfl : insAt c at_ = _)⟩
      rw [Hx.out] at r0 r1 r2
      clear hri hk hks hst
      have za0 := cell_alloc_l (.cells #[.pointer none, .int .i64 0, .int .i64 0, .int .i64 0, .int .i64 0, .slice none 0 0] 106) y0
      have za1 := cell_alloc_l (.cells #[.pointer none, .int .i64 0, .int .i64 0, .int .i64 0, .int .i64 0, .slice none 0 0] 106) r0
      have za2 := cell_alloc_l (.cells #[.pointer none, .int .i64 0, .int .i64 0, .int .i64 0, .int .i64 0, .slice none 0 0] 106) r1
      have za3 := cell_alloc_l (.cells #[.pointer none, .int .i64 0, .int .i64 0, .int .i64 0, .int .i64 0, .slice none 0 0] 106) r2
      have za4 := cell_alloc_l (.cells #[.pointer none, .int .i64 0, .int .i64 0, .int .i64 0, .int .i64 0, .slice none 0 0] 106) y10
      have za5 := cell_alloc_l (.cells #[.pointer none, .int .i64 0, .int .i64 0, .int .i64 0, .int .i64 0, .slice none 0 0] 106) yk
      go_upto_region 3 with fail
      go_region
      obtain ⟨W3, hW3⟩ : ∃ W3, W3 = (W2.alloc (.cells #[.pointer (some ⟨G, 0, none⟩), .int .i64 (at_ : Int), .int .i64 x.1, .int .i64 x.2.1, .int .i64 x.2.2, .slice qs ns cs] 106)).drew := ⟨_, rfl⟩
      rw [← hW3]
      have b3 : Below W2.heap.size W2 W3 := by rw [hW3]; exact ((Below.refl _ W2).alloc (Nat.le_refl _) _).drew
      obtain ⟨h, Hh⟩ : ∃ h, Hid (h = W2.heap.size) := ⟨_, (rfl : W2.heap.size = _)⟩
      have HL3 : Hid (LS W3 h G (at_ : Int) x qs ns cs s ∧ Below W2.heap.size W2 W3) := by
        refine ⟨⟨?_, HSt.out.next b3⟩, b3⟩
        rw [hW3, Hh.out]
        exact Full.new W2 _ _
      rw [← Hh.out]
      have HBh : Hid (B ≤ h) := by show B ≤ h; rw [Hh.out]; exact Nat.le_trans HS2.out.1.bs.1 HS2.out.1.bs.2.2.2
      have HSok : Hid (SOk s) := HI.out.2.2 at_ s t3
      have HIx : Hid (insS x = true) := by show insS x = true; rw [← Hx.out]; exact HCo.out.1.is _ (ins_mem hal)
      have hns : ns ≤ 1000 := by
        have h1 := HSok.out.len
        obtain ⟨_, _, _, hl, -⟩ := HSt.out
        omega
      have ha6 : at_ ≤ 100000 := by have := HN.out; omega
      clear hW3 b3 za0 za1 za2 za3 za4 za5 r0 r1 r2 y0 y10 yk hgi
      have c3 := named_any HL3.out.1.lk ((HS2.out.1.next HL3.out.2).pce HL3.out.1.lk HBh.out) (ins_op HIx.out).1
      go_wp2_with fail
      refine c3.mono ?_
      rintro z W4 h4
      obtain ⟨h4a, h4b⟩ := h4.out
      have HL4 : Hid (LS W4 h G (at_ : Int) x qs ns cs s ∧ Below W2.heap.size W2 W4) := ⟨HL3.out.1.next h4b, below2 HL3.out.2 h4b⟩
      clear c3 h4 h4b HL3 HSt
      cases hnm : namedS c e x with
      | false =>
        rw [hnm, if_neg (by decide)] at h4a
        subst h4a
        have HE : Hid (R = .error (143, (at_ : Int))) := by show R = _; rw [HR2.out, lk_no Hx.out hnm]
        have HPf : Hid (Pt w W4 G kg q q') := HS2.out.2.next (HL4.out.2.mono (Nat.le_refl _))
        go_wp2
        refine ⟨rfl, ?_⟩
        rw [HE.out]
        exact ⟨rfl, q', HPf.out⟩
      | true =>
        rw [hnm, if_pos rfl] at h4a
        subst h4a
        have c4 := effect_any HL4.out.1 hns ((HS2.out.1.next HL4.out.2).pce HL4.out.1.lk HBh.out) HIx.out HCo.out.2.2.2.2.2 hnm (fun v hv => by have := sort_ok (HSok.out.so v hv); omega) (fun h16 => by
          obtain ⟨o, A, Bb⟩ := x
          simp only at h16
          subst h16
          exact H16 _ _ _ _ _ _ _ _ _ _ _ _ _ _ _ _ _ _ _ _ _ _ _ _ _ HL4.out.1 hns ((HS2.out.1.next HL4.out.2).pce HL4.out.1.lk HBh.out) (fun v hv => by have := sort_ok (HSok.out.so v hv); omega))
        have HLk : Hid (lkS c e hi at_ (K', (popL O').take m) = match effS c e x s with | .error k => .error k | .ok s1 => fwsS e.start hi s1 (flS x at_) (K', (popL O').take m)) := lk_eff Hx.out t3 hnm
        have HSk : Hid (∀ s1, effS c e x s = .ok s1 → SOk s1) := fun s1 h1 => eff_sok HSok.out HCo.out.2.1 HIx.out HCo.out.2.2.2.2.2 hnm h1
        generalize effS c e x s = Rf at *
        go_wp2_with fail
        refine c4.mono ?_
        rintro z W5 h5
        replace h5 := h5.out
        clear c4
        cases hRf : Rf with
        | error kf =>
          rw [hRf] at h5 HLk
          obtain ⟨rfl, kp⟩ := h5
          have HE : Hid (R = .error (kf, (at_ : Int))) := by show R = _; rw [HR2.out, HLk.out]
          have HPf : Hid (Pt w W5 G kg q q') := by
            have b5 : Below W2.heap.size W2 W5 := HL4.out.2.trans (kp.below (fun i hi => by subst hi; rw [Hh.out]; exact Nat.le_refl _) HL4.out.2.size)
            exact HS2.out.2.next b5
          go_wp2
          refine ⟨rfl, ?_⟩
          rw [HE.out]
          exact ⟨rfl, q', HPf.out⟩
        | ok s1 =>
          rw [hRf] at h5 HLk
          obtain ⟨rfl, ⟨q5, n5, cap5, k5⟩, kp⟩ := h5
          have b5 : Below W2.heap.size W2 W5 := HL4.out.2.trans (kp.below (fun i hi => by subst hi; rw [Hh.out]; exact Nat.le_refl _) HL4.out.2.size)
          have HS5 : Hid (Sv W5 B b G kg iq eq tq ia ea ta Es c e sq sc hi K' ((popL O').take m) q' cap' ∧ Pt w W5 G kg q q') := ⟨HS2.out.1.next b5, HS2.out.2.next b5⟩
          have hn5 : n5 ≤ 1000 := by
            have h1 := (HSk.out s1 hRf).len
            have h2 := k5.len
            omega
          have c5 := followers_any HS5.out.1 k5 hn5 HCo.out.2.2.1 HCo.out.2.2.2.1 ha6 (ins_op HIx.out).1
          obtain ⟨Rw, HRw⟩ : ∃ Rw, Hid (fwsS e.start hi s1 (flS x at_) (K', (popL O').take m) = Rw) := ⟨_, (rfl : fwsS e.start hi s1 (flS x at_) (K', (popL O').take m) = _)⟩
          rw [HRw.out] at c5
          have HLk2 : Hid (lkS c e hi at_ (K', (popL O').take m) = Rw) := HLk.out.trans HRw.out
          clear HLk HS2 kp b5 k5 HL4
          go_wp2_with fail
          refine c5.mono ?_
          rintro z W6 h6
          replace h6 := h6.out
          clear c5
          cases hRw : Rw with
          | error kf =>
            rw [hRw] at h6 HLk2
            obtain ⟨rfl, kp⟩ := h6
            have HE : Hid (R = .error (kf, (at_ : Int))) := by show R = _; rw [HR2.out, HLk2.out]
            have HPf : Hid (Pt w W6 G kg q q') := HS5.out.2.trans kp
            clear kp
            go_wp2
            refine ⟨rfl, ?_⟩
            rw [HE.out]
            exact ⟨rfl, q', HPf.out⟩
          | ok st' =>
            rw [hRw] at h6 HLk2
            obtain ⟨rfl, q6, cap6, S6, k6, pt6⟩ := h6
            have HE : Hid (pieceS c e hi g (st'.1, st'.2) = R) := by show _ = R; rw [HR2.out, HLk2.out]
            have HN6 : Hid (Sv W6 B b G kg iq eq tq ia ea ta Es c e sq sc hi st'.1 st'.2 q6 cap6 ∧ Pt w W6 G kg q q6) := ⟨S6, HS5.out.2.trans pt6⟩
            have HJ : Hid (lft (st'.1, st'.2) < g ∧ Wl e hi (st'.1, st'.2) ∧ All SOk st'.1) := by
              obtain ⟨j1, j2⟩ := HPop.out st' HLk2.out
              have j3 := HI.out.1
              refine ⟨by show lft st' < g; omega, j1, ?_⟩
              exact lk_all (st := (K', (popL O').take m)) t3 (fun s s' p1 p2 p3 => eff_sok p1 HCo.out.2.1 (HCo.out.1.is _ (ins_mem hal)) HCo.out.2.2.2.2.2 p2 p3) HLk2.out HI.out.2.2
            clear S6 k6 pt6 HS5
            go_wp2
            go_roundg g
            case measure => omega
            case rel => exact ⟨st'.1, st'.2, q6, cap6, HN6, HE, HJ⟩
end
end Go.Proofs.YtdcaonfnhdjibaaDoor
