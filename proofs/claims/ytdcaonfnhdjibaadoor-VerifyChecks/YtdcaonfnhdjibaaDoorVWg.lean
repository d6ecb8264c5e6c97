import Derived.Test.YtdcaonfnhdjibaaDoorVWf
import Derived.Test.YtdcaonfnhdjibaaDoorVD1
import Derived.Deep.RegionHeld3
namespace Go.Proofs.YtdcaonfnhdjibaaDoor
open Go.RowKit

/-! VerifyWays. -/
theorem code_ins {w : World} {B : Nat} {iq eq tq : Option Addr} {Es : List Em} {c : Cd} (m : CodeM w B iq eq tq Es c) (p : Nat) (hp : p < c.ins.length) : ∃ g o, iq = some ⟨g, o, none⟩ ∧ g < B ∧ w.rangeAt g (o + p * 3) (ic (insAt c p)) := by
  obtain ⟨g, o, h1, h2, h3⟩ := m.ir (by omega)
  refine ⟨g, o, h1, h2, fun t v hv => ?_⟩
  have ht : t < 3 := (List.getElem?_eq_some_iff.1 hv).1
  have e1 := flat_at ic 3 (fun _ => rfl) c.ins p t hp ht
  have e2 : insAt c p = c.ins[p] := by unfold insAt; rw [List.getD_eq_getElem?_getD, List.getElem?_eq_getElem hp]; rfl
  rw [e2] at hv
  have := h3 (p * 3 + t) v (e1.trans hv)
  rw [← Nat.add_assoc] at this
  exact this
/-- A number brought between 0 and n, as the law does it. -/
theorem mod_in (F : Int) (n : Nat) (hn : 0 < n) (hn2 : n ≤ 60000) : ∃ (m1 m2 : Int) (k : Nat), F.tmod (n : Int) = m1 ∧ IntKind.i64.wrap (m1 + (n : Int)) = m2 ∧ m2.tmod (n : Int) = (k : Int) ∧ k < n := by
  have h1 := Int.tmod_lt_of_pos F (show (0 : Int) < (n : Int) by omega)
  have h2 : -(n : Int) < F.tmod (n : Int) := by
    have := Int.tmod_lt_of_pos (-F) (show (0 : Int) < (n : Int) by omega)
    rw [Int.neg_tmod] at this
    omega
  obtain ⟨m1, hm1⟩ : ∃ m1, F.tmod (n : Int) = m1 := ⟨_, rfl⟩
  rw [hm1] at h1 h2
  refine ⟨m1, m1 + n, ((m1 + n).tmod (n : Int)).toNat, hm1, by rw [IntKind.wrap_i64]; omega, ?_, ?_⟩
  · have h3 : 0 ≤ (m1 + (n : Int)).tmod (n : Int) := Int.tmod_nonneg _ (by omega)
    omega
  · have h3 : 0 ≤ (m1 + (n : Int)).tmod (n : Int) := Int.tmod_nonneg _ (by omega)
    have h4 := Int.tmod_lt_of_pos (m1 + (n : Int)) (show (0 : Int) < (n : Int) by omega)
    omega
theorem sok_i64 {s : List Int} (h : SOk s) : ∀ y ∈ s, -9223372036854775808 ≤ y ∧ y ≤ 9223372036854775807 := fun y hy => by
  have := sort_ok (h.so y hy)
  omega
theorem st_row {w : World} {q : Option Addr} {cap n : Nat} {s : List Int} (h : StQ w q cap s) (hn : s.length = n) : Row w w.heap.size q n (sv s) := fun h0 => by
  cases q with
  | none => have := h.nl rfl; omega
  | some a =>
    obtain ⟨g, o, rfl, h1, h2⟩ := h.sm a rfl (by omega)
    exact ⟨g, o, rfl, h1, h2⟩
theorem callSm (a b : Value) (w : World) : (callFunc 12 #[a, b]).run Tryd.prog w = .ok (.enter 12 #[a, b]) w := by kernel_rfl
theorem callLst (a b : Value) (w : World) : (callFunc 15 #[a, b]).run Tryd.prog w = .ok (.enter 15 #[a, b]) w := by kernel_rfl
theorem fl_len (x : In) (p : Nat) : (flS x p).length ≤ 60000 := by
  unfold flS
  split
  · simp
  · split
    · simp
    · split <;> simp
/-- Between two rounds. -/
structure WyI (w W2 wr : World) (c : Cd) (K : Kn) (f : Nat) (p : Nat) (q : Option Addr) (cap : Nat) (ss : List Int) : Prop where
  b : Below W2.heap.size W2 wr
  lo : (enAt c.ens f).start ≤ (p : Int)
  hi : (p : Int) < endS c f
  k : K.getD p none = some ss
  st : StQ wr q cap ss
section
variable {w : World} {B : Nat} {iq eq tq tu : Option Addr} {uc : Nat} {Es : List Em} {c : Cd} {T : List Int} {F : Int}
set_option maxRecDepth 100000 in
set_option maxHeartbeats 16000000 in
theorem ways_any (m : CodeM w B iq eq tq Es c) (cp : ∀ y ∈ Es, y.1.sorts.length ≤ y.2.2 ∧ (y.2.1 = none → y.1.sorts.length = 0)) (ia ea ta : Nat) (hT : Row w B tu T.length (sv T)) (hTl : T.length ≤ 9223372036854775807) (hB : B ≤ w.heap.size) (ht : Tabs w) :
    Calls Tryd.prog 4 #[.agg #[.slice iq c.ins.length ia, .slice eq c.ens.length ea, .slice tq c.txs.length ta, .int .i64 c.main, .int .i64 F, .slice tu T.length uc]] w fun z w' => z = .returned (.bool true) ∧ Below w.heap.size w w' := by
  obtain ⟨en, Hen⟩ : ∃ en, Hid (c.ens.length = en) := ⟨_, (rfl : c.ens.length = _)⟩
  obtain ⟨tl, Htl⟩ : ∃ tl, Hid (T.length = tl) := ⟨_, (rfl : T.length = _)⟩
  have HM : Hid (CodeM w B iq eq tq Es c ∧ (∀ y ∈ Es, y.1.sorts.length ≤ y.2.2 ∧ (y.2.1 = none → y.1.sorts.length = 0)) ∧ B ≤ w.heap.size ∧ Tabs w ∧ Row w B tu tl (sv T)) := ⟨m, cp, hB, ht, by rw [← Htl.out]; exact hT⟩
  have htlI : (tl : Int) ≤ 9223372036854775807 := by have := Htl.out; omega
  rw [Hen.out, Htl.out]
  obtain ⟨X, hX⟩ : ∃ X, w.alloc (.cells #[.slice iq c.ins.length ia, .slice eq en ea, .slice tq c.txs.length ta, .int .i64 c.main, .int .i64 F, .slice tu tl uc] 44) = X := ⟨_, rfl⟩
  have B1 : Below w.heap.size w X := by rw [← hX]; exact (Below.refl _ w).alloc (Nat.le_refl _) _
  have F1 : Full X w.heap.size 44 [.slice iq c.ins.length ia, .slice eq en ea, .slice tq c.txs.length ta, .int .i64 c.main, .int .i64 F, .slice tu tl uc] := by rw [← hX]; exact Full.new w _ _
  have c1 := lives_any X (ht.next B1)
  have HF1 : Hid (Full X w.heap.size 44 [.slice iq c.ins.length ia, .slice eq en ea, .slice tq c.txs.length ta, .int .i64 c.main, .int .i64 F, .slice tu tl uc] ∧ Below w.heap.size w X) := ⟨F1, B1⟩
  clear m cp hB ht hT hTl F1 B1
  go_enter Tryd.func4, Tryd.ntmps4
  go_upto_region 1 with fail
  go_wp2_with fail
  refine c1.mono ?_
  rintro z W1 ⟨rfl, b1⟩
  have HF : Hid (Full W1 w.heap.size 44 [.slice iq c.ins.length ia, .slice eq en ea, .slice tq c.txs.length ta, .int .i64 c.main, .int .i64 F, .slice tu tl uc] ∧ Below w.heap.size w W1) := ⟨HF1.out.1.next b1, below2 HF1.out.2 b1⟩
  clear c1 HF1 b1 hX
  have x0 := (HF.out.1.cell 0 _ rfl).1
  have x1 := (HF.out.1.cell 1 _ rfl).1
  have x2 := (HF.out.1.cell 2 _ rfl).1
  have x3 := (HF.out.1.cell 3 _ rfl).1
  have c2 := stacks_any (HM.out.1.below HF.out.2 HM.out.2.2.1) HM.out.2.1 ia ea ta (Nat.le_trans HM.out.2.2.1 HF.out.2.size) (HM.out.2.2.2.1.next HF.out.2)
  obtain ⟨R, HR⟩ : ∃ R, Hid (surS c = R) := ⟨_, (rfl : surS c = _)⟩
  rw [HR.out] at c2
  unfold codeV at c2
  rw [Hen.out] at c2
  go_wp2_with fail
  refine c2.mono ?_
  rintro z W2 h2
  obtain ⟨b2, h2⟩ := h2.out
  clear c2 x0 x1 x2 x3
  cases hR : R with
  | error k =>
    rw [hR] at h2 HR
    have h2 : z = _ := h2
    subst h2
    have hk0 := sur_nz HR.out
    obtain ⟨ke, ka⟩ := k
    have hk : (ke == 0) = false := by rw [beq_eq_false_iff_ne]; exact hk0
    have hk2 : (ke != 0) = true := by rw [bne, hk]; rfl
    have HB2 : Hid (Below w.heap.size w W2) := below2 HF.out.2 b2
    clear hk0
    simp only
    go_wp2
    go_ret
    exact ⟨rfl, HB2.out⟩
  | ok K =>
    rw [hR] at h2 HR
    obtain ⟨v, vs, rfl, hls⟩ := h2
    obtain ⟨hc, -, hKl, -, -⟩ := sur_ok HR.out
    rw [hKl] at hls
    obtain ⟨lq, lc, rfl, -⟩ := own_slice hls.own
    have HC : Hid (CodeOk c ∧ K.length = c.ins.length ∧ All SOk K ∧ CertR c K) := ⟨hc, hKl, sur_sok HR.out, certR_of HR.out⟩
    have HW : Hid (LsM W2 W1.heap.size (.slice lq c.ins.length lc) K c.ins.length vs ∧ Full W2 w.heap.size 44 [.slice iq c.ins.length ia, .slice eq en ea, .slice tq c.txs.length ta, .int .i64 c.main, .int .i64 F, .slice tu tl uc] ∧ Below w.heap.size w W2) := ⟨hls, HF.out.1.next b2, below2 HF.out.2 b2⟩
    have hil : (c.ins.length : Int) ≤ 60000 := by have := hc.il; omega
    have hen1 : 0 < en := by have := main_lt hc; rw [Hen.out] at this; omega
    have hen60 : en ≤ 60 := by have := hc.el; rw [Hen.out] at this; exact this
    obtain ⟨m1, m2, f, hm1, hm2, hm3, hfn⟩ := mod_in F en hen1 (by omega)
    have hen0 : ((en : Int) == 0) = false := by rw [beq_eq_false_iff_ne]; omega
    have hen2 : ¬ (en = 0) := by omega
    have HFn : Hid (f < c.ens.length) := by show f < _; rw [Hen.out]; exact hfn
    clear hc hKl hls HF b2 hR
    have u1 := cell_regrown (HW.out.2.1.cell 1 _ rfl).1
    have u4 := cell_regrown (HW.out.2.1.cell 4 _ rfl).1
    have x1 := (HW.out.2.1.cell 1 _ rfl).1
    go_upto_region 6 with fail
    go_wp2_with fail
    refine wp_region_quiet_below (by kernel_rfl) (by kernel_rfl) ?_
    repeat (first | go_big_quiet_step (first | fail) | quiet_step (first | fail))
    refine wpQuiet_nil ?_
    intro _ hw'
    obtain ⟨⟨dq, osq⟩, hw''⟩ := hw'
    subst hw''
    have hY := below_regrown W2 dq osq
    first | (change Exit.then _ _ Exit.normal _ (Sort.grow (redrawn W2 dq) osq)) | skip
    generalize Sort.grow (redrawn W2 dq) osq = W3 at hY ⊢
    clear u1 u4 x1
    have HW3 : Hid (LsM W3 W1.heap.size (.slice lq c.ins.length lc) K c.ins.length vs ∧ Full W3 w.heap.size 44 [.slice iq c.ins.length ia, .slice eq en ea, .slice tq c.txs.length ta, .int .i64 c.main, .int .i64 F, .slice tu tl uc] ∧ Below w.heap.size w W3) := ⟨HW.out.1.next hY, HW.out.2.1.next hY, below2 HW.out.2.2 hY⟩
    clear hY HW hm1 hm2 hm3 hen0 hen2
    obtain ⟨ge, oe, dq, dc, hqe, hge, hre, -⟩ := code_ent (HM.out.1.below HW3.out.2.2 HM.out.2.2.1) f HFn.out
    obtain ⟨st, Hst⟩ : ∃ st, Hid ((enAt c.ens f).start = st) := ⟨_, (rfl : (enAt c.ens f).start = _)⟩
    have r1 := hre 1 _ rfl
    rw [Hst.out] at r1
    have HGE : Hid (ge < B) := hge
    obtain ⟨pk1, pk2, pk3⟩ := piece_ok HC.out.1 HFn.out
    rw [Hst.out] at pk1 pk2
    obtain ⟨p0, rfl⟩ : ∃ p0 : Nat, st = (p0 : Int) := ⟨st.toNat, by omega⟩
    have HI0 : Hid (WyI w W3 W3 c K f p0 none 0 []) := ⟨Below.refl _ _, by rw [Hst.out]; exact Int.le_refl _, pk2, by
      have := HC.out.2.2.2.st f HFn.out
      rw [Hst.out, Int.toNat_natCast] at this
      exact this, Nat.le_refl _, fun _ => ⟨rfl, rfl⟩, fun a h => by cases h⟩
    have HPK : Hid (endS c f ≤ (c.ins.length : Int)) := pk3
    subst hqe
    clear hge hre pk1 pk2 pk3
    have x1 := (HW3.out.2.1.cell 1 _ rfl).1
    have x5 := (HW3.out.2.1.cell 5 _ rfl).1
    have f0 : (0 : Int) ≤ (f : Int) := by omega
    have f1 : (f : Int) < (en : Int) := by omega
    have HR1 : Hid (W3.cell? ⟨ge, oe + f * 5 + 1, none⟩ = some (.int .i64 (p0 : Int))) := r1
    go_wp2_with fail
    clear x1 x5 r1
    go_loopw [6, 7, 64] (fun pv sv' iv wr => ∃ (p i : Nat) (q : Option Addr) (cap : Nat) (ss : List Int), i ≤ tl ∧ pv = .int .i64 (p : Int) ∧ sv' = .slice q ss.length cap ∧ iv = .int .i64 (i : Int) ∧ Hid (WyI w W3 wr c K f p q cap ss)) (fun _ _ iv _ => tl - (intOf iv).toNat)
    case atStart => exact ⟨p0, 0, none, 0, [], Nat.zero_le _, rfl, rfl, rfl, HI0⟩
    case round =>
      obtain ⟨p, i, q, cap, ss, hi, rfl, rfl, rfl, HI⟩ := hrel
      clear HI0
      by_cases hlt : i < tl
      · have hpl : p < c.ins.length := by have := HI.out.hi; have := HPK.out; omega
        have HSS : Hid (SOk ss) := HC.out.2.2.1 p ss HI.out.k
        obtain ⟨sl, Hsl⟩ : ∃ sl, Hid (ss.length = sl) := ⟨_, (rfl : ss.length = _)⟩
        rw [Hsl.out]
        obtain ⟨g, cc, x, hv, y1, hx⟩ := ls_at (HW3.out.1.next HI.out.b) p hpl
        cases hv
        rw [HI.out.k] at hx
        obtain ⟨gx, -, rfl, hxf⟩ := hx
        rw [Hsl.out] at y1
        have a0 : (0 : Int) ≤ (p : Int) := by omega
        have a1 : (p : Int) < (c.ins.length : Int) := by omega
        have nN := nilNeL ⟨gx, 0, none⟩ sl sl
        have c3 := same_yes (w := wr) (q1 := some ⟨gx, 0, none⟩) (q2 := q) (n := sl) (c1 := sl) (c2 := cap) (s := ss) (fun _ => ⟨gx, 0, rfl, hxf.lt, Full.range (d := []) (by rw [List.append_nil]; exact hxf)⟩) (st_row HI.out.st Hsl.out) Hsl.out (by have := HSS.out.len; have := Hsl.out; omega)
        have hc1 : (i : Int) < (tl : Int) := by omega
        clear hxf
        go_wp2_with fail
        refine c3.mono ?_
        rintro z W4 ⟨rfl, b4⟩
        have HI4 : Hid (WyI w W3 W4 c K f p q cap ss) := ⟨below2 HI.out.b b4, HI.out.lo, HI.out.hi, HI.out.k, HI.out.st.next b4⟩
        clear c3 b4 y1 nN
        have HB4 : Hid (Below w.heap.size w W4) := below2 HW3.out.2.2 HI4.out.b
        obtain ⟨s', hdo, hfl⟩ := HC.out.2.2.2.fit f HFn.out p ss HI4.out.lo HI4.out.hi HI4.out.k
        have HFl : Hid (∀ g ∈ flS (insAt c p) p, ((enAt c.ens f).start ≤ g.1 ∧ g.1 < endS c f) ∧ K.getD g.1.toNat none = some s') := hfl
        obtain ⟨gi, oi, hqi, hgi, hri⟩ := code_ins (HM.out.1.below HB4.out HM.out.2.2.1) p hpl
        subst hqi
        obtain ⟨xi, Hxi⟩ : ∃ xi, Hid (insAt c p = xi) := ⟨_, (rfl : insAt c p = _)⟩
        rw [Hxi.out] at hri
        obtain ⟨k, A, Bb⟩ := xi
        have HDo : Hid (doesR c (enAt c.ens f) (insAt c p) ss = .ok s') := hdo
        have HGI : Hid (gi < B ∧ W4.rangeAt gi (oi + p * 3) (ic (k, A, Bb))) := ⟨hgi, hri⟩
        clear hdo hfl hgi hri HI
        have SV : Hid (∀ w' : World, Below W4.heap.size W4 w' → w'.cell? ⟨w.heap.size, 0, none⟩ = some (.slice (some ⟨gi, oi, none⟩) c.ins.length ia) ∧ w'.cell? ⟨w.heap.size, 1, none⟩ = some (.slice (some ⟨ge, oe, none⟩) en ea) ∧ w'.cell? ⟨w.heap.size, 2, none⟩ = some (.slice tq c.txs.length ta) ∧ w'.cell? ⟨w.heap.size, 3, none⟩ = some (.int .i64 c.main) ∧ w'.cell? ⟨gi, oi + p * 3, none⟩ = some (.int .i64 k) ∧ w'.cell? ⟨gi, oi + p * 3 + 1, none⟩ = some (.int .i64 A) ∧ w'.cell? ⟨gi, oi + p * 3 + 2, none⟩ = some (.int .i64 Bb) ∧ Below W4.heap.size W4 w') := fun w' hb => by
          have f1 := (HW3.out.2.1.next HI4.out.b).next hb
          have hr := range_same HGI.out.2 (hb.block gi (Nat.lt_of_lt_of_le HGI.out.1 (Nat.le_trans HM.out.2.2.1 HB4.out.size)))
          exact ⟨(f1.cell 0 _ rfl).1, (f1.cell 1 _ rfl).1, (f1.cell 2 _ rfl).1, (f1.cell 3 _ rfl).1, hr 0 _ rfl, hr 1 _ rfl, hr 2 _ rfl, hb⟩
        obtain ⟨x0, x1, x2, x3, q0, q1, q2, -⟩ := SV.out W4 (Below.refl _ _)
        have cDd : Calls Tryd.prog 13 #[.agg #[.slice (some ⟨gi, oi, none⟩) c.ins.length ia, .slice (some ⟨ge, oe, none⟩) en ea, .slice tq c.txs.length ta, .int .i64 c.main], .int .i64 (f : Int), .agg #[.int .i64 k, .int .i64 A, .int .i64 Bb], .slice q sl cap] W4.drew fun z w' => ∃ ga ca, z = .returned (.tuple #[.slice (some ⟨ga, 0, none⟩) s'.length ca, .int .i64 0]) ∧ Hid (w'.ownsRow W4.heap.size 45 1 (.slice (some ⟨ga, 0, none⟩) s'.length ca) s'.length (sv s') ∧ Below W4.heap.size W4 w') := by
          have hd : Below W4.heap.size W4 W4.drew := (Below.refl _ _).drew
          have hB5 := below2 HB4.out hd
          have h1 := does_any (HM.out.1.below hB5 HM.out.2.2.1) HC.out.1 ia ea ta (Nat.le_trans HM.out.2.2.1 hB5.size) f HFn.out (insAt c p) (HC.out.1.is _ (ins_mem hpl)) (HI4.out.st.next hd) (sok_i64 HSS.out) (by have := HSS.out.len; omega)
          rw [HDo.out, Hsl.out] at h1
          unfold codeV at h1
          rw [Hen.out, Hxi.out] at h1
          refine h1.mono fun z w' h => ?_
          obtain ⟨ga, ca, e, o, b⟩ := h.out
          exact ⟨ga, ca, e, o, hd.trans (b.mono hd.size)⟩
        go_upto_region 14 with fail
        go_wp2_with fail
        go_region_held3 (fun w' => w'.cell? ⟨w.heap.size, 0, none⟩ = some (.slice (some ⟨gi, oi, none⟩) c.ins.length ia) ∧ w'.cell? ⟨w.heap.size, 1, none⟩ = some (.slice (some ⟨ge, oe, none⟩) en ea) ∧ w'.cell? ⟨w.heap.size, 2, none⟩ = some (.slice tq c.txs.length ta) ∧ w'.cell? ⟨w.heap.size, 3, none⟩ = some (.int .i64 c.main) ∧ w'.cell? ⟨gi, oi + p * 3, none⟩ = some (.int .i64 k) ∧ w'.cell? ⟨gi, oi + p * 3 + 1, none⟩ = some (.int .i64 A) ∧ w'.cell? ⟨gi, oi + p * 3 + 2, none⟩ = some (.int .i64 Bb) ∧ Below W4.heap.size W4 w') (exact SV.out _ (by first | with_reducible assumption | exact (Below.refl _ W4).drew))
          (first
          | (go_at_call 13; (with_reducible refine cDd.mono ?_); rintro e W5 ⟨ga, ca, rfl, hb5⟩; have hcd5 : Below W4.heap.size W4 W5 := hb5.out.2)
          | fail)
        obtain ⟨z0, z1, z2, z3, p0', p1', p2', -⟩ := SV.out W5 hcd5
        have H5 : Hid (W5.ownsRow W4.heap.size 45 1 (.slice (some ⟨ga, 0, none⟩) s'.length ca) s'.length (sv s') ∧ Below W4.heap.size W4 W5) := hb5.out
        clear hb5 hcd5 cDd x0 x1 x2 x3 q0 q1 q2 SV
        have cL := rfollowers_any W5 (k, A, Bb) p (by omega)
        simp only at cL
        go_wp2_with fail
        refine cL.mono ?_
        rintro z W6 h6
        obtain ⟨fv, rfl, hfm, b6⟩ := h6.out
        have H6 : Hid (W6.ownsRow W4.heap.size 45 1 (.slice (some ⟨ga, 0, none⟩) s'.length ca) s'.length (sv s') ∧ Below W4.heap.size W4 W6 ∧ Below w.heap.size w W6) := ⟨own_next H5.out.1 b6, below2 H5.out.2 b6, below2 HB4.out (below2 H5.out.2 b6)⟩
        rw [Hxi.out] at HFl
        clear cL h6 b6 z0 z1 z2 z3 p0' p1' p2' H5
        rcases hfm with ⟨-, rfl⟩ | ⟨hne, gf, rfl, hff⟩
        · go_wp2
          go_ret
          exact ⟨rfl, H6.out.2.2⟩
        · obtain ⟨L, HL⟩ : ∃ L, Hid (flS (k, A, Bb) p = L) := ⟨_, (rfl : flS (k, A, Bb) p = _)⟩
          rw [HL.out] at HFl hne hff ⊢
          obtain ⟨ll, Hll⟩ : ∃ ll, Hid (L.length = ll) := ⟨_, (rfl : L.length = _)⟩
          have hl0 : 0 < ll := by rw [← Hll.out]; exact List.length_pos_iff.2 hne
          have hl2 : ll ≤ 60000 := by rw [← Hll.out, ← HL.out]; exact fl_len _ _
          rw [Hll.out]
          obtain ⟨g3, o3, rfl, hg3, hr3⟩ := row_get (HM.out.2.2.2.2.below H6.out.2.2 HM.out.2.2.1) i hlt
          have t0 := hr3 i _ (sv_get (by rw [Htl.out]; exact hlt))
          obtain ⟨ti, Hti⟩ : ∃ ti, Hid (T.getD i 0 = ti) := ⟨_, (rfl : T.getD i 0 = _)⟩
          rw [Hti.out] at t0
          obtain ⟨n1, n2, j, hn1, hn2, hn3, hjl⟩ := mod_in ti ll hl0 hl2
          have hjL : j < L.length := by rw [Hll.out]; exact hjl
          have hLj : L[j] ∈ L := List.getElem_mem hjL
          obtain ⟨⟨k1, k2⟩, k3⟩ := HFl.out _ hLj
          have v0 : W6.cell? ⟨gf, j * 2, none⟩ = some (.int .i64 (L[j]).1) := by
            refine (hff.cell (j * 2) _ ?_).1
            have := flat_at fc 2 (fun _ => rfl) L j 0 hjL (by decide)
            rw [Nat.add_zero] at this
            rw [this]
            rfl
          obtain ⟨p2, hp2⟩ : ∃ p2 : Nat, (L[j]).1 = (p2 : Int) := ⟨((L[j]).1).toNat, by rw [Hst.out] at k1; omega⟩
          rw [hp2] at v0 k1 k2 k3
          rw [Int.toNat_natCast] at k3
          have HNx : Hid ((enAt c.ens f).start ≤ (p2 : Int) ∧ (p2 : Int) < endS c f ∧ K.getD p2 none = some s') := ⟨k1, k2, k3⟩
          have F6 := (HW3.out.2.1.next HI4.out.b).next H6.out.2.1
          have z0 := (F6.cell 0 _ rfl).1
          have z1 := (F6.cell 1 _ rfl).1
          have z2 := (F6.cell 2 _ rfl).1
          have z3 := (F6.cell 3 _ rfl).1
          have z5 := (F6.cell 5 _ rfl).1
          have hlw3 : ge < W3.heap.size := Nat.lt_of_lt_of_le HGE.out (Nat.le_trans HM.out.2.2.1 HW3.out.2.2.size)
          have r1 := ((below2 HI4.out.b H6.out.2.1).cell (p := ⟨ge, oe + f * 5 + 1, none⟩) hlw3).trans HR1.out
          have d0 : ((ll : Int) == 0) = false := by rw [beq_eq_false_iff_ne]; omega
          have d1 : ¬ (ll = 0) := by omega
          have j0 : (0 : Int) ≤ (j : Int) := by omega
          have j1 : (j : Int) < (ll : Int) := by omega
          have i0 : (0 : Int) ≤ (i : Int) := by omega
          have kl : ¬ ((p2 : Int) < (p0 : Int)) := by rw [Hst.out] at k1; omega
          have cE := last_any (HM.out.1.below H6.out.2.2 HM.out.2.2.1) HC.out.1 ia ea ta (Nat.le_trans HM.out.2.2.1 H6.out.2.2.size) f HFn.out
          obtain ⟨hiE, HhE⟩ : ∃ e, Hid (endS c f = e) := ⟨_, (rfl : endS c f = _)⟩
          rw [HhE.out] at cE k2
          have kh : ¬ (hiE ≤ (p2 : Int)) := by omega
          unfold codeV at cE
          rw [Hen.out] at cE
          clear hne hff hLj hp2 hjL k1 k3 hg3 hr3 F6 k2 hlw3
          go_wp2_with fail
          refine cE.mono ?_
          rintro z W7 ⟨rfl, b7⟩
          have HN7 : Hid (WyI w W3 W7 c K f p2 (some ⟨ga, 0, none⟩) ca s') := by
            have o7 := own_next H6.out.1 b7
            refine ⟨below2 HI4.out.b (below2 H6.out.2.1 b7), HNx.out.1, HNx.out.2.1, HNx.out.2.2, ?_⟩
            obtain ⟨q', cap', e, hle, hr⟩ := own_slice o7
            cases e
            refine ⟨hle, fun h => (by cases h), fun a h h0 => ?_⟩
            cases h
            obtain ⟨g', e', hr'⟩ := hr h0
            cases e'
            exact ⟨ga, 0, rfl, (own_blk o7 ga rfl).lt, hr'⟩
          clear cE
          go_wp2
          exact ⟨⟨p2, i + 1, some ⟨ga, 0, none⟩, ca, s', by omega, rfl, rfl, by go_num, HN7⟩, by simp [intOf]; omega⟩
      · obtain rfl : i = tl := by omega
        have i1 : ¬ ((i : Int) < (i : Int)) := by omega
        have HBd : Hid (Below w.heap.size w wr) := below2 HW3.out.2.2 HI.out.b
        go_wp2
        go_ret
        exact ⟨rfl, HBd.out⟩
end
end Go.Proofs.YtdcaonfnhdjibaaDoor
