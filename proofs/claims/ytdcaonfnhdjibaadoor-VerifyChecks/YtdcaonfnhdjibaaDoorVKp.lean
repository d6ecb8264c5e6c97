import Derived.Test.YtdcaonfnhdjibaaDoorVTc
import Derived.Test.YtdcaonfnhdjibaaDoorVPh
import Derived.Lib.QuietBelow
namespace Go.Proofs.YtdcaonfnhdjibaaDoor
open Go.RowKit

/-! Two codes of one content, the first one a twin with its marks. -/
theorem neqI (a b c : Int) : ∀ w : World, (binOp BinOp.neq 38 (.agg #[.int .i64 a, .int .i64 b, .int .i64 c]) (.agg #[.int .i64 a, .int .i64 b, .int .i64 c])).run Tryd.prog w = .ok (.bool false) w := by
  intro w
  simp [go_sem]
theorem neqT (t : ByteArray) : ∀ w : World, (binOp BinOp.neq 9 (.string t) (.string t)).run Tryd.prog w = .ok (.bool false) w := by
  intro w
  simp [go_sem]
section
variable {w0 W W' : World} {gi ci ge ce gt ct : Nat} {Es' : List Em} {c : Cd}
theorem TwF.next (h : TwF w0 W gi ci ge ce gt ct Es' c) (k : Below W.heap.size W W') : TwF w0 W' gi ci ge ce gt ct Es' c := ⟨below2 h.b k, own_next h.ins k, own_next h.ens k, own_next h.txs k, h.en, fun y hy => by
  obtain ⟨g, e, o⟩ := h.sr y hy
  exact ⟨g, e, own_next o k⟩⟩
theorem own_cap {w : World} {b : Nat} {e : TypeId} {sz g n cap : Nat} {xs : List Value} (h : w.ownsRow b e sz (.slice (some ⟨g, 0, none⟩) n cap) n xs) : n ≤ cap := by
  obtain ⟨q, cp, e1, hle, -⟩ := own_slice h
  cases e1
  exact hle
theorem TwF.in_ (h : TwF w0 W gi ci ge ce gt ct Es' c) (i : Nat) (hi : i < c.ins.length) : W.rangeAt gi (i * 3) (ic (insAt c i)) := fun t v hv => by
  have ht : t < 3 := (List.getElem?_eq_some_iff.1 hv).1
  have e1 := flat_at ic 3 (fun _ => rfl) c.ins i t hi ht
  have e2 : insAt c i = c.ins[i] := by unfold insAt; rw [List.getD_eq_getElem?_getD, List.getElem?_eq_getElem hi]; rfl
  have hlt : i * 3 + t < (c.ins.flatMap ic).length := by rw [flat_lenF ic 3 (fun _ => rfl)]; omega
  rw [h.ins.cellAt (i * 3 + t) (by omega), List.getElem?_append_left hlt, e1, ← e2]
  exact hv
theorem TwF.imark (h : TwF w0 W gi ci ge ce gt ct Es' c) : W.cell? ⟨gi, c.ins.length * 3 + 1, none⟩ = some (.int .i64 77) := by
  have hl := flat_lenF ic 3 (fun _ => rfl) c.ins
  rw [h.ins.cellAt (c.ins.length * 3 + 1) (by omega), List.getElem?_append_right (by omega), hl, show c.ins.length * 3 + 1 - c.ins.length * 3 = 1 by omega]
  rfl
theorem TwF.tx (h : TwF w0 W gi ci ge ce gt ct Es' c) (i : Nat) (hi : i < c.txs.length) : W.cell? ⟨gt, i, none⟩ = some (.string (c.txs[i])) := by
  have hl : (tv c.txs).length = c.txs.length := List.length_map ..
  rw [h.txs.cellAt i (by omega), List.getElem?_append_left (by omega)]
  unfold tv
  rw [List.getElem?_map, List.getElem?_eq_getElem hi]
  rfl
theorem TwF.tmark (h : TwF w0 W gi ci ge ce gt ct Es' c) : W.cell? ⟨gt, c.txs.length, none⟩ = some (.string spT) := by
  have hl : (tv c.txs).length = c.txs.length := List.length_map ..
  rw [h.txs.cellAt c.txs.length (by omega), List.getElem?_append_right (by omega), hl, Nat.sub_self]
  rfl
theorem TwF.emark (h : TwF w0 W gi ci ge ce gt ct Es' c) : W.cell? ⟨ge, c.ens.length * 5, none⟩ = some (.string spT) := by
  have hl2 : Es'.length = c.ens.length := by rw [← h.en, List.length_map]
  have hl := ec_len Es'
  rw [hl2] at hl
  rw [h.ens.cellAt (c.ens.length * 5) (by omega), List.getElem?_append_right (by omega), hl, Nat.sub_self]
  rfl
theorem TwF.en_ (h : TwF w0 W gi ci ge ce gt ct Es' c) (i : Nat) (hi : i < c.ens.length) : ∃ gs cs, W.rangeAt ge (i * 5) [.string (enAt c.ens i).name, .int .i64 (enAt c.ens i).start, .int .i64 (enAt c.ens i).params, .slice (some ⟨gs, 0, none⟩) (enAt c.ens i).sorts.length cs, .int .i64 (enAt c.ens i).result] ∧ W.ownsRow w0.heap.size 45 1 (.slice (some ⟨gs, 0, none⟩) ((enAt c.ens i).sorts.length + 1) cs) ((enAt c.ens i).sorts.length + 1) (sv (enAt c.ens i).sorts ++ [.int .i64 77]) := by
  have hl2 : Es'.length = c.ens.length := by rw [← h.en, List.length_map]
  have hiE : i < Es'.length := by omega
  have ee : Es'[i].1 = enAt c.ens i := by
    unfold enAt
    rw [← h.en, List.getD_eq_getElem?_getD, List.getElem?_map, List.getElem?_eq_getElem hiE]
    rfl
  obtain ⟨g, e, o⟩ := h.sr Es'[i] (List.getElem_mem hiE)
  rw [ee] at o
  refine ⟨g, _, fun t v hv => ?_, o⟩
  have ht : t < 5 := (List.getElem?_eq_some_iff.1 hv).1
  have e1 := flat_at ec 5 (fun _ => rfl) Es' i t hiE ht
  have hlt : i * 5 + t < (Es'.flatMap ec).length := by rw [ec_len]; omega
  rw [h.ens.cellAt (i * 5 + t) (by omega), List.getElem?_append_left hlt, e1]
  unfold ec
  rw [ee, e]
  exact hv
end
/-- Between the rounds. -/
structure ScI (w0 w W : World) (B gi ci ge ce gt ct : Nat) (iq eq tq : Option Addr) (ia ea ta : Nat) (Es Es' : List Em) (c : Cd) : Prop where
  b : Below w.heap.size w W
  t : TwF w0 W gi ci ge ce gt ct Es' c
  m : CodeM W B iq eq tq Es c
  x : Full W w.heap.size 26 [.slice (some ⟨gi, 0, none⟩) c.ins.length ci, .slice (some ⟨ge, 0, none⟩) c.ens.length ce, .slice (some ⟨gt, 0, none⟩) c.txs.length ct, .int .i64 c.main]
  y : Full W (w.heap.size + 1) 26 [.slice iq c.ins.length ia, .slice eq c.ens.length ea, .slice tq c.txs.length ta, .int .i64 c.main]
  hb : B ≤ W.heap.size
section
variable {w0 w W W' : World} {B gi ci ge ce gt ct : Nat} {iq eq tq : Option Addr} {ia ea ta : Nat} {Es Es' : List Em} {c : Cd}
theorem ScI.next (h : ScI w0 w W B gi ci ge ce gt ct iq eq tq ia ea ta Es Es' c) (k : Below W.heap.size W W') : ScI w0 w W' B gi ci ge ce gt ct iq eq tq ia ea ta Es Es' c := ⟨below2 h.b k, h.t.next k, h.m.below k h.hb, h.x.next k, h.y.next k, Nat.le_trans h.hb k.size⟩
set_option maxRecDepth 100000 in
set_option maxHeartbeats 8000000 in
theorem sameCode_any (t : TwF w0 w gi ci ge ce gt ct Es' c) (m : CodeM w B iq eq tq Es c) (hB : B ≤ w.heap.size) (ia ea ta : Nat) (hin : (c.ins.length + 1) * 24 ≤ 140737488355328) (hen : (c.ens.length + 1) * 64 ≤ 140737488355328) (htn : (c.txs.length + 1) * 16 ≤ 140737488355328) (hsn : ∀ y ∈ Es, (y.1.sorts.length + 1) * 8 ≤ 140737488355328) :
    Calls Tryd.prog 24 #[codeV (some ⟨gi, 0, none⟩) (some ⟨ge, 0, none⟩) (some ⟨gt, 0, none⟩) ci ce ct c, codeV iq eq tq ia ea ta c] w fun z w' => z = .returned (.bool true) ∧ Below w.heap.size w w' := by
  obtain ⟨X, hX⟩ : ∃ X, (w.alloc (.cells #[.slice (some ⟨gi, 0, none⟩) c.ins.length ci, .slice (some ⟨ge, 0, none⟩) c.ens.length ce, .slice (some ⟨gt, 0, none⟩) c.txs.length ct, .int .i64 c.main] 26)).alloc (.cells #[.slice iq c.ins.length ia, .slice eq c.ens.length ea, .slice tq c.txs.length ta, .int .i64 c.main] 26) = X := ⟨_, rfl⟩
  have HI : Hid (ScI w0 w X B gi ci ge ce gt ct iq eq tq ia ea ta Es Es' c) := by
    have al := fun (W : World) (o : Obj) => ((Below.refl W.heap.size W).alloc (Nat.le_refl _) o)
    have f1 := Full.new w #[.slice (some ⟨gi, 0, none⟩) c.ins.length ci, .slice (some ⟨ge, 0, none⟩) c.ens.length ce, .slice (some ⟨gt, 0, none⟩) c.txs.length ct, .int .i64 c.main] 26
    have f2 := Full.new (w.alloc (.cells #[.slice (some ⟨gi, 0, none⟩) c.ins.length ci, .slice (some ⟨ge, 0, none⟩) c.ens.length ce, .slice (some ⟨gt, 0, none⟩) c.txs.length ct, .int .i64 c.main] 26)) #[.slice iq c.ins.length ia, .slice eq c.ens.length ea, .slice tq c.txs.length ta, .int .i64 c.main] 26
    rw [World.size_alloc] at f2
    have bb : Below w.heap.size w X := by rw [← hX]; exact below2 (al _ _) (al _ _)
    refine ⟨bb, t.next bb, m.below bb hB, ?_, ?_, Nat.le_trans hB bb.size⟩
    · rw [← hX]; exact f1.next (al _ _)
    · rw [← hX]; exact f2
  have HS : Hid (∀ y ∈ Es, (y.1.sorts.length + 1) * 8 ≤ 140737488355328) := hsn
  obtain ⟨n, Hn⟩ : ∃ n, Hid (c.ins.length = n) := ⟨_, (rfl : c.ins.length = _)⟩
  obtain ⟨ne, Hne⟩ : ∃ n, Hid (c.ens.length = n) := ⟨_, (rfl : c.ens.length = _)⟩
  obtain ⟨nt, Hnt⟩ : ∃ n, Hid (c.txs.length = n) := ⟨_, (rfl : c.txs.length = _)⟩
  obtain ⟨mn, Hmn⟩ : ∃ n, Hid (c.main = n) := ⟨_, (rfl : c.main = _)⟩
  obtain ⟨n1, Hn1⟩ : ∃ n1, Hid (n + 1 = n1) := ⟨_, (rfl : n + 1 = _)⟩
  obtain ⟨ne1, Hne1⟩ : ∃ n1, Hid (ne + 1 = n1) := ⟨_, (rfl : ne + 1 = _)⟩
  obtain ⟨nt1, Hnt1⟩ : ∃ n1, Hid (nt + 1 = n1) := ⟨_, (rfl : nt + 1 = _)⟩
  have HX4 : Hid (∀ W, ScI w0 w W B gi ci ge ce gt ct iq eq tq ia ea ta Es Es' c → Full W w.heap.size 26 [.slice (some ⟨gi, 0, none⟩) n ci, .slice (some ⟨ge, 0, none⟩) ne ce, .slice (some ⟨gt, 0, none⟩) nt ct, .int .i64 mn] ∧ Full W (w.heap.size + 1) 26 [.slice iq n ia, .slice eq ne ea, .slice tq nt ta, .int .i64 mn]) := fun W h => by
    rw [← Hn.out, ← Hne.out, ← Hnt.out, ← Hmn.out]
    exact ⟨h.x, h.y⟩
  have in1 : (n : Int) ≤ 5864062014805 := by have := Hn.out; omega
  have in2 : (ne : Int) ≤ 2199023255551 := by have := Hne.out; omega
  have in3 : (nt : Int) ≤ 8796093022207 := by have := Hnt.out; omega
  have hw1 : IntKind.i64.wrap ((n : Int) + 1) = (n1 : Int) := by have := Hn1.out; rw [IntKind.wrap_i64]; omega
  have hw2 : IntKind.i64.wrap ((ne : Int) + 1) = (ne1 : Int) := by have := Hne1.out; rw [IntKind.wrap_i64]; omega
  have hw3 : IntKind.i64.wrap ((nt : Int) + 1) = (nt1 : Int) := by have := Hnt1.out; rw [IntKind.wrap_i64]; omega
  have k1 : (n : Int) < (n1 : Int) := by have := Hn1.out; omega
  have k2 : (ne : Int) < (ne1 : Int) := by have := Hne1.out; omega
  have k3 : (nt : Int) < (nt1 : Int) := by have := Hnt1.out; omega
  have k4 : (0 : Int) ≤ (n : Int) := by omega
  have k5 : (0 : Int) ≤ (ne : Int) := by omega
  have k6 : (0 : Int) ≤ (nt : Int) := by omega
  have sl1 := cut_run (t := 22) Tryd.underlying22 sz_in ⟨gi, 0, none⟩ n ci n1 (by have := own_cap t.ins; have := Hn.out; have := Hn1.out; omega)
  have sl2 := cut_run (t := 23) Tryd.underlying23 sz_en ⟨ge, 0, none⟩ ne ce ne1 (by have := own_cap t.ens; have := Hne.out; have := Hne1.out; omega)
  have sl3 := cut_run (t := 24) Tryd.underlying24 sz_tx ⟨gt, 0, none⟩ nt ct nt1 (by have := own_cap t.txs; have := Hnt.out; have := Hnt1.out; omega)
  unfold codeV
  clear t m hB hin hen htn hsn
  rw [Hn.out, Hne.out, Hnt.out, Hmn.out] at hX ⊢
  go_enter Tryd.func24, Tryd.ntmps24
  have hF := HX4.out X HI.out
  have x0 := (hF.1.cell 0 _ rfl).1
  have x1 := (hF.1.cell 1 _ rfl).1
  have x2 := (hF.1.cell 2 _ rfl).1
  have x3 := (hF.1.cell 3 _ rfl).1
  have y0 := (hF.2.cell 0 _ rfl).1
  have y1 := (hF.2.cell 1 _ rfl).1
  have y2 := (hF.2.cell 2 _ rfl).1
  have y3 := (hF.2.cell 3 _ rfl).1
  clear hF
  go_upto_region 3 with fail
  have m1 := HI.out.t.imark
  have m2 := HI.out.t.emark
  have m3 := HI.out.t.tmark
  rw [Hn.out] at m1
  rw [Hne.out] at m2
  rw [Hnt.out] at m3
  have x0' := cell_regrown x0
  have x1' := cell_regrown x1
  have x2' := cell_regrown x2
  have y0' := cell_regrown y0
  have y1' := cell_regrown y1
  have y2' := cell_regrown y2
  have m1' := cell_regrown m1
  have m2' := cell_regrown m2
  have m3' := cell_regrown m3
  have nT := neqT spT
  clear x0 x1 x2 x3 y0 y1 y2 y3 m1 m2 m3 hX
  refine wp_region_quiet_below (by kernel_rfl) (by kernel_rfl) ?_
  repeat (first | go_big_quiet_step (first | fail) | quiet_step (first | fail))
  refine wpQuiet_nil ?_
  intro _ hw'
  obtain ⟨⟨dq, osq⟩, hw''⟩ := hw'
  subst hw''
  have hY := below_regrown X dq osq
  first | (change Exit.then _ _ Exit.normal _ (Sort.grow (redrawn X dq) osq)) | skip
  generalize Sort.grow (redrawn X dq) osq = Y0 at hY ⊢
  have HI1 : Hid (ScI w0 w Y0 B gi ci ge ce gt ct iq eq tq ia ea ta Es Es' c) := HI.out.next hY
  clear x0' x1' x2' y0' y1' y2' m1' m2' m3' hY HI sl1 sl2 sl3 nT
  have x0 := ((HX4.out Y0 HI1.out).1.cell 0 _ rfl).1
  go_wp2_with fail
  clear x0
  go_loopw [91] (fun iv wr => ∃ i : Nat, i ≤ n ∧ iv = .int .i64 (i : Int) ∧ Hid (ScI w0 w wr B gi ci ge ce gt ct iq eq tq ia ea ta Es Es' c)) (fun iv _ => n - (intOf iv).toNat)
  case atStart => exact ⟨0, Nat.zero_le _, rfl, HI1⟩
  case round =>
    obtain ⟨i, hi, rfl, HI⟩ := hrel
    clear HI1
    by_cases hlt : i < n
    · have a0 : (0 : Int) ≤ (i : Int) := by omega
      have a1 : (i : Int) < (n : Int) := by omega
      have hF := HX4.out wr HI.out
      have x0 := cell_regrown (hF.1.cell 0 _ rfl).1
      have y0 := cell_regrown (hF.2.cell 0 _ rfl).1
      have hr := HI.out.t.in_ i (by rw [Hn.out]; exact hlt)
      obtain ⟨g, o, rfl, -, hr2⟩ := code_ins HI.out.m i (by rw [Hn.out]; exact hlt)
      obtain ⟨⟨p1, p2, p3⟩, Hp⟩ : ∃ p, Hid (insAt c i = p) := ⟨_, (rfl : insAt c i = _)⟩
      rw [Hp.out] at hr hr2
      have r0 := cell_regrown (hr 0 _ rfl)
      have r1 := cell_regrown (hr 1 _ rfl)
      have r2 := cell_regrown (hr 2 _ rfl)
      have s0 := cell_regrown (hr2 0 _ rfl)
      have s1 := cell_regrown (hr2 1 _ rfl)
      have s2 := cell_regrown (hr2 2 _ rfl)
      rw [Nat.add_zero] at r0 s0
      simp only at r0 r1 r2 s0 s1 s2
      have nI := neqI p1 p2 p3
      clear hF hr hr2
      go_upto_region 8 with fail
      refine wp_region_quiet_below (by kernel_rfl) (by kernel_rfl) ?_
      repeat (first | go_big_quiet_step (first | fail) | quiet_step (first | fail))
      refine wpQuiet_nil ?_
      intro _ hw'
      obtain ⟨⟨dq, osq⟩, hw''⟩ := hw'
      subst hw''
      have hY := below_regrown wr dq osq
      first | (change Exit.then _ _ Exit.normal _ (Sort.grow (redrawn wr dq) osq)) | skip
      generalize Sort.grow (redrawn wr dq) osq = Y1 at hY ⊢
      have HN : Hid (ScI w0 w Y1 B gi ci ge ce gt ct (some ⟨g, o, none⟩) eq tq ia ea ta Es Es' c) := HI.out.next hY
      clear x0 y0 r0 r1 r2 s0 s1 s2 nI hY
      go_wp2
      exact ⟨⟨i + 1, by omega, by go_num, HN⟩, by simp [intOf]; omega⟩
    · obtain rfl : i = n := by omega
      have i1 : ¬ ((i : Int) < (i : Int)) := by omega
      have x2 := ((HX4.out wr HI.out).1.cell 2 _ rfl).1
      have HI1 : Hid (ScI w0 w wr B gi ci ge ce gt ct iq eq tq ia ea ta Es Es' c) := HI.out
      go_wp2_with fail
      clear x2
      go_loopw [109] (fun iv wr => ∃ j : Nat, j ≤ nt ∧ iv = .int .i64 (j : Int) ∧ Hid (ScI w0 w wr B gi ci ge ce gt ct iq eq tq ia ea ta Es Es' c)) (fun iv _ => nt - (intOf iv).toNat)
      case atStart => exact ⟨0, Nat.zero_le _, rfl, HI1⟩
      case round =>
        obtain ⟨j, hj, rfl, HJ⟩ := hrel
        clear HI1 HI
        by_cases hlt2 : j < nt
        · have a0 : (0 : Int) ≤ (j : Int) := by omega
          have a1 : (j : Int) < (nt : Int) := by omega
          have hF := HX4.out wr HJ.out
          have x0 := cell_regrown (hF.1.cell 2 _ rfl).1
          have y0 := cell_regrown (hF.2.cell 2 _ rfl).1
          have hjc : j < c.txs.length := by rw [Hnt.out]; exact hlt2
          have r0 := cell_regrown (HJ.out.t.tx j hjc)
          obtain ⟨g, o, rfl, -, hr2⟩ := HJ.out.m.tr (by omega)
          have s0 := cell_regrown (hr2 j (.string (c.txs[j])) (by unfold tv; rw [List.getElem?_map, List.getElem?_eq_getElem hjc]; rfl))
          obtain ⟨tx, Htx⟩ : ∃ p, Hid (c.txs[j] = p) := ⟨_, (rfl : c.txs[j] = _)⟩
          rw [Htx.out] at r0 s0
          have nT := neqT tx
          clear hF hr2
          go_upto_region 14 with fail
          refine wp_region_quiet_below (by kernel_rfl) (by kernel_rfl) ?_
          repeat (first | go_big_quiet_step (first | fail) | quiet_step (first | fail))
          refine wpQuiet_nil ?_
          intro _ hw'
          obtain ⟨⟨dq, osq⟩, hw''⟩ := hw'
          subst hw''
          have hY := below_regrown wr dq osq
          first | (change Exit.then _ _ Exit.normal _ (Sort.grow (redrawn wr dq) osq)) | skip
          generalize Sort.grow (redrawn wr dq) osq = Y1 at hY ⊢
          have HN : Hid (ScI w0 w Y1 B gi ci ge ce gt ct iq eq (some ⟨g, o, none⟩) ia ea ta Es Es' c) := HJ.out.next hY
          clear x0 y0 r0 s0 nT hY
          go_wp2
          exact ⟨⟨j + 1, by omega, by go_num, HN⟩, by simp [intOf]; omega⟩
        · obtain rfl : j = nt := by omega
          have j1 : ¬ ((j : Int) < (j : Int)) := by omega
          have x1 := ((HX4.out wr HJ.out).1.cell 1 _ rfl).1
          have HI1 : Hid (ScI w0 w wr B gi ci ge ce gt ct iq eq tq ia ea ta Es Es' c) := HJ.out
          go_wp2_with fail
          clear x1
          go_loopw [127] (fun iv wr => ∃ k : Nat, k ≤ ne ∧ iv = .int .i64 (k : Int) ∧ Hid (ScI w0 w wr B gi ci ge ce gt ct iq eq tq ia ea ta Es Es' c)) (fun iv _ => ne - (intOf iv).toNat)
          case atStart => exact ⟨0, Nat.zero_le _, rfl, HI1⟩
          case round =>
            obtain ⟨k, hk, rfl, HK⟩ := hrel
            clear HI1 HJ
            by_cases hlt3 : k < ne
            · have a0 : (0 : Int) ≤ (k : Int) := by omega
              have a1 : (k : Int) < (ne : Int) := by omega
              have hF := HX4.out wr HK.out
              have x1 := (hF.1.cell 1 _ rfl).1
              have y1 := (hF.2.cell 1 _ rfl).1
              have hkc : k < c.ens.length := by rw [Hne.out]; exact hlt3
              obtain ⟨gs, cs, hr, ho⟩ := HK.out.t.en_ k hkc
              obtain ⟨g, o, dq, dc, rfl, -, hr2, hrow, ye, hye, hye1, -⟩ := code_ent HK.out.m k hkc
              have hsl := HS.out ye hye
              rw [hye1] at hsl
              obtain ⟨⟨nm, st, pr, SL, rs⟩, He⟩ : ∃ e, Hid (enAt c.ens k = e) := ⟨_, (rfl : enAt c.ens k = _)⟩
              rw [He.out] at hr hr2 ho hrow hsl
              simp only at hr hr2 ho hrow hsl
              have r0 := hr 0 _ rfl
              have r1 := hr 1 _ rfl
              have r2 := hr 2 _ rfl
              have r3 := hr 3 _ rfl
              have r4 := hr 4 _ rfl
              obtain ⟨X1, hX1⟩ : ∃ X1, X1 = wr.alloc (.cells #[.string nm, .int .i64 st, .int .i64 pr, .slice (some ⟨gs, 0, none⟩) SL.length cs, .int .i64 rs] 47) := ⟨_, rfl⟩
              have b1 : Below wr.heap.size wr X1 := by rw [hX1]; exact (Below.refl _ wr).alloc (Nat.le_refl _) _
              have f1 : Full X1 wr.heap.size 47 [.string nm, .int .i64 st, .int .i64 pr, .slice (some ⟨gs, 0, none⟩) SL.length cs, .int .i64 rs] := by rw [hX1]; exact Full.new wr _ _
              have z1 : X1.heap.size = wr.heap.size + 1 := by rw [hX1]; simp
              obtain ⟨X2, hX2⟩ : ∃ X2, X2 = X1.alloc (.cells #[.string nm, .int .i64 st, .int .i64 pr, .slice dq SL.length dc, .int .i64 rs] 47) := ⟨_, rfl⟩
              have b2 : Below X1.heap.size X1 X2 := by rw [hX2]; exact (Below.refl _ X1).alloc (Nat.le_refl _) _
              have f2 : Full X2 X1.heap.size 47 [.string nm, .int .i64 st, .int .i64 pr, .slice dq SL.length dc, .int .i64 rs] := by rw [hX2]; exact Full.new X1 _ _
              have y1' := (b1.cell (p := ⟨w.heap.size + 1, 1, none⟩) (block_lt_of_cell y1)).trans y1
              have s0 := (b1.cell (p := ⟨g, o + k * 5 + 0, none⟩) (block_lt_of_cell (hr2 0 _ rfl))).trans (hr2 0 _ rfl)
              have s1 := (b1.cell (p := ⟨g, o + k * 5 + 1, none⟩) (block_lt_of_cell (hr2 1 _ rfl))).trans (hr2 1 _ rfl)
              have s2 := (b1.cell (p := ⟨g, o + k * 5 + 2, none⟩) (block_lt_of_cell (hr2 2 _ rfl))).trans (hr2 2 _ rfl)
              have s3 := (b1.cell (p := ⟨g, o + k * 5 + 3, none⟩) (block_lt_of_cell (hr2 3 _ rfl))).trans (hr2 3 _ rfl)
              have s4 := (b1.cell (p := ⟨g, o + k * 5 + 4, none⟩) (block_lt_of_cell (hr2 4 _ rfl))).trans (hr2 4 _ rfl)
              rw [Nat.add_zero] at r0 s0
              go_upto_region 21 with fail
              rw [← hX1]
              clear hX1
              go_upto_region 22 with fail
              rw [← hX2]
              clear hX2
              have HK2 : Hid (ScI w0 w X2 B gi ci ge ce gt ct iq (some ⟨g, o, none⟩) tq ia ea ta Es Es' c) := (HK.out.next b1).next b2
              have q0 := ((f1.next b2).cell 0 _ rfl).1
              have q1 := ((f1.next b2).cell 1 _ rfl).1
              have q2 := ((f1.next b2).cell 2 _ rfl).1
              have q3 := ((f1.next b2).cell 3 _ rfl).1
              have q4 := ((f1.next b2).cell 4 _ rfl).1
              have p0 := (f2.cell 0 _ rfl).1
              have p1 := (f2.cell 1 _ rfl).1
              have p2 := (f2.cell 2 _ rfl).1
              have p3 := (f2.cell 3 _ rfl).1
              have p4 := (f2.cell 4 _ rfl).1
              have ho2 := own_next (own_next ho b1) b2
              have hcp := own_cap ho
              have cS := same_any (c1 := cs) (c2 := dc) (row_of_own (own_cut ho2 (by rw [sv_len, Nat.mul_one]))) ((hrow.below (below2 b1 b2) HK.out.hb).up (Nat.le_trans HK.out.hb (below2 b1 b2).size)) (by omega)
              rw [decide_eq_true rfl] at cS
              obtain ⟨l, Hl⟩ : ∃ l, Hid (SL.length = l) := ⟨_, (rfl : SL.length = _)⟩
              obtain ⟨l1, Hl1⟩ : ∃ l1, Hid (l + 1 = l1) := ⟨_, (rfl : l + 1 = _)⟩
              have mk : Hid (∀ W, Below X2.heap.size X2 W → W.cell? ⟨gs, l, none⟩ = some (.int .i64 77) ∧ Full W wr.heap.size 47 [.string nm, .int .i64 st, .int .i64 pr, .slice (some ⟨gs, 0, none⟩) l cs, .int .i64 rs]) := fun W hb => by
                have hsl : (sv SL).length = l := by rw [sv_len]; exact Hl.out
                have := (own_next ho2 hb).cellAt SL.length (by omega)
                rw [Hl.out, List.getElem?_append_right (by omega), hsl, Nat.sub_self] at this
                refine ⟨this, ?_⟩
                rw [← Hl.out]
                exact ((f1.next b2).next hb)
              have slS := cut_run (t := 35) Tryd.underlying35 sz_st ⟨gs, 0, none⟩ l cs l1 (by have := Hl.out; have := Hl1.out; omega)
              have hwl : IntKind.i64.wrap ((l : Int) + 1) = (l1 : Int) := by have := Hl.out; have := Hl1.out; rw [IntKind.wrap_i64]; omega
              have kl : (l : Int) < (l1 : Int) := by have := Hl1.out; omega
              have kl0 : (0 : Int) ≤ (l : Int) := by omega
              rw [Hl.out] at cS q3 p3
              have nT := neqT nm
              clear x1 y1 y1' r0 r1 r2 r3 r4 s0 s1 s2 s3 s4 hr hr2 ho ho2 hrow hsl hF b1 b2 f1 f2 hye hye1 hcp
              rw [z1] at p0 p1 p2 p3 p4
              go_wp2_with fail
              refine cS.mono ?_
              rintro z W3 ⟨rfl, b3⟩
              have HN : Hid (ScI w0 w W3 B gi ci ge ce gt ct iq (some ⟨g, o, none⟩) tq ia ea ta Es Es' c) := HK2.out.next b3
              obtain ⟨t1, tf⟩ := mk.out W3 b3
              have t2 := (tf.cell 3 _ rfl).1
              clear cS q0 q1 q2 q3 q4 p0 p1 p2 p3 p4 b3 tf nT
              go_wp2
              exact ⟨⟨k + 1, by omega, by go_num, HN⟩, by simp [intOf]; omega⟩
            · obtain rfl : k = ne := by omega
              have k1 : ¬ ((k : Int) < (k : Int)) := by omega
              have HE : Hid (Below w.heap.size w wr) := HK.out.b
              go_wp2
              go_ret
              exact ⟨rfl, HE.out⟩
end
end Go.Proofs.YtdcaonfnhdjibaaDoor
