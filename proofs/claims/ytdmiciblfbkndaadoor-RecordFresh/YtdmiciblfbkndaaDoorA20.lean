import Derived.Deep.DeepCutAuto
import Derived.Deep.CutBlock
import Derived.Test.YtdmiciblfbkndaaDoorA19
import Derived.Test.YtdmiciblfbkndaaDoorA09
namespace Go.Proofs.YtdmiciblfbkndaaDoor
open Go.RowKit

set_option maxRecDepth 100000 in
set_option maxHeartbeats 2000000 in
theorem rsigned_f (w : World) (rb p : Nat) (s : ByteArray) (h : Rr w rb s p) (hp : p ≤ 900000000000000) :
    Calls Tryd.prog 64 #[.pointer (some ⟨rb, 0, none⟩)] w fun e w' => e = .returned (.int .i64 (uz (nR (s.data.toList.drop p)).1)) ∧ Hid (RrP w rb s (nR (s.data.toList.drop p)).2 (p + 10) w') := by
  have HC := rnumber_f w rb p s h hp
  have hlt := nR_lt (s.data.toList.drop p)
  obtain ⟨r, hr⟩ : ∃ r, (nR (s.data.toList.drop p)).2 = r := ⟨_, rfl⟩
  obtain ⟨n, hn⟩ : ∃ n, (nR (s.data.toList.drop p)).1 = n := ⟨_, rfl⟩
  rw [hn] at HC hlt ⊢
  rw [hr] at HC ⊢
  have q0 : (0 : Int) ≤ (n : Int) := by omega
  have q1 : (n : Int) < 18446744073709551616 := by omega
  have HL : Hid (n < 18446744073709551616) := hlt
  have HU : Hid (uz n = if n % 2 = 1 then -((n / 2 : Nat) : Int) - 1 else ((n / 2 : Nat) : Int)) := rfl
  clear hn hr h
  go_enter Tryd.func64, Tryd.ntmps64
  go_wp2_with fail
  refine HC.mono ?_
  rintro e w2 ⟨rfl, hw2⟩
  clear HC
  have e1 : IntKind.i64.wrap ((n : Int) / 2) = (n : Int) / 2 := by rw [IntKind.wrap_i64]; omega
  by_cases h2 : n % 2 = 1
  · have q2 : (n : Int) % 2 = 1 := by omega
    have HV : Hid (uz n = -((n : Int) / 2) - 1) := by show _ = _; rw [HU.out, if_pos h2]; omega
    clear h2 HU q1 hlt
    go_wp2
    first | (change bodyPost Tryd.prog Tryd.f64 _ Exit.ret _ _) | (simp only [Exit.noGoto])
    go_ret
    refine ⟨?_, hw2⟩
    rw [HV.out]
    have hlt := HL.out
    exact congrArg (fun x => Ending.returned (.int .i64 x)) (show wrap64 (wrap64 (-wrap64 (IntKind.u64.wrap ((n : Int) / 2))) - 1) = -((n : Int) / 2) - 1 by rw [u64w]; unfold wrap64; omega)
  · have q2 : ¬ (n : Int) % 2 = 1 := by omega
    have HV : Hid (uz n = (n : Int) / 2) := by show _ = _; rw [HU.out, if_neg h2]; omega
    clear h2 HU q1 hlt
    go_wp2
    first | (change bodyPost Tryd.prog Tryd.f64 _ Exit.ret _ _) | (simp only [Exit.noGoto])
    go_ret
    refine ⟨?_, hw2⟩
    rw [HV.out]
    have hlt := HL.out
    exact congrArg (fun x => Ending.returned (.int .i64 x)) (show wrap64 (IntKind.u64.wrap ((n : Int) / 2)) = (n : Int) / 2 by rw [u64w]; unfold wrap64; omega)
theorem sub_ba (s : ByteArray) (p n : Nat) (x : ByteArray) (hx : x.data.toList = ((s.data.toList.drop p).take n)) (hn : p + n ≤ s.size) : ∀ wx : World, (Instr.slice 9 (.string s) (some (.int .i64 (p : Int))) (some (.int .i64 ((p + n : Nat) : Int))) none).run Tryd.prog wx = .ok (.string x) wx := by
  refine sl_mid .i64 .i64 (by omega) hn ?_
  rw [hx, List.drop_take, Nat.add_sub_cancel_left]
set_option maxRecDepth 100000 in
set_option maxHeartbeats 2000000 in
theorem rtext_f (w : World) (rb p n : Nat) (s : ByteArray) (h : Rr w rb s p) (hp : p ≤ 900000000000000) (hn : n < 18446744073709551616) (hs : s.size ≤ 140737488355328) :
    Calls Tryd.prog 66 #[.pointer (some ⟨rb, 0, none⟩), .int .u64 (n : Int)] w fun e w' => e = .returned (sV (txF (s.data.toList.drop p) n).1) ∧ Hid (RrP w rb s (txF (s.data.toList.drop p) n).2 p w') := by
  have hsi : (s.size : Int) ≤ 140737488355328 := by omega
  have hl : s.data.toList.length = s.size := (Lib.size_eq s).symm
  have q0 : (0 : Int) ≤ (n : Int) := by omega
  have q1 : (n : Int) < 18446744073709551616 := by omega
  have qp : (0 : Int) ≤ (p : Int) := by omega
  have qp1 : (p : Int) ≤ 900000000000000 := by omega
  have HR : Hid (Rr w rb s p) := h
  obtain ⟨⟨c0, c1⟩, c2⟩ := h.cells
  clear h
  by_cases hb : s.size ≤ p ∨ s.size < p + n
  · have HF : Hid (txF (s.data.toList.drop p) n = ([], [])) := by
      show _ = _
      unfold txF
      rw [if_pos]
      rcases Nat.lt_or_ge p s.size with q | q
      · exact .inr (by rw [List.length_drop]; omega)
      · exact .inl (List.drop_eq_nil_of_le (by omega))
    have HW : Hid (∀ W, W = w.setCell ⟨rb, 1, none⟩ (.int .i64 (s.size : Int)) → RrP w rb s [] p W) := fun W e => by
      rw [e]
      exact ⟨kp_rb w rb 1 _, s.size, HR.out.set s.size, List.drop_eq_nil_of_le (by omega), Nat.le_max_right _ _⟩
    rw [HF.out]
    by_cases h1 : s.size ≤ p
    · have g1 : (s.size : Int) ≤ (p : Int) := by omega
      clear hb hl h1
      go_enter Tryd.func66, Tryd.ntmps66
      go_wp2
      first | (change bodyPost Tryd.prog Tryd.f66 _ Exit.ret _ _) | (simp only [Exit.noGoto])
      go_ret
      exact ⟨rfl, HW.out _ rfl⟩
    · have g1 : ¬ (s.size : Int) ≤ (p : Int) := by omega
      have g1b : (p : Int) < (s.size : Int) := by omega
      have g2 : (s.size : Int) - (p : Int) < (n : Int) := by omega
      have g3 : IntKind.u64.wrap ((s.size : Int) - (p : Int)) = (s.size : Int) - (p : Int) := by rw [u64w]; omega
      clear hb hl h1
      go_enter Tryd.func66, Tryd.ntmps66
      go_wp2
      first | (change bodyPost Tryd.prog Tryd.f66 _ Exit.ret _ _) | (simp only [Exit.noGoto])
      go_ret
      exact ⟨rfl, HW.out _ rfl⟩
  · have h1 : p < s.size := by omega
    have h2 : p + n ≤ s.size := by omega
    have HF : Hid (txF (s.data.toList.drop p) n = ((s.data.toList.drop p).take n, s.data.toList.drop (p + n))) := by
      show _ = _
      unfold txF
      rw [if_neg, List.drop_drop]
      rintro (q | q)
      · have := congrArg List.length q
        rw [List.length_drop] at this
        simp at this
        omega
      · rw [List.length_drop] at q
        omega
    have HW : Hid (∀ W, W = w.setCell ⟨rb, 1, none⟩ (.int .i64 ((p : Int) + (n : Int))) → Rr W rb s (p + n) ∧ Kp (fun x => x = rb) w W) := fun W e => by
      rw [e]
      exact ⟨HR.out.set (p + n), kp_rb w rb 1 _⟩
    have g1 : ¬ (s.size : Int) ≤ (p : Int) := by omega
    have g1b : (p : Int) < (s.size : Int) := by omega
    have g2 : ¬ (s.size : Int) - (p : Int) < (n : Int) := by omega
    have g3 : IntKind.u64.wrap ((s.size : Int) - (p : Int)) = (s.size : Int) - (p : Int) := by rw [u64w]; omega
    have g4 : (n : Int) ≤ 140737488355328 := by omega
    obtain ⟨x, hx⟩ : ∃ x : ByteArray, x.data.toList = (s.data.toList.drop p).take n := ⟨⟨((s.data.toList.drop p).take n).toArray⟩, rfl⟩
    have sl := sub_ba s p n x hx h2
    have HX : Hid (sV ((s.data.toList.drop p).take n) = .string x) := by show _ = _; rw [← hx]; rfl
    rw [HF.out]
    simp only
    rw [HX.out]
    have HM : Hid (p + n ≤ max p s.size) := by show _ ≤ _; omega
    have hpn : ((p + n : Nat) : Int) = (p : Int) + (n : Int) := Int.natCast_add p n
    rw [hpn] at sl
    clear hb hl h1 h2 hx HF HR HX
    go_enter Tryd.func66, Tryd.ntmps66
    go_upto_region 6 with fail
    obtain ⟨W2, hW2⟩ : ∃ W2, W2 = w.setCell ⟨rb, 1, none⟩ (.int .i64 ((p : Int) + (n : Int))) := ⟨_, rfl⟩
    rw [← hW2]
    have HR2 : Hid (Rr W2 rb s (p + n) ∧ Kp (fun x => x = rb) w W2) := HW.out W2 hW2
    clear hW2 HW c0 c1 c2
    obtain ⟨⟨c0, c1⟩, c2⟩ := HR2.out.1.cells
    rw [hpn] at c1
    have y0 := cell_regrown c0
    have y1 := cell_regrown c1
    clear c0 c1 c2 hpn
    refine wp_region_quiet_below (by kernel_rfl) (by kernel_rfl) ?_
    repeat (first | go_big_quiet_step (first | fail) | quiet_step (first | fail))
    refine wpQuiet_nil ?_
    intro _ hw'
    obtain ⟨⟨dq, osq⟩, hw''⟩ := hw'
    subst hw''
    have hY := below_regrown W2 dq osq
    first | (change Exit.then _ _ Exit.normal _ (Sort.grow (redrawn W2 dq) osq)) | skip
    generalize Sort.grow (redrawn W2 dq) osq = W3 at hY ⊢
    have HR3 : Hid (Rr W3 rb s (p + n) ∧ Kp (fun x => x = rb) w W3) := ⟨HR2.out.1.next hY, HR2.out.2.next hY⟩
    clear y0 y1 hY HR2
    go_wp2
    first | (change bodyPost Tryd.prog Tryd.f66 _ Exit.ret _ _) | (simp only [Exit.noGoto])
    go_ret
    exact ⟨rfl, HR3.out.2, _, HR3.out.1, rfl, HM.out⟩
end Go.Proofs.YtdmiciblfbkndaaDoor

namespace Go.Proofs.YtdmiciblfbkndaaDoor
open Go.RowKit

/-- One element more, however many there are. -/
theorem app_anyW {P : Program} {w : World} {base : Nat} {e : TypeId} {size : Nat} (t ty : TypeId) (z : Value) (bytes : Nat) (ht : P.underlying t = some (.slice e)) (hinf : (P.info? e).map (fun i => (i.zero, i.size, i.bytes)) = some (some z, size, bytes)) (hzs : z.cells.size = size) (hsz : 0 < size)
    (v : Value) (n : Nat) (xs : List Value) (hown : w.ownsRow base e size v n xs) (g : Nat) (C : List Value) (hC : C.length = size) (h1 : ∀ u ∈ C, u.oneCell' = true) (hr : w.rangeAt g 0 C) (h40 : n + 1 ≤ 10000000000) (hb : (n + 1) * bytes ≤ 140737488355328) (hbase : base ≤ w.heap.size) :
    ∃ v' w', (Builtin.append_ #[t, t] ty #[v, .slice (some ⟨g, 0, none⟩) 1 1]).run P w = .ok v' w' ∧ w'.ownsRow base e size v' (n + 1) (xs ++ C) ∧ w.grownBy w' v.ownBlock := by
  obtain ⟨i, hi, hz0, hz1, hz2⟩ := info_parts hinf
  obtain ⟨v', w', hr, h2, h3, _⟩ := run_append_own (P := P) w base t ty e i z size bytes ht hi hz0 hz1 hz2 hzs hsz v n xs hown ⟨g, 0, none⟩ 1 1 C (by rw [Nat.one_mul]; exact hC)
    (fun j u hu => by rw [Addr.add_mid]; exact hr j u hu) h1 (by unfold maxLen; omega) hb hbase
  exact ⟨v', w', hr, h2, h3⟩
/-- The reader's event on the way: its names are ns, in nv. -/
structure EvT (w : World) (rb : Nat) (s : ByteArray) (nv0 : Value) (R B : Nat) (nv : Value) (ns : List (List UInt8)) (q : Nat) (wr : World) : Prop where
  kp : Kp (fun x => x = rb ∨ nv0.ownBlock = some x) w wr
  rd : Rr wr rb s q
  res : Full wr R 37 EvZ
  ne : rb < R
  own : wr.ownsRow B 9 1 nv ns.length (ns.map sV)
theorem EvT.next {w : World} {rb : Nat} {s : ByteArray} {nv0 : Value} {R B : Nat} {nv : Value} {ns : List (List UInt8)} {q : Nat} {wr w' : World} (h : EvT w rb s nv0 R B nv ns q wr) (k : Below wr.heap.size wr w') : EvT w rb s nv0 R B nv ns q w' := ⟨h.kp.next k, h.rd.next k, h.res.next k, h.ne, own_next h.own k⟩
theorem Kp.full {F : Nat → Prop} {w w' : World} {g : Nat} {t : TypeId} {vs : List Value} (f : Full w g t vs) (k : Kp F w w') (h : ¬ F g) : Full w' g t vs := (k.block g f.lt h).trans f
theorem Rr.blk {w : World} {rb : Nat} {s : ByteArray} {p : Nat} (h : Rr w rb s p) : Blk w rb 70 2 := ⟨_, h, by simp⟩
theorem own_kpr {w w' : World} {rb B : Nat} {s : ByteArray} {p : Nat} {e : TypeId} {sz : Nat} {v : Value} {n : Nat} {xs : List Value} (h : w.ownsRow B e sz v n xs) (r : Rr w rb s p) (he : 70 ≠ e) (k : Kp (fun x => x = rb) w w') : w'.ownsRow B e sz v n xs := own_same h fun g hg => k.block g (own_blk h g hg).lt fun q => own_ne h r.blk he (by rw [← q]; exact hg)
theorem EvT.step {w : World} {rb : Nat} {s : ByteArray} {nv0 : Value} {R B : Nat} {nv : Value} {ns : List (List UInt8)} {q q' : Nat} {wr w' : World} (h : EvT w rb s nv0 R B nv ns q wr) (k : Kp (fun x => x = rb) wr w') (hr : Rr w' rb s q') : EvT w rb s nv0 R B nv ns q' w' := ⟨h.kp.trans k (fun _ _ e => .inl e), hr, Kp.full h.res k (fun e => by have := h.ne; omega), h.ne, own_kpr h.own h.rd (by decide) k⟩
theorem EvT.read {w : World} {rb : Nat} {s : ByteArray} {nv0 : Value} {R B : Nat} {nv : Value} {ns : List (List UInt8)} {q : Nat} {wr w' : World} {r : List UInt8} {p0 : Nat} (h : EvT w rb s nv0 R B nv ns q wr) (k : RrP wr rb s r p0 w') : ∃ q', EvT w rb s nv0 R B nv ns q' w' ∧ s.data.toList.drop q' = r ∧ q' ≤ max p0 s.size := by
  obtain ⟨q', h1, h2, h3⟩ := k.at'
  exact ⟨q', h.step k.kp h1, h2, h3⟩
theorem EvT.set {w : World} {rb : Nat} {s : ByteArray} {nv0 : Value} {R B : Nat} {nv : Value} {ns : List (List UInt8)} {q : Nat} {wr : World} {E : Nat} {ev : List Value} (h : EvT w rb s nv0 R B nv ns q wr) (f : Full wr E 37 ev) (h1 : rb < E) (h2 : R < E) (h3 : w.heap.size ≤ E) (j : Nat) (x : Value) : EvT w rb s nv0 R B nv ns q (wr.setCell ⟨E, j, none⟩ x) :=
  ⟨h.kp.setCell (p := ⟨E, j, none⟩) (.inr h3) _, (set_heap (a := ⟨E, j, none⟩) (by show rb ≠ E; omega)).trans h.rd, h.res.other1 (by show R ≠ E; omega), h.ne, own_same h.own fun g hg => set_heap (a := ⟨E, j, none⟩) (by show g ≠ E; rintro rfl; exact own_ne h.own (b := g) (t := 37) (m := ev.length) ⟨_, f, by simp⟩ (by decide) hg)⟩
theorem EvT.setV {w : World} {rb : Nat} {s : ByteArray} {nv0 : Value} {R B : Nat} {nv : Value} {ns : List (List UInt8)} {q : Nat} {wr : World} {E : Nat} {ev : List Value} (h : EvT w rb s nv0 R B nv ns q wr) (f : Full wr E 35 ev) (h1 : rb < E) (h2 : R < E) (h3 : w.heap.size ≤ E) (j : Nat) (x : Value) : EvT w rb s nv0 R B nv ns q (wr.setCell ⟨E, j, none⟩ x) :=
  ⟨h.kp.setCell (p := ⟨E, j, none⟩) (.inr h3) _, (set_heap (a := ⟨E, j, none⟩) (by show rb ≠ E; omega)).trans h.rd, h.res.other1 (by show R ≠ E; omega), h.ne, own_same h.own fun g hg => set_heap (a := ⟨E, j, none⟩) (by show g ≠ E; rintro rfl; exact own_ne h.own (b := g) (t := 35) (m := ev.length) ⟨_, f, by simp⟩ (by decide) hg)⟩
/-- What stands behind the name. -/
structure NmR (w : World) (rb : Nat) (s : ByteArray) (nv0 : Value) (R B E : Nat) (ev : List Value) (nm : List UInt8 × List (List UInt8) × List UInt8) (nv : Value) (k2 : Nat) (wr : World) : Prop where
  t : ∃ q, EvT w rb s nv0 R B nv nm.2.1 q wr ∧ s.data.toList.drop q = nm.2.2 ∧ q ≤ 300000000000060
  e : Full wr E 37 ev
  name : nm.1 = if k2 = 0 then [] else nm.2.1.getD (k2 - 1) []
  le : k2 ≤ nm.2.1.length
  most : nm.2.1.length ≤ 6000000000
theorem ret_rev {w : World} {R : Nat} {a b c d e f x : Value} {tm : Array Value} (h : Full w R 37 [a, b, c, d, e, f]) (h2 : tm[6]?.getD undef = .pointer (some ⟨R, 0, none⟩)) (h3 : tm[7]?.getD undef = x) : (results Tryd.f49 tm).run Tryd.prog w = .ok (.tuple #[.agg #[a, b, c, d, e, f], x]) w := by
  obtain ⟨⟨⟨r0, g0⟩, ⟨r1, g1⟩, r2, g2⟩, ⟨r3, g3⟩, ⟨r4, g4⟩, r5, g5⟩ := h.six2
  simp [results, Tryd.results49, go_sem, h2, h3, r0, r1, r2, r3, r4, r5]
set_option maxRecDepth 100000 in
set_option maxHeartbeats 4000000 in
theorem revent_f (w : World) (rb p B : Nat) (s : ByteArray) (nd : Int) (ns : List (List UInt8)) (nv : Value) (h : Rr w rb s p) (hp : p ≤ 300000000000000) (hs : s.size ≤ 140737488355328) (hB : B ≤ w.heap.size) (ho : w.ownsRow B 9 1 nv ns.length (ns.map sV)) (hn : ns.length ≤ 5000000000) :
    Calls Tryd.prog 49 #[.pointer (some ⟨rb, 0, none⟩), nv, .int .i64 nd] w fun e w' => ∃ nv', e = .returned (.tuple #[.agg (ec (evD ⟨nd, ns, s.data.toList.drop p⟩).1).toArray, nv']) ∧ Hid (w'.ownsRow B 9 1 nv' (evD ⟨nd, ns, s.data.toList.drop p⟩).2.ns.length ((evD ⟨nd, ns, s.data.toList.drop p⟩).2.ns.map sV) ∧ Kp (fun x => x = rb ∨ nv.ownBlock = some x) w w' ∧ ∃ q, Rr w' rb s q ∧ s.data.toList.drop q = (evD ⟨nd, ns, s.data.toList.drop p⟩).2.r ∧ q ≤ 300000000000080) := by
  obtain ⟨X, hX⟩ : ∃ X, w.alloc (.cells #[.int .i64 0, .int .i64 0, .string ⟨#[]⟩, .int .i64 0, .int .i64 0, .string ⟨#[]⟩] 37) = X := ⟨_, rfl⟩
  obtain ⟨R, hR⟩ : ∃ R, w.heap.size = R := ⟨_, rfl⟩
  have bX : Below w.heap.size w X := by rw [← hX]; exact (Below.refl _ w).alloc (Nat.le_refl _) _
  have H0 : EvT w rb s nv R B nv ns p X := ⟨(Kp.refl _ w).next bX, h.next bX, by rw [← hX, ← hR]; exact Full.new w _ _, by have := h.lt; omega, own_next ho bX⟩
  obtain ⟨q0, n0, hv0, -, -⟩ := own_slice ho
  have HC := rwide_f X rb 1 p s H0.rd (by omega) (by decide)
  obtain ⟨r, hr⟩ : ∃ r, s.data.toList.drop p = r := ⟨_, rfl⟩
  obtain ⟨c, hc⟩ : ∃ c, (byteR r).1 = c := ⟨_, rfl⟩
  have hw1 : wdR 1 (s.data.toList.drop p) 0 = c.toNat := by
    rw [hr]
    show 0 * 256 + (byteR r).1.toNat = _
    rw [hc]
    omega
  rw [hw1] at HC
  obtain ⟨r1, hr1⟩ : ∃ r1, s.data.toList.drop (p + 1) = r1 := ⟨_, rfl⟩
  have hbr : (byteR r).2 = r1 := by rw [← hr, byteR_drop, hr1]
  obtain ⟨u, hu⟩ : ∃ u, uz (nR r1).1 = u := ⟨_, rfl⟩
  obtain ⟨r2, hr2⟩ : ∃ r2, (nR r1).2 = r2 := ⟨_, rfl⟩
  obtain ⟨nm, hnm⟩ : ∃ nm, nmF ns r2 = nm := ⟨_, rfl⟩
  have hev : evD ⟨nd, ns, r⟩ = (⟨(c.toNat % 16 : Nat), wrp (nd + u), nm.1, (c.toNat / 16 : Nat), (vlF (c.toNat / 16 : Nat) nm.2.2).1, (vlF (c.toNat / 16 : Nat) nm.2.2).2.1⟩, ⟨wrp (nd + u), nm.2.1, (vlF (c.toNat / 16 : Nat) nm.2.2).2.2⟩) := by
    unfold evD
    simp only [hc, hbr, hu, hr2, hnm]
  obtain ⟨res, hres⟩ : ∃ x, evD ⟨nd, ns, r⟩ = x := ⟨_, rfl⟩
  rw [hr, hres]
  obtain ⟨n2, hn2⟩ : ∃ n2, wrp (nd + u) = n2 := ⟨_, rfl⟩
  rw [hn2] at hev
  have HRS : Hid (res = (⟨(c.toNat % 16 : Nat), n2, nm.1, (c.toNat / 16 : Nat), (vlF (c.toNat / 16 : Nat) nm.2.2).1, (vlF (c.toNat / 16 : Nat) nm.2.2).2.1⟩, ⟨n2, nm.2.1, (vlF (c.toNat / 16 : Nat) nm.2.2).2.2⟩)) := by rw [← hres]; exact hev
  have HNd : Hid (wrap64 (nd + u) = n2) := by show wrap64 _ = _; rw [← hn2]; unfold wrap64 wrp; rfl
  have HH : Hid (EvT w rb s nv R B nv ns p X ∧ w.ownsRow B 9 1 nv ns.length (ns.map sV) ∧ s.data.toList.drop (p + 1) = r1 ∧ (nR r1).2 = r2 ∧ uz (nR r1).1 = u ∧ nmF ns r2 = nm) := ⟨H0, ho, hr1, hr2, hu, hnm⟩
  have hct := UInt8.toNat_lt c
  have e1 : IntKind.i64.wrap ((c.toNat : Int) % 16) = (c.toNat : Int) % 16 := by rw [IntKind.wrap_i64]; omega
  have hc0 : (0 : Int) ≤ (c.toNat : Int) := by omega
  clear bX H0 ho hr hc hw1 hr1 hbr hu hr2 hnm hev h hres hn2
  subst hv0
  go_enter Tryd.func49, Tryd.ntmps49
  go_wp2_with fail
  refine HC.mono ?_
  rintro e w2 ⟨rfl, hw2⟩
  clear HC hX
  have HW2 : Hid (EvT w rb s (.slice q0 ns.length n0) R B (.slice q0 ns.length n0) ns (p + 1) w2) := HH.out.1.step hw2.out.2 hw2.out.1
  clear hw2
  go_wp2_with fail
  obtain ⟨E, hE⟩ : ∃ E, w2.heap.size = E := ⟨_, rfl⟩
  obtain ⟨X3, hX3⟩ : ∃ X, w2.alloc (.cells #[.int .i64 ((c.toNat : Int) % 16), .int .i64 0, .string ⟨#[]⟩, .int .i64 0, .int .i64 0, .string ⟨#[]⟩] 37) = X := ⟨_, rfl⟩
  have n3 : Below w2.heap.size w2 X3 := by rw [← hX3]; exact (Below.refl _ _).alloc (Nat.le_refl _) _
  have H3 : Hid (EvT w rb s (.slice q0 ns.length n0) R B (.slice q0 ns.length n0) ns (p + 1) X3 ∧ Full X3 E 37 [.int .i64 ((c.toNat : Int) % 16), .int .i64 0, .string ⟨#[]⟩, .int .i64 0, .int .i64 0, .string ⟨#[]⟩] ∧ R < E ∧ rb < E ∧ w.heap.size ≤ E) := ⟨HW2.out.next n3, by rw [← hX3, ← hE]; exact Full.new w2 _ _, by have := HW2.out.res.lt; omega, by have := HW2.out.rd.lt; omega, by have := HW2.out.kp.size; omega⟩
  rw [hX3, hE]
  have HC2 := rsigned_f X3 rb (p + 1) s H3.out.1.rd (by omega)
  rw [HH.out.2.2.1, HH.out.2.2.2.2.1, HH.out.2.2.2.1] at HC2
  clear HW2 n3 hX3 hE
  refine HC2.mono ?_
  rintro e w4 ⟨rfl, hw4⟩
  obtain ⟨q4, h4, hd4, hq4⟩ := H3.out.1.read hw4.out
  have f4 : Full w4 E 37 [.int .i64 ((c.toNat : Int) % 16), .int .i64 0, .string ⟨#[]⟩, .int .i64 0, .int .i64 0, .string ⟨#[]⟩] := Kp.full H3.out.2.1 hw4.out.kp (fun e => by have := H3.out.2.2.2.1; omega)
  obtain ⟨⟨⟨t0, z0⟩, ⟨t1, z1⟩, t2, z2⟩, ⟨t3, z3⟩, ⟨t4, z4⟩, t5, z5⟩ := f4.six2
  have HP : Hid (q4 ≤ 300000000000020 ∧ s.data.toList.drop q4 = r2 ∧ R < E ∧ rb < E ∧ w.heap.size ≤ E) := ⟨by omega, hd4, H3.out.2.2.1, H3.out.2.2.2.1, H3.out.2.2.2.2⟩
  have H4 : Hid (EvT w rb s (.slice q0 ns.length n0) R B (.slice q0 ns.length n0) ns q4 w4 ∧ Full w4 E 37 [.int .i64 ((c.toNat : Int) % 16), .int .i64 0, .string ⟨#[]⟩, .int .i64 0, .int .i64 0, .string ⟨#[]⟩]) := ⟨h4, f4⟩
  clear H3 HC2 hw4 h4 hd4 hq4 f4
  go_wp2_with fail
  rw [HNd.out]
  have H5 : Hid (EvT w rb s (.slice q0 ns.length n0) R B (.slice q0 ns.length n0) ns q4 (w4.setCell ⟨E, 1, none⟩ (.int .i64 n2)) ∧ Full (w4.setCell ⟨E, 1, none⟩ (.int .i64 n2)) E 37 [.int .i64 ((c.toNat : Int) % 16), .int .i64 n2, .string ⟨#[]⟩, .int .i64 0, .int .i64 0, .string ⟨#[]⟩]) := ⟨H4.out.1.set H4.out.2 HP.out.2.2.2.1 HP.out.2.2.1 HP.out.2.2.2.2 _ _, Full.put1 (a := [.int .i64 ((c.toNat : Int) % 16)]) (d := [.string ⟨#[]⟩, .int .i64 0, .int .i64 0, .string ⟨#[]⟩]) H4.out.2 _⟩
  generalize w4.setCell ⟨E, 1, none⟩ (.int .i64 n2) = X5 at H5 ⊢
  have HC3 := rnumber_f X5 rb q4 s H5.out.1.rd (by have := HP.out.1; omega)
  rw [HP.out.2.1] at HC3
  have hk := nR_lt r2
  obtain ⟨k, hk1⟩ : ∃ k, (nR r2).1 = k := ⟨_, rfl⟩
  obtain ⟨r3, hr3⟩ : ∃ r3, (nR r2).2 = r3 := ⟨_, rfl⟩
  rw [hk1] at HC3 hk
  rw [hr3] at HC3
  have hnm := HH.out.2.2.2.2.2
  clear HH H4 t0 z0 t1 z1 t2 z2 t3 z3 t4 z4 t5 z5 HNd
  refine HC3.mono ?_
  rintro e w6 ⟨rfl, hw6⟩
  obtain ⟨q6, h6, hd6, hq6⟩ := H5.out.1.read hw6.out
  have f6 : Full w6 E 37 [.int .i64 ((c.toNat : Int) % 16), .int .i64 n2, .string ⟨#[]⟩, .int .i64 0, .int .i64 0, .string ⟨#[]⟩] := Kp.full H5.out.2 hw6.out.kp (fun e => by have := HP.out.2.2.2.1; omega)
  have H6 : Hid (EvT w rb s (.slice q0 ns.length n0) R B (.slice q0 ns.length n0) ns q6 w6 ∧ Full w6 E 37 [.int .i64 ((c.toNat : Int) % 16), .int .i64 n2, .string ⟨#[]⟩, .int .i64 0, .int .i64 0, .string ⟨#[]⟩] ∧ q6 ≤ 300000000000040 ∧ s.data.toList.drop q6 = r3) := ⟨h6, f6, by have := HP.out.1; omega, hd6⟩
  have HNm : Hid (nmF ns r2 = nm) := hnm
  have HK : Hid ((nR r2).1 = k ∧ (nR r2).2 = r3) := ⟨hk1, hr3⟩
  clear HC3 hw6 h6 hd6 hq6 f6 H5 hnm hk1 hr3
  have qn : IntKind.u64.wrap (ns.length : Int) = (ns.length : Int) := by rw [u64w]; omega
  go_upto_if 29 with fail
  go_cut [1, 10] (fun u1 u10 wx => ∃ (q1 : Option Addr) (c1 k2 : Nat), u1 = .slice q1 nm.2.1.length c1 ∧ u10 = .int .u64 (k2 : Int) ∧ Hid (NmR w rb s (.slice q0 ns.length n0) R B E [.int .i64 ((c.toNat : Int) % 16), .int .i64 n2, .string ⟨#[]⟩, .int .i64 0, .int .i64 0, .string ⟨#[]⟩] nm (.slice q1 nm.2.1.length c1) k2 wx))
  case first =>
    by_cases hlt : ns.length < k
    · have qd : decide (ns.length < k) = true := decide_eq_true hlt
      have HC4 := rwide_f w6 rb 1 q6 s H6.out.1.rd (by have := H6.out.2.2.1; omega) (by decide)
      obtain ⟨d, hd⟩ : ∃ d, (byteR r3).1 = d := ⟨_, rfl⟩
      have hw1 : wdR 1 (s.data.toList.drop q6) 0 = d.toNat := by
        rw [H6.out.2.2.2]
        show 0 * 256 + (byteR r3).1.toNat = _
        rw [hd]
        omega
      rw [hw1] at HC4
      have hdt := UInt8.toNat_lt d
      obtain ⟨tx, htx⟩ : ∃ tx, txF (s.data.toList.drop (q6 + 1)) d.toNat = tx := ⟨_, rfl⟩
      have hnm : nm = (tx.1, ns ++ [tx.1], tx.2) := by
        rw [← HNm.out]
        unfold nmF
        simp only
        rw [HK.out.1, HK.out.2, if_pos hlt, hd, ← htx, ← H6.out.2.2.2, byteR_drop]
      obtain ⟨tb, htb⟩ : ∃ tb : ByteArray, sV tx.1 = .string tb := ⟨_, rfl⟩
      have HTx : Hid (nm = (tx.1, ns ++ [tx.1], tx.2) ∧ txF (s.data.toList.drop (q6 + 1)) d.toNat = tx ∧ sV tx.1 = .string tb) := ⟨hnm, htx, htb⟩
      clear hd hw1 hnm htx htb
      go_wp2_with fail
      refine HC4.mono ?_
      rintro e w7 ⟨rfl, hw7⟩
      have h7 := H6.out.1.step hw7.out.2 hw7.out.1
      have f7 : Full w7 E 37 _ := Kp.full H6.out.2.1 hw7.out.2 (fun e => by have := HP.out.2.2.2.1; omega)
      have HC5 := rtext_f w7 rb (q6 + 1) d.toNat s h7.rd (by have := H6.out.2.2.1; omega) (by omega) hs
      rw [HTx.out.2.1, HTx.out.2.2] at HC5
      have H7 : Hid (EvT w rb s (.slice q0 ns.length n0) R B (.slice q0 ns.length n0) ns (q6 + 1) w7 ∧ Full w7 E 37 [.int .i64 ((c.toNat : Int) % 16), .int .i64 n2, .string ⟨#[]⟩, .int .i64 0, .int .i64 0, .string ⟨#[]⟩]) := ⟨h7, f7⟩
      clear HC4 hw7 h7 f7
      go_wp2_with fail
      refine HC5.mono ?_
      rintro e w8 ⟨rfl, hw8⟩
      obtain ⟨q8, h8, hd8, hq8⟩ := H7.out.1.read hw8.out
      have f8 : Full w8 E 37 [.int .i64 ((c.toNat : Int) % 16), .int .i64 n2, .string ⟨#[]⟩, .int .i64 0, .int .i64 0, .string ⟨#[]⟩] := Kp.full H7.out.2 hw8.out.kp (fun e => by have := HP.out.2.2.2.1; omega)
      have n9 : Below w8.heap.size w8 (w8.alloc (.cells #[.string tb] 9)) := (Below.refl _ _).alloc (Nat.le_refl _) _
      have h9 := h8.next n9
      have fZ : Full (w8.alloc (.cells #[.string tb] 9)) w8.heap.size 9 [.string tb] := Full.new w8 _ _
      obtain ⟨nv', wA, rA, oA, gA⟩ := app_anyW (P := Tryd.prog) 95 95 _ 16 Tryd.underlying95 infoS rfl (by decide) (.slice q0 ns.length n0) ns.length _ h9.own w8.heap.size [.string tb] rfl (by simp [Value.oneCell']) fZ.range (by omega) (by omega) (by have := h9.kp.size; omega)
      obtain ⟨qA, cA, rfl, -, -⟩ := own_slice oA
      have hml : (nm.2.1.map sV) = ns.map sV ++ [.string tb] := by rw [HTx.out.1]; simp [HTx.out.2.2]
      have hmn : nm.2.1.length = ns.length + 1 := by rw [HTx.out.1]; simp
      have HA : Hid (NmR w rb s (.slice q0 ns.length n0) R B E [.int .i64 ((c.toNat : Int) % 16), .int .i64 n2, .string ⟨#[]⟩, .int .i64 0, .int .i64 0, .string ⟨#[]⟩] nm (.slice qA nm.2.1.length cA) nm.2.1.length wA) := by
        have kR : ∀ {g : Nat} {t : TypeId} {vs : List Value}, Full (w8.alloc (.cells #[.string tb] 9)) g t vs → t ≠ 9 → Full wA g t vs := fun f ht => (gA.block _ f.lt (fun e => own_ne h9.own (b := _) (t := _) (m := _) ⟨_, f, by simp; exact Nat.le_refl _⟩ ht e.symm)).trans f
        refine ⟨⟨q8, ⟨h9.kp.grown gA (fun g hg => .inl (.inr hg)), kR (t := 70) (vs := [.string s, .int .i64 (q8 : Int)]) h9.rd (by decide), kR h9.res (by decide), h9.ne, ?_⟩, by rw [hd8, HTx.out.1], by have := H6.out.2.2.1; omega⟩, kR (f8.next n9) (by decide), ?_, Nat.le_refl _, by omega⟩
        · rw [hmn, hml]
          exact oA
        · rw [if_neg (by omega), hmn, HTx.out.1]
          simp
      have hl9 : IntKind.u64.wrap ((ns.length : Int) + 1) = (ns.length : Int) + 1 := by rw [u64w]; omega
      have HMN : Hid (nm.2.1.length = ns.length + 1) := hmn
      clear HC5 hw8 h8 hd8 hq8 f8 n9 h9 fZ oA gA hml hmn H7
      go_wp2_with (first | (at_builtin; refine wpList_apr rfl (.tmp 30) (.tmp 35) 95 rfl rA ?_))
      go_meet
      case rel => exact ⟨qA, cA, nm.2.1.length, by rw [HMN.out], by rw [HMN.out]; first | rfl | (congr 1), HA⟩
    · have qd : decide (ns.length < k) = false := decide_eq_false hlt
      have hnm : nm = (if k = 0 then [] else ns.getD (k - 1) [], ns, r3) := by
        rw [← HNm.out]
        unfold nmF
        simp only
        rw [HK.out.1, HK.out.2, if_neg hlt]
        split <;> rfl
      have HB : Hid (NmR w rb s (.slice q0 ns.length n0) R B E [.int .i64 ((c.toNat : Int) % 16), .int .i64 n2, .string ⟨#[]⟩, .int .i64 0, .int .i64 0, .string ⟨#[]⟩] nm (.slice q0 nm.2.1.length n0) k w6) := by
        rw [hnm]
        exact ⟨⟨q6, H6.out.1, H6.out.2.2.2, by have := H6.out.2.2.1; omega⟩, H6.out.2.1, rfl, by show k ≤ ns.length; omega, by show ns.length ≤ _; omega⟩
      have HMN : Hid (nm.2.1.length = ns.length) := by show _ = _; rw [hnm]
      clear hnm H6
      go_wp2_with fail
      go_meet
      case rel => exact ⟨q0, n0, k, by rw [HMN.out], rfl, HB⟩
  case rest =>
    obtain ⟨q1, c1, k2, rfl, rfl, HM⟩ := hcut
    clear H6 HNm HK qn hk
    obtain ⟨q7, h7, hd7, hq7⟩ := HM.out.t
    obtain ⟨L, hL⟩ : ∃ L, nm.2.1.length = L := ⟨_, rfl⟩
    have H7 : Hid (EvT w rb s (.slice q0 ns.length n0) R B (.slice q1 L c1) nm.2.1 q7 wc ∧ Full wc E 37 [.int .i64 ((c.toNat : Int) % 16), .int .i64 n2, .string ⟨#[]⟩, .int .i64 0, .int .i64 0, .string ⟨#[]⟩]) := by rw [hL] at h7; exact ⟨h7, HM.out.e⟩
    have H8 : Hid (s.data.toList.drop q7 = nm.2.2 ∧ q7 ≤ 300000000000060 ∧ nm.1 = (if k2 = 0 then [] else nm.2.1.getD (k2 - 1) []) ∧ k2 ≤ L ∧ nm.2.1.length = L ∧ L ≤ 6000000000) := ⟨hd7, hq7, HM.out.name, by have := HM.out.le; omega, hL, by rw [← hL]; exact HM.out.most⟩
    rw [hL]
    clear h7 hd7 hq7 hL HM
    go_upto_if 41 with fail
    go_cut [1] (fun u1 wx => u1 = .slice q1 L c1 ∧ Hid (EvT w rb s (.slice q0 ns.length n0) R B (.slice q1 L c1) nm.2.1 q7 wx ∧ Full wx E 37 [.int .i64 ((c.toNat : Int) % 16), .int .i64 n2, sV nm.1, .int .i64 0, .int .i64 0, .string ⟨#[]⟩]))
    case first =>
      by_cases h0 : k2 = 0
      · subst h0
        have H9 : Hid (EvT w rb s (.slice q0 ns.length n0) R B (.slice q1 L c1) nm.2.1 q7 wc ∧ Full wc E 37 [.int .i64 ((c.toNat : Int) % 16), .int .i64 n2, sV nm.1, .int .i64 0, .int .i64 0, .string ⟨#[]⟩]) := ⟨H7.out.1, by rw [H8.out.2.2.1, if_pos rfl]; exact H7.out.2⟩
        clear H7
        go_wp2_with fail
        go_meet
        case rel => exact ⟨rfl, H9⟩
      · obtain ⟨m, rfl⟩ : ∃ m, k2 = m + 1 := ⟨k2 - 1, by omega⟩
        have hm : m < L := by have := H8.out.2.2.2.1; omega
        obtain ⟨x, hx⟩ : ∃ x, nm.2.1[m]? = some x := ⟨_, List.getElem?_eq_getElem (by rw [H8.out.2.2.2.2.1]; exact hm)⟩
        have hnm : nm.1 = x := by rw [H8.out.2.2.1, if_neg (by omega), Nat.add_sub_cancel, List.getD_eq_getElem?_getD, hx]; rfl
        obtain ⟨xb, hxb⟩ : ∃ xb : ByteArray, sV x = .string xb := ⟨_, rfl⟩
        have ho := H7.out.1.own
        rw [H8.out.2.2.2.2.1] at ho
        obtain ⟨q', c', e', -, hr⟩ := own_slice ho
        cases e'
        obtain ⟨g, rfl, hrr⟩ := hr (by omega)
        have hcell : wc.cell? ⟨g, m, none⟩ = some (.string xb) := by
          have := hrr m (sV x) (by rw [List.getElem?_map, hx]; rfl)
          rw [Nat.zero_add, hxb] at this
          exact this
        have HX : Hid (nm.1 = x ∧ sV x = .string xb) := ⟨hnm, hxb⟩
        obtain ⟨⟨⟨t0, z0⟩, ⟨t1, z1⟩, t2, z2⟩, ⟨t3, z3⟩, ⟨t4, z4⟩, t5, z5⟩ := H7.out.2.six2
        have hLm : L ≤ 6000000000 := H8.out.2.2.2.2.2
        have m0 : (0 : Int) ≤ (m : Int) := by omega
        have mL : (m : Int) < (L : Int) := by omega
        have e2 : IntKind.u64.wrap ((m : Int) + 1 - 1) = (m : Int) := by rw [u64w]; omega
        have e3 : IntKind.u64.wrap (m : Int) = (m : Int) := by rw [u64w]; omega
        clear ho hr hrr hx hnm hxb h0
        have H9 : Hid (EvT w rb s (.slice q0 ns.length n0) R B (.slice (some ⟨g, 0, none⟩) L c1) nm.2.1 q7 (wc.setCell ⟨E, 2, none⟩ (.string xb)) ∧ Full (wc.setCell ⟨E, 2, none⟩ (.string xb)) E 37 [.int .i64 ((c.toNat : Int) % 16), .int .i64 n2, sV nm.1, .int .i64 0, .int .i64 0, .string ⟨#[]⟩]) := ⟨H7.out.1.set H7.out.2 HP.out.2.2.2.1 HP.out.2.2.1 HP.out.2.2.2.2 _ _, by rw [HX.out.1, HX.out.2]; exact Full.put1 (a := [.int .i64 ((c.toNat : Int) % 16), .int .i64 n2]) (d := [.int .i64 0, .int .i64 0, .string ⟨#[]⟩]) H7.out.2 _⟩
        clear H7
        go_wp2_with fail
        go_meet
        case rel => exact ⟨rfl, H9⟩
    case rest =>
    obtain ⟨rfl, H9⟩ := hcut
    clear H7
    have e4 : IntKind.i64.wrap ((c.toNat : Int) / 16) = (c.toNat : Int) / 16 := by rw [IntKind.wrap_i64]; omega
    go_upto_block 0 with fail
    obtain ⟨V, hV⟩ : ∃ V, wc.heap.size = V := ⟨_, rfl⟩
    obtain ⟨vk, hvk⟩ : ∃ vk : Int, (c.toNat : Int) / 16 = vk := ⟨_, rfl⟩
    rw [hV, hvk]
    obtain ⟨XV, hXV⟩ : ∃ X, wc.alloc (.cells #[.int .i64 vk, .int .i64 0, .string ⟨#[]⟩] 35) = X := ⟨_, rfl⟩
    have nV : Below wc.heap.size wc XV := by rw [← hXV]; exact (Below.refl _ _).alloc (Nat.le_refl _) _
    have fV : Full XV V 35 [.int .i64 vk, .int .i64 0, .string ⟨#[]⟩] := by rw [← hXV, ← hV]; exact Full.new wc _ _
    have HQ : Hid (rb < V ∧ R < V ∧ E < V ∧ w.heap.size ≤ V ∧ vk = ((c.toNat / 16 : Nat) : Int)) := ⟨by have := H9.out.1.rd.lt; omega, by have := H9.out.1.res.lt; omega, by have := H9.out.2.lt; omega, by have := H9.out.1.kp.size; omega, by rw [← hvk]; rfl⟩
    have HA : Hid (EvT w rb s (.slice q0 ns.length n0) R B (.slice q1 L c1) nm.2.1 q7 XV ∧ Full XV E 37 [.int .i64 ((c.toNat : Int) % 16), .int .i64 n2, sV nm.1, .int .i64 0, .int .i64 0, .string ⟨#[]⟩] ∧ Full XV V 35 [.int .i64 vk, .int .i64 0, .string ⟨#[]⟩]) := ⟨H9.out.1.next nV, H9.out.2.next nV, fV⟩
    rw [hXV]
    clear nV fV H9 hXV hV hvk e4
    -- a reading that is stored in the value
    have HST : Hid (∀ (r : List UInt8) (p0 : Nat) (w' : World), p0 ≤ 300000000000080 → RrP XV rb s r p0 w' → ∃ q, EvT w rb s (.slice q0 ns.length n0) R B (.slice q1 L c1) nm.2.1 q w' ∧ s.data.toList.drop q = r ∧ q ≤ 300000000000080 ∧ Full w' E 37 [.int .i64 ((c.toNat : Int) % 16), .int .i64 n2, sV nm.1, .int .i64 0, .int .i64 0, .string ⟨#[]⟩] ∧ Full w' V 35 [.int .i64 vk, .int .i64 0, .string ⟨#[]⟩]) := fun r p0 w' hp0 k => by
      obtain ⟨q, h1, h2, h3⟩ := HA.out.1.read k
      exact ⟨q, h1, h2, by omega, Kp.full HA.out.2.1 k.kp (fun e => by have := HP.out.2.2.2.1; omega), Kp.full HA.out.2.2 k.kp (fun e => by have := HQ.out.1; omega)⟩
    obtain ⟨vl, hvl⟩ : ∃ vl, vlF vk nm.2.2 = vl := ⟨_, rfl⟩
    have HVL : Hid (vlF vk nm.2.2 = vl) := hvl
    clear hvl
    go_cut [1] (fun u1 wx => u1 = .slice q1 L c1 ∧ Hid (∃ q, EvT w rb s (.slice q0 ns.length n0) R B (.slice q1 L c1) nm.2.1 q wx ∧ s.data.toList.drop q = vl.2.2 ∧ q ≤ 300000000000080 ∧ Full wx E 37 [.int .i64 ((c.toNat : Int) % 16), .int .i64 n2, sV nm.1, .int .i64 0, .int .i64 0, .string ⟨#[]⟩] ∧ Full wx V 35 [.int .i64 vk, .int .i64 vl.1, sV vl.2.1]))
    case first =>
      obtain ⟨r5, hr5⟩ : ∃ r, nm.2.2 = r := ⟨_, rfl⟩
      have hd7 := H8.out.1
      have hq7 := H8.out.2.1
      have hvl := HVL.out
      rw [hr5] at hd7 hvl
      clear HVL
      unfold vlF at hvl
      by_cases h1 : vk = 1
      · subst h1
        have HC := rsigned_f XV rb q7 s HA.out.1.rd (by omega)
        rw [hd7] at HC
        obtain ⟨n, hn⟩ : ∃ n, uz (nR r5).1 = n := ⟨_, rfl⟩
        obtain ⟨r6, hr6⟩ : ∃ r, (nR r5).2 = r := ⟨_, rfl⟩
        rw [if_pos rfl, hn, hr6] at hvl
        rw [hn, hr6] at HC
        have HVV : Hid (vl = (n, [], r6)) := hvl.symm
        clear hd7 hn hr6 hr5 hvl
        go_wp2_with fail
        refine HC.mono ?_
        rintro e wa ⟨rfl, ha⟩
        obtain ⟨q, k1, k2', k3, k4, k5⟩ := HST.out r6 _ wa (by omega) ha.out
        have HG : Hid (∃ q, EvT w rb s (.slice q0 ns.length n0) R B (.slice q1 L c1) nm.2.1 q (wa.setCell ⟨V, 1, none⟩ (.int .i64 n)) ∧ s.data.toList.drop q = r6 ∧ q ≤ 300000000000080 ∧ Full (wa.setCell ⟨V, 1, none⟩ (.int .i64 n)) E 37 [.int .i64 ((c.toNat : Int) % 16), .int .i64 n2, sV nm.1, .int .i64 0, .int .i64 0, .string ⟨#[]⟩] ∧ Full (wa.setCell ⟨V, 1, none⟩ (.int .i64 n)) V 35 [.int .i64 1, .int .i64 n, .string ⟨#[]⟩]) := ⟨q, k1.setV k5 HQ.out.1 HQ.out.2.1 HQ.out.2.2.2.1 _ _, k2', k3, k4.other1 (by show E ≠ V; have := HQ.out.2.2.1; omega), Full.put1 (a := [.int .i64 1]) (d := [.string ⟨#[]⟩]) k5 _⟩
        obtain ⟨⟨v0, y0⟩, ⟨v1, y1⟩, v2, y2⟩ := k5.three
        clear HC ha k1 k2' k3 k4 k5 HA HST
        go_wp2_with fail
        go_meet
        case rel => exact ⟨rfl, by rw [HVV.out]; exact HG⟩
      rw [if_neg h1] at hvl
      by_cases h2 : vk = 2
      · subst h2
        have HC := rwide_f XV rb 1 q7 s HA.out.1.rd (by omega) (by decide)
        obtain ⟨d, hd⟩ : ∃ d, (byteR r5).1 = d := ⟨_, rfl⟩
        have hw1 : wdR 1 (s.data.toList.drop q7) 0 = d.toNat := by
          rw [hd7]
          show 0 * 256 + (byteR r5).1.toNat = _
          rw [hd]
          omega
        rw [hw1] at HC
        have hr6 : (byteR r5).2 = s.data.toList.drop (q7 + 1) := by rw [← hd7, byteR_drop]
        rw [if_pos rfl, hd, hr6] at hvl
        have HVV : Hid (vl = ((d.toNat : Int), [], s.data.toList.drop (q7 + 1))) := hvl.symm
        have hdt := UInt8.toNat_lt d
        have e5 : IntKind.i64.wrap (d.toNat : Int) = (d.toNat : Int) := by rw [IntKind.wrap_i64]; omega
        clear hd7 hd hr6 hr5 hw1 hvl
        go_wp2_with fail
        refine HC.mono ?_
        rintro e wa ⟨rfl, ha⟩
        obtain ⟨q, k1, k2', k3, k4, k5⟩ := HST.out (s.data.toList.drop (q7 + 1)) (q7 + 1) wa (by omega) ⟨ha.out.2, q7 + 1, ha.out.1, rfl, Nat.le_max_left _ _⟩
        have HG : Hid (∃ q, EvT w rb s (.slice q0 ns.length n0) R B (.slice q1 L c1) nm.2.1 q (wa.setCell ⟨V, 1, none⟩ (.int .i64 (d.toNat : Int))) ∧ s.data.toList.drop q = s.data.toList.drop (q7 + 1) ∧ q ≤ 300000000000080 ∧ Full (wa.setCell ⟨V, 1, none⟩ (.int .i64 (d.toNat : Int))) E 37 [.int .i64 ((c.toNat : Int) % 16), .int .i64 n2, sV nm.1, .int .i64 0, .int .i64 0, .string ⟨#[]⟩] ∧ Full (wa.setCell ⟨V, 1, none⟩ (.int .i64 (d.toNat : Int))) V 35 [.int .i64 2, .int .i64 (d.toNat : Int), .string ⟨#[]⟩]) := ⟨q, k1.setV k5 HQ.out.1 HQ.out.2.1 HQ.out.2.2.2.1 _ _, k2', k3, k4.other1 (by show E ≠ V; have := HQ.out.2.2.1; omega), Full.put1 (a := [.int .i64 2]) (d := [.string ⟨#[]⟩]) k5 _⟩
        obtain ⟨⟨v0, y0⟩, ⟨v1, y1⟩, v2, y2⟩ := k5.three
        clear HC ha k1 k2' k3 k4 k5 HA HST
        go_wp2_with fail
        go_meet
        case rel => exact ⟨rfl, by rw [HVV.out]; exact HG⟩
      rw [if_neg h2] at hvl
      by_cases h3 : vk = 3
      · subst h3
        have HC := rnumber_f XV rb q7 s HA.out.1.rd (by omega)
        rw [hd7] at HC
        have hnl := nR_lt r5
        obtain ⟨n, hn⟩ : ∃ n, (nR r5).1 = n := ⟨_, rfl⟩
        obtain ⟨r6, hr6⟩ : ∃ r, (nR r5).2 = r := ⟨_, rfl⟩
        rw [if_pos rfl, hn, hr6] at hvl
        rw [hn, hr6] at HC
        rw [hn] at hnl
        obtain ⟨tx, htx⟩ : ∃ tx, txF r6 n = tx := ⟨_, rfl⟩
        rw [htx] at hvl
        obtain ⟨tb, htb⟩ : ∃ tb : ByteArray, sV tx.1 = .string tb := ⟨_, rfl⟩
        have HVV : Hid (vl = (0, tx.1, tx.2) ∧ sV tx.1 = .string tb) := ⟨hvl.symm, htb⟩
        have HTX : Hid (txF r6 n = tx) := htx
        clear hd7 hn hr6 hr5 hvl htx
        go_wp2_with fail
        refine HC.mono ?_
        rintro e wa ⟨rfl, ha⟩
        obtain ⟨q, k1, k2', k3, k4, k5⟩ := HST.out r6 _ wa (by omega) ha.out
        have HC2 := rtext_f wa rb q n s k1.rd (by omega) hnl hs
        rw [k2', HTX.out, htb] at HC2
        have HF : Hid (EvT w rb s (.slice q0 ns.length n0) R B (.slice q1 L c1) nm.2.1 q wa ∧ q ≤ 300000000000080 ∧ Full wa E 37 [.int .i64 ((c.toNat : Int) % 16), .int .i64 n2, sV nm.1, .int .i64 0, .int .i64 0, .string ⟨#[]⟩] ∧ Full wa V 35 [.int .i64 3, .int .i64 0, .string ⟨#[]⟩]) := ⟨k1, k3, k4, k5⟩
        clear HC ha k1 k2' k3 k4 k5 HA HST htb
        go_wp2_with fail
        refine HC2.mono ?_
        rintro e wb ⟨rfl, hb⟩
        obtain ⟨qb, l1, l2, l3⟩ := HF.out.1.read hb.out
        have l4 : Full wb E 37 [.int .i64 ((c.toNat : Int) % 16), .int .i64 n2, sV nm.1, .int .i64 0, .int .i64 0, .string ⟨#[]⟩] := Kp.full HF.out.2.2.1 hb.out.kp (fun e => by have := HP.out.2.2.2.1; omega)
        have l5 : Full wb V 35 [.int .i64 3, .int .i64 0, .string ⟨#[]⟩] := Kp.full HF.out.2.2.2 hb.out.kp (fun e => by have := HQ.out.1; omega)
        have HG : Hid (∃ q, EvT w rb s (.slice q0 ns.length n0) R B (.slice q1 L c1) nm.2.1 q (wb.setCell ⟨V, 2, none⟩ (.string tb)) ∧ s.data.toList.drop q = tx.2 ∧ q ≤ 300000000000080 ∧ Full (wb.setCell ⟨V, 2, none⟩ (.string tb)) E 37 [.int .i64 ((c.toNat : Int) % 16), .int .i64 n2, sV nm.1, .int .i64 0, .int .i64 0, .string ⟨#[]⟩] ∧ Full (wb.setCell ⟨V, 2, none⟩ (.string tb)) V 35 [.int .i64 3, .int .i64 0, .string tb]) := ⟨qb, l1.setV l5 HQ.out.1 HQ.out.2.1 HQ.out.2.2.2.1 _ _, l2, by have := HF.out.2.1; omega, l4.other1 (by show E ≠ V; have := HQ.out.2.2.1; omega), Full.put1 (a := [.int .i64 3, .int .i64 0]) (d := []) l5 _⟩
        obtain ⟨⟨v0, y0⟩, ⟨v1, y1⟩, v2, y2⟩ := l5.three
        clear HC2 hb l1 l2 l3 l4 l5 HF
        go_wp2_with fail
        go_meet
        case rel => exact ⟨rfl, by rw [HVV.out.1]; simp only; rw [HVV.out.2]; exact HG⟩
      rw [if_neg h3] at hvl
      by_cases h4 : vk = 4
      · subst h4
        have HC := rnumber_f XV rb q7 s HA.out.1.rd (by omega)
        rw [hd7] at HC
        obtain ⟨n, hn⟩ : ∃ n, (nR r5).1 = n := ⟨_, rfl⟩
        obtain ⟨r6, hr6⟩ : ∃ r, (nR r5).2 = r := ⟨_, rfl⟩
        rw [if_pos rfl, hn, hr6] at hvl
        rw [hn, hr6] at HC
        obtain ⟨z, hz⟩ : ∃ z, wrp (n : Int) = z := ⟨_, rfl⟩
        have HZ : Hid (wrap64 (n : Int) = z) := by show wrap64 _ = _; rw [← hz]; unfold wrap64 wrp; rfl
        rw [hz] at hvl
        have HVV : Hid (vl = (z, [], r6)) := hvl.symm
        clear hd7 hn hr6 hr5 hvl hz
        go_wp2_with fail
        refine HC.mono ?_
        rintro e wa ⟨rfl, ha⟩
        obtain ⟨q, k1, k2', k3, k4, k5⟩ := HST.out r6 _ wa (by omega) ha.out
        have HG : Hid (∃ q, EvT w rb s (.slice q0 ns.length n0) R B (.slice q1 L c1) nm.2.1 q (wa.setCell ⟨V, 1, none⟩ (.int .i64 z)) ∧ s.data.toList.drop q = r6 ∧ q ≤ 300000000000080 ∧ Full (wa.setCell ⟨V, 1, none⟩ (.int .i64 z)) E 37 [.int .i64 ((c.toNat : Int) % 16), .int .i64 n2, sV nm.1, .int .i64 0, .int .i64 0, .string ⟨#[]⟩] ∧ Full (wa.setCell ⟨V, 1, none⟩ (.int .i64 z)) V 35 [.int .i64 4, .int .i64 z, .string ⟨#[]⟩]) := ⟨q, k1.setV k5 HQ.out.1 HQ.out.2.1 HQ.out.2.2.2.1 _ _, k2', k3, k4.other1 (by show E ≠ V; have := HQ.out.2.2.1; omega), Full.put1 (a := [.int .i64 4]) (d := [.string ⟨#[]⟩]) k5 _⟩
        obtain ⟨⟨v0, y0⟩, ⟨v1, y1⟩, v2, y2⟩ := k5.three
        clear HC ha k1 k2' k3 k4 k5 HA HST
        go_wp2_with fail
        go_meet
        case rel => exact ⟨rfl, by rw [HVV.out, ← HZ.out]; rw [← HZ.out] at HG; exact HG⟩
      rw [if_neg h4] at hvl
      have HVV : Hid (vl = (0, [], r5)) := hvl.symm
      have HG : Hid (∃ q, EvT w rb s (.slice q0 ns.length n0) R B (.slice q1 L c1) nm.2.1 q XV ∧ s.data.toList.drop q = r5 ∧ q ≤ 300000000000080 ∧ Full XV E 37 [.int .i64 ((c.toNat : Int) % 16), .int .i64 n2, sV nm.1, .int .i64 0, .int .i64 0, .string ⟨#[]⟩] ∧ Full XV V 35 [.int .i64 vk, .int .i64 0, .string ⟨#[]⟩]) := ⟨q7, HA.out.1, hd7, by omega, HA.out.2.1, HA.out.2.2⟩
      clear hvl hr5 hd7 HA HST
      go_wp2_with fail
      go_meet
      case rel => exact ⟨rfl, by rw [HVV.out]; exact HG⟩
    case rest =>
    obtain ⟨rfl, HB⟩ := hcut
    clear HA HST
    obtain ⟨q, k1, k2', k3, k4, k5⟩ := HB.out
    obtain ⟨vn, vr, vx⟩ := vl
    simp only at k2' k5
    obtain ⟨tb, htb⟩ : ∃ tb : ByteArray, sV vr = .string tb := ⟨_, rfl⟩
    obtain ⟨xb, hxb⟩ : ∃ xb : ByteArray, sV nm.1 = .string xb := ⟨_, rfl⟩
    rw [htb] at k5
    rw [hxb] at k4
    have HRR : Hid (res = (⟨(c.toNat % 16 : Nat), n2, nm.1, vk, vn, vr⟩, ⟨n2, nm.2.1, vx⟩)) := by
      show res = _
      rw [HRS.out, ← HQ.out.2.2.2.2, HVL.out]
    have HXX : Hid (sV vr = .string tb ∧ sV nm.1 = .string xb) := ⟨htb, hxb⟩
    -- the event's value
    have f1 : Full (wc.setCells E 3 [.int .i64 vk, .int .i64 vn, .string tb]) E 37 [.int .i64 ((c.toNat : Int) % 16), .int .i64 n2, .string xb, .int .i64 vk, .int .i64 vn, .string tb] := Full.put (a := [.int .i64 ((c.toNat : Int) % 16), .int .i64 n2, .string xb]) (b := [.int .i64 0, .int .i64 0, .string ⟨#[]⟩]) (d := []) [.int .i64 vk, .int .i64 vn, .string tb] k4 rfl
    have t1 : EvT w rb s (.slice q0 ns.length n0) R B (.slice q1 L c1) nm.2.1 q (wc.setCells E 3 [.int .i64 vk, .int .i64 vn, .string tb]) := by
      have a1 := k1.set k4 HP.out.2.2.2.1 HP.out.2.2.1 HP.out.2.2.2.2 3 (.int .i64 vk)
      have g1 : Full (wc.setCell ⟨E, 3, none⟩ (.int .i64 vk)) E 37 [.int .i64 ((c.toNat : Int) % 16), .int .i64 n2, .string xb, .int .i64 vk, .int .i64 0, .string ⟨#[]⟩] := Full.put1 (a := [.int .i64 ((c.toNat : Int) % 16), .int .i64 n2, .string xb]) (d := [.int .i64 0, .string ⟨#[]⟩]) k4 _
      have a2 := a1.set g1 HP.out.2.2.2.1 HP.out.2.2.1 HP.out.2.2.2.2 4 (.int .i64 vn)
      have g2 : Full ((wc.setCell ⟨E, 3, none⟩ (.int .i64 vk)).setCell ⟨E, 4, none⟩ (.int .i64 vn)) E 37 [.int .i64 ((c.toNat : Int) % 16), .int .i64 n2, .string xb, .int .i64 vk, .int .i64 vn, .string ⟨#[]⟩] := Full.put1 (a := [.int .i64 ((c.toNat : Int) % 16), .int .i64 n2, .string xb, .int .i64 vk]) (d := [.string ⟨#[]⟩]) g1 _
      exact a2.set g2 HP.out.2.2.2.1 HP.out.2.2.1 HP.out.2.2.2.2 5 (.string tb)
    obtain ⟨W1, hW1⟩ : ∃ W1, wc.setCells E 3 [.int .i64 vk, .int .i64 vn, .string tb] = W1 := ⟨_, rfl⟩
    rw [hW1] at f1 t1
    simp only [World.setCells, Nat.reduceAdd] at hW1
    obtain ⟨⟨v0, y0⟩, ⟨v1, y1⟩, v2, y2⟩ := k5.three
    obtain ⟨-, ⟨t3, z3⟩, ⟨t4, z4⟩, t5, z5⟩ := k4.six2
    obtain ⟨⟨⟨a0, b0⟩, ⟨a1, b1⟩, a2, b2⟩, ⟨a3, b3⟩, ⟨a4, b4⟩, a5, b5⟩ := f1.six2
    have fR : Full W1 R 37 EvZ := t1.res
    unfold EvZ at fR
    obtain ⟨⟨⟨r0, d0⟩, ⟨r1', d1⟩, r2', d2⟩, ⟨r3', d3⟩, ⟨r4, d4⟩, r5, d5⟩ := fR.six2
    have HT : Hid (EvT w rb s (.slice q0 ns.length n0) R B (.slice q1 L c1) nm.2.1 q W1 ∧ s.data.toList.drop q = vx ∧ q ≤ 300000000000080) := ⟨t1, k2', k3⟩
    clear f1 t1 fR k1 k2' k3 k4 k5 HB htb hxb
    go_wp2_with fail
    have fE : Full (W1.setCells R 0 [.int .i64 ((c.toNat : Int) % 16), .int .i64 n2, .string xb, .int .i64 vk, .int .i64 vn, .string tb]) R 37 [.int .i64 ((c.toNat : Int) % 16), .int .i64 n2, .string xb, .int .i64 vk, .int .i64 vn, .string tb] := Full.put (a := []) (b := EvZ) (d := []) _ HT.out.1.res rfl
    have kE : Kp (fun x => x = rb ∨ (Value.slice q0 ns.length n0).ownBlock = some x) w (W1.setCells R 0 [.int .i64 ((c.toNat : Int) % 16), .int .i64 n2, .string xb, .int .i64 vk, .int .i64 vn, .string tb]) := Kp.setCells (.inr (Nat.le_of_eq hR)) _ _ HT.out.1.kp
    have rE : Rr (W1.setCells R 0 [.int .i64 ((c.toNat : Int) % 16), .int .i64 n2, .string xb, .int .i64 vk, .int .i64 vn, .string tb]) rb s q := (sets_heap (by have := HT.out.1.ne; omega) _ _ _).trans HT.out.1.rd
    have oE : (W1.setCells R 0 [.int .i64 ((c.toNat : Int) % 16), .int .i64 n2, .string xb, .int .i64 vk, .int .i64 vn, .string tb]).ownsRow B 9 1 (.slice q1 L c1) nm.2.1.length (nm.2.1.map sV) := own_same HT.out.1.own fun g hg => sets_heap (by rintro rfl; exact own_ne HT.out.1.own (b := g) (t := 37) (m := 6) ⟨_, HT.out.1.res, by simp [EvZ]⟩ (by decide) hg) _ _ _
    simp only [World.setCells, Nat.zero_add, Nat.reduceAdd] at fE kE rE oE
    refine bodyPost_ret (ret_rev fE rfl rfl) rfl ?_
    refine ⟨.slice q1 L c1, ?_, ?_⟩
    · rw [HRR.out]
      show _ = Ending.returned (Value.tuple #[.agg #[.int .i64 ((c.toNat % 16 : Nat) : Int), .int .i64 n2, sV nm.1, .int .i64 vk, .int .i64 vn, sV vr], _])
      rw [HXX.out.1, HXX.out.2]
      rfl
    · rw [HRR.out]
      exact ⟨oE, kE, q, rE, HT.out.2.1, HT.out.2.2⟩
end Go.Proofs.YtdmiciblfbkndaaDoor
