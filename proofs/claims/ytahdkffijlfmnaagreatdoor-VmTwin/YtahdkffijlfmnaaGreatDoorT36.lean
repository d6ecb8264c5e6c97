import Derived.Test.YtahdkffijlfmnaaGreatDoorT35
namespace Go.Proofs.YtahdkffijlfmnaaGreatDoor
open Go.RowKit
open Hp (V vc vcs)
theorem Mqs.start {W X : World} (hX : X.heap.size = W.heap.size + 1) (bX : Below W.heap.size W X) (g8 : 8 ≤ W.heap.size) : Mqs W X (fun b => b = W.heap.size) [] := ⟨fun x hx => (by cases hx), List.Pairwise.nil, fun x hx => (by cases hx), fun b hb => (by have hb : b = W.heap.size := hb; omega), bX, g8⟩
theorem Mz.u6 {w : World} {U : Nat → Prop} {g : Nat} {K : Cg} {S : Ms} (h : Mz w U g K S) : Hp.usedS S.hp ≤ 100000 := by
  have := h.kok
  have := this.1.lim
  omega
set_option maxRecDepth 100000 in
set_option maxHeartbeats 1000000 in
theorem vmTwin_any {W : World} {iq eq tq nq : Option Addr} {ia ea ta na : Nat} {Es : List Em} {c : Cd} {inp : List Int} (hS : SetR W iq eq tq nq ia ea ta na Es c inp) (dp l fi th : Int) (hG : Glo W) :
    Calls Tryz.prog 6 #[.agg #[.slice iq c.ins.length ia, .slice eq c.ens.length ea, .slice tq c.txs.length ta, .int .i64 c.main, .slice nq inp.length na, .int .i64 dp, .int .i64 l, .int .i64 fi, .int .i64 th]] W fun z w' => z = .returned (.bool true) ∧ Below W.heap.size W w' := by
  have HGL : Hid (Glo W) := hG
  obtain ⟨bX, hXs, fX⟩ := @runX W iq eq tq nq c.ins.length ia c.ens.length ea c.txs.length ta inp.length na c.main dp l fi th _ rfl
  by_cases he : newE c inp.length dp l = 0
  case neg =>
    have he' : (newE c inp.length dp l != 0) = true := by simpa using he
    have HDN : Hid (∀ wv, Below W.heap.size W wv → Calls Tryz.prog 7 #[.agg #[.slice iq c.ins.length ia, .slice eq c.ens.length ea, .slice tq c.txs.length ta, .int .i64 c.main], .slice nq inp.length na, .agg #[.int .i64 dp, .int .i64 l]] wv fun z w' => z = .returned (.tuple #[.pointer none, .int .i64 (newE c inp.length dp l)]) ∧ Below wv.heap.size wv w') := fun wv b => setNew_no hS hG b dp l he
    have HFX : Hid (Full (W.alloc (.cells #[.slice iq c.ins.length ia, .slice eq c.ens.length ea, .slice tq c.txs.length ta, .int .i64 c.main, .slice nq inp.length na, .int .i64 dp, .int .i64 l, .int .i64 fi, .int .i64 th] 33)) W.heap.size 33 [.slice iq c.ins.length ia, .slice eq c.ens.length ea, .slice tq c.txs.length ta, .int .i64 c.main, .slice nq inp.length na, .int .i64 dp, .int .i64 l, .int .i64 fi, .int .i64 th]) := fX
    have dN := HDN.out _ bX
    have HBX : Hid _ := bX
    clear hS hG bX fX hXs
    go_enter Tryz.func6, Tryz.ntmps6
    go_wp2_with (first
      | (go_at_call 7; refine dN.mono ?_; rintro z1 w1 ⟨rfl, hb1⟩; have HB1 : Hid (Below W.heap.size W w1) := below2 HBX.out hb1; have hF1 := HFX.out.next hb1; obtain ⟨x0, -⟩ := hF1.cell 0 _ rfl; obtain ⟨x1, -⟩ := hF1.cell 1 _ rfl; obtain ⟨x2, -⟩ := hF1.cell 2 _ rfl; obtain ⟨x3, -⟩ := hF1.cell 3 _ rfl; obtain ⟨x4, -⟩ := hF1.cell 4 _ rfl; obtain ⟨x5, -⟩ := hF1.cell 5 _ rfl; obtain ⟨x6, -⟩ := hF1.cell 6 _ rfl; have dM := HDN.out _ HB1.out; clear hb1 dN hF1)
      | (go_at_call 7; refine dM.mono ?_; rintro z2 w2 ⟨rfl, hb2⟩; have HB2 : Hid (Below W.heap.size W w2) := below2 HB1.out hb2; clear hb2 dM x0 x1 x2 x3 x4 x5 x6)
      | (go_at_call 8; refine (least_any (HGL.out.next HB2.out)).mono ?_; rintro z3 w3 ⟨rfl, hb3⟩; have HB3 : Hid (Below W.heap.size W w3) := below2 HB2.out hb3; clear hb3)
      | fail)
    go_ret
    exact ⟨rfl, HB3.out⟩
  obtain ⟨xs, hxs⟩ : ∃ xs : List Value, xs = [.slice iq c.ins.length ia, .slice eq c.ens.length ea, .slice tq c.txs.length ta, .int .i64 c.main, .slice nq inp.length na, .int .i64 dp, .int .i64 l, .int .i64 fi, .int .i64 th] := ⟨_, rfl⟩
  have HXS : Hid (∀ {wv : World}, Full wv W.heap.size 33 xs → (wv.cell? ⟨W.heap.size, 0, none⟩ = some (.slice iq c.ins.length ia) ∧ wv.cell? ⟨W.heap.size, 1, none⟩ = some (.slice eq c.ens.length ea) ∧ wv.cell? ⟨W.heap.size, 2, none⟩ = some (.slice tq c.txs.length ta) ∧ wv.cell? ⟨W.heap.size, 3, none⟩ = some (.int .i64 c.main) ∧ wv.cell? ⟨W.heap.size, 4, none⟩ = some (.slice nq inp.length na) ∧ wv.cell? ⟨W.heap.size, 5, none⟩ = some (.int .i64 dp) ∧ wv.cell? ⟨W.heap.size, 6, none⟩ = some (.int .i64 l)) ∧ wv.cell? ⟨W.heap.size, 7, none⟩ = some (.int .i64 fi) ∧ wv.cell? ⟨W.heap.size, 8, none⟩ = some (.int .i64 th)) := fun {wv} h => by
    rw [hxs] at h
    exact ⟨⟨(h.cell 0 _ rfl).1, (h.cell 1 _ rfl).1, (h.cell 2 _ rfl).1, (h.cell 3 _ rfl).1, (h.cell 4 _ rfl).1, (h.cell 5 _ rfl).1, (h.cell 6 _ rfl).1⟩, (h.cell 7 _ rfl).1, (h.cell 8 _ rfl).1⟩
  have HDN : Hid (∀ wv, Below W.heap.size W wv → Calls Tryz.prog 7 #[.agg #[.slice iq c.ins.length ia, .slice eq c.ens.length ea, .slice tq c.txs.length ta, .int .i64 c.main], .slice nq inp.length na, .agg #[.int .i64 dp, .int .i64 l]] wv fun z w' => ∃ g, z = .returned (.tuple #[.pointer (some ⟨g, 0, none⟩), .int .i64 0]) ∧ Hid (∃ K, Mz w' (fun b => wv.heap.size ≤ b) g K (msN (enAt c.ens c.main.toNat) c.main) ∧ K.c = c ∧ K.inp = inp ∧ K.dep = dp ∧ K.lim = l.toNat ∧ Below wv.heap.size wv w')) := fun wv b => (setNew hS hG b dp l he).2
  have HLD : Hid (∀ (wv : World) (K : Cg) (S : Ms) (T : ByteArray), Below W.heap.size W wv → KOk K → K.c = c → K.inp = inp → K.dep = dp → K.lim = l.toNat → StOk K S → StG K S → Hp.usedS S.hp ≤ K.lim → S.out.length ≤ 100000000 → (⟨(svB S).toArray⟩ : ByteArray) = T → Calls Tryz.prog 20 #[.agg #[.slice iq c.ins.length ia, .slice eq c.ens.length ea, .slice tq c.txs.length ta, .int .i64 c.main], .slice nq inp.length na, .agg #[.int .i64 dp, .int .i64 l], .string T] wv fun z w' => ∃ g, z = .returned (.tuple #[.pointer (some ⟨g, 0, none⟩), .int .i64 0]) ∧ Hid (∃ K', Mz w' (fun b => wv.heap.size ≤ b) g K' S ∧ Alk K K' ∧ Below wv.heap.size wv w')) := fun wv K S T b a1 a2 a3 a4 a5 a6 a7 a8 a9 e => by
    rw [← e]
    exact setLoad hS hG b dp l he a1 a2 a3 a4 a5 a6 a7 a8 a9
  have HFX : Hid (Full (W.alloc (.cells #[.slice iq c.ins.length ia, .slice eq c.ens.length ea, .slice tq c.txs.length ta, .int .i64 c.main, .slice nq inp.length na, .int .i64 dp, .int .i64 l, .int .i64 fi, .int .i64 th] 33)) W.heap.size 33 xs) := by rw [hxs]; exact fX
  have HMX : Hid (Mqs W (W.alloc (.cells #[.slice iq c.ins.length ia, .slice eq c.ens.length ea, .slice tq c.txs.length ta, .int .i64 c.main, .slice nq inp.length na, .int .i64 dp, .int .i64 l, .int .i64 fi, .int .i64 th] 33)) (fun b => b = W.heap.size) []) := Mqs.start hXs bX (by have := hG.tabs.size; omega)
  have dN := HDN.out _ bX
  have HBX : Hid _ := bX
  obtain ⟨k1, hk1, hk15⟩ := fewK fi
  obtain ⟨k2, hk2, hk25⟩ := fewK th
  have dF1 : ∀ w, Calls Tryz.prog 11 #[.int .i64 fi] w fun z w' => z = .returned (.int .i64 (k1 : Int)) ∧ Below w.heap.size w w' := fun w => by rw [← hk1]; exact few_any fi w
  have dF2 : ∀ w, Calls Tryz.prog 11 #[.int .i64 th] w fun z w' => z = .returned (.int .i64 (k2 : Int)) ∧ Below w.heap.size w w' := fun w => by rw [← hk2]; exact few_any th w
  clear hS hG bX fX hXs hk1 hk2 hxs he
  go_enter Tryz.func6, Tryz.ntmps6
  go_wp2_with (first
    | (go_at_call 7; (with_reducible refine dN.mono ?_); rintro z1 w1 ⟨ga, rfl, H1⟩; obtain ⟨Ka, m1, e1, e2, e3, e4, hb1⟩ := H1.out; have HKA : Hid (Ka.c = c ∧ Ka.inp = inp ∧ Ka.dep = dp ∧ Ka.lim = l.toNat) := ⟨e1, e2, e3, e4⟩; obtain ⟨A1, hq1⟩ := HMX.out.add hb1 m1; have HQ1 : Hid (Mqs W w1 (fun b => b = W.heap.size) [(ga, Ka, msN (enAt c.ens c.main.toNat) c.main, A1)]) := hq1; have HF1 : Hid (Full w1 W.heap.size 33 xs) := HFX.out.next hb1; obtain ⟨⟨x0, x1, x2, x3, x4, x5, x6⟩, -⟩ := HXS.out HF1.out; have dM := HDN.out _ HQ1.out.bl; clear dN H1 hb1 hq1 m1 e1 e2 e3 e4 HFX HMX)
    | (go_at_call 7; (with_reducible refine dM.mono ?_); rintro z2 w2 ⟨gb, rfl, H2⟩; obtain ⟨Kb, m2, e1, e2, e3, e4, hb2⟩ := H2.out; obtain ⟨B1, hq2⟩ := HQ1.out.add hb2 m2; have HT0 : Hid (∃ S A B, Tn W w2 xs ga gb Ka Kb S 0 A B) := ⟨_, A1, B1, hq2, HF1.out.next hb2, ⟨HKA.out.1.trans e1.symm, HKA.out.2.1.trans e2.symm, HKA.out.2.2.1.trans e3.symm, HKA.out.2.2.2.trans e4.symm⟩, (by have hk := (Mqs.at_ (l1 := []) (l2 := []) HQ1.out).kok.1; have q := new_g hk; rw [HKA.out.1] at q; exact q), Nat.le_refl _⟩; clear dM H2 hb2 hq2 m2 e1 e2 e3 e4 HF1 HQ1 x0 x1 x2 x3 x4 x5 x6)
    | fail)
  go_loopw [7] (fun vi wr => ∃ n : Nat, n ≤ k1 ∧ vi = .int .i64 (n : Int) ∧ Hid (∃ S A B, Tn W wr xs ga gb Ka Kb S n A B)) (fun vi _ => k1 - (intOf vi).toNat)
  case atStart => exact ⟨0, Nat.zero_le _, rfl, HT0⟩
  case round =>
    clear HT0
    obtain ⟨n, hn, rfl, hI⟩ := hrel
    obtain ⟨S, A, B, hT⟩ := hI.out
    have HT : Hid (Tn W wr xs ga gb Ka Kb S n A B) := hT
    obtain ⟨-, x7, -⟩ := HXS.out hT.x
    have n0 : (0 : Int) ≤ (n : Int) := Int.natCast_nonneg _
    clear hI hT
    by_cases hlt : n < k1
    · have n1 : (n : Int) < (k1 : Int) := Int.ofNat_lt.2 hlt
      go_wp2_with (first
        | (go_at_call 11; refine (dF1 _).mono ?_; rintro z3 w3 ⟨rfl, hb3⟩; have HT3 : Hid (Tn W w3 xs ga gb Ka Kb S n A B) := HT.out.next hb3; have dA := Tn.stepA HT3.out (by omega); clear hb3 HT)
        | (go_at_call 12; (with_reducible refine dA.mono ?_); rintro z4 w4 ⟨⟨v4, rfl⟩, H4⟩; obtain ⟨A4, hq4, hx4⟩ := H4.out; have dB := Tn.stepB HT3.out (by omega) hq4 hx4; clear dA H4 hq4 hx4)
        | (go_at_call 12; (with_reducible refine dB.mono ?_); rintro z5 w5 ⟨⟨v5, rfl⟩, H5⟩; clear HT3 dB)
        | fail)
      exact ⟨⟨n + 1, hlt, by push_cast; rfl, H5⟩, by show k1 - ((n : Int) + 1).toNat < k1 - (n : Int).toNat; omega⟩
    obtain rfl : n = k1 := by omega
    have n1 : ¬ ((n : Int) < (n : Int)) := by omega
    obtain ⟨T, hTT⟩ : ∃ T, (⟨(svB S).toArray⟩ : ByteArray) = T := ⟨_, rfl⟩
    have HTT : Hid ((⟨(svB S).toArray⟩ : ByteArray) = T) := hTT
    have HOL : Hid (S.out.length ≤ 4200 * 5000) := by show S.out.length ≤ 4200 * 5000; have := HT.out.o; omega
    have HSV : Hid (∀ {wv : World} {U : Nat → Prop} {g : Nat} {K : Cg}, Mz wv U g K S → Calls Tryz.prog 17 #[.pointer (some ⟨g, 0, none⟩)] wv fun z w' => z = .returned (.string T) ∧ Below wv.heap.size wv w') := fun {wv U g K} h => by
      have q := h.save (show S.out.length ≤ 100000000 by have := HOL.out; omega)
      rw [HTT.out] at q
      exact q
    clear hTT
    have HZA : Hid (∀ {wv : World}, Tn W wv xs ga gb Ka Kb S n A B → Mz wv A ga Ka S) := fun {wv} h => h.q.at_ (l1 := []) (l2 := [(gb, Kb, S, B)])
    go_wp2_with (first
      | (go_at_call 11; refine (dF1 _).mono ?_; rintro z3 w3 ⟨rfl, hb3⟩; have HT3 : Hid (Tn W w3 xs ga gb Ka Kb S n A B) := HT.out.next hb3; have dS := HSV.out (HZA.out HT3.out); clear hb3 HT)
      | (go_at_call 17; (with_reducible refine dS.mono ?_); rintro z4 w4 ⟨rfl, hb4⟩; have HT4 : Hid (Tn W w4 xs ga gb Ka Kb S n A B) := HT3.out.next hb4; have dC := Mqs.clone HT4.out.q (HZA.out HT4.out) (by have := HOL.out; omega); clear hb4 HT3 dS)
      | (go_at_call 16; (with_reducible refine dC.mono ?_); rintro z5 w5 ⟨gc, rfl, H5⟩; obtain ⟨Kc, C, hal5, hq5, hb5⟩ := H5.out; have HC5 : Hid (Alk Ka Kc) := hal5; have HQ5 : Hid (Mqs W w5 (fun b => b = W.heap.size) [(ga, Ka, S, A), (gb, Kb, S, B), (gc, Kc, S, C)]) := hq5; have HT5 : Hid (Tn W w5 xs ga gb Ka Kb S n A B) := HT4.out.next hb5; have dD := Mqs.clone HQ5.out (HZA.out HT5.out) (by have := HOL.out; omega); clear H5 hal5 hq5 hb5 HT4 dC)
      | (go_at_call 16; (with_reducible refine dD.mono ?_); rintro z6 w6 ⟨gd, rfl, H6⟩; obtain ⟨Kd, D, -, hq6, hb6⟩ := H6.out; have HQ6 : Hid (Mqs W w6 (fun b => b = W.heap.size) [(ga, Ka, S, A), (gb, Kb, S, B), (gc, Kc, S, C), (gd, Kd, S, D)]) := hq6; have HT6 : Hid (Tn W w6 xs ga gb Ka Kb S n A B) := HT5.out.next hb6; obtain ⟨⟨x0, x1, x2, x3, x4, x5, x6⟩, -⟩ := HXS.out HT6.out.x; obtain ⟨o1, o2, o3, -, -⟩ := HT6.out.kok; have dL := HLD.out w6 Ka S T HQ6.out.bl o1 HKA.out.1 HKA.out.2.1 HKA.out.2.2.1 HKA.out.2.2.2 o2 HT6.out.sg o3 (by have := HOL.out; omega) HTT.out; clear H6 hq6 hb6 HT5 HQ5 dD o1 o2 o3)
      | (go_at_call 20; (with_reducible refine dL.mono ?_); rintro z7 w7 ⟨gl, rfl, H7⟩; obtain ⟨Kl, m7, hal7, hb7⟩ := H7.out; have HL7 : Hid (Alk Ka Kl) := hal7; obtain ⟨E, hq7⟩ := HQ6.out.add hb7 m7; have HT7 : Hid (T5 W w7 xs ga gb gc gd gl Ka Kb Kc Kd Kl S S 0 A B C D E) := ⟨hq7, HT6.out.x.next hb7, (by have := HOL.out; omega), HOL.out⟩; have HAB : Hid (Alk Ka Kb) := HT6.out.al; have dS2 := HSV.out HT7.out.zb; clear H7 m7 hal7 hb7 hq7 HT6 HQ6 dL x0 x1 x2 x3 x4 x5 x6)
      | (go_at_call 17; (with_reducible refine dS2.mono ?_); rintro z8 w8 ⟨rfl, hb8⟩; have HT8 : Hid (T5 W w8 xs ga gb gc gd gl Ka Kb Kc Kd Kl S S 0 A B C D E) := HT7.out.next hb8; have dS3 := HSV.out HT8.out.zc; clear hb8 HT7 dS2)
      | (go_at_call 17; (with_reducible refine dS3.mono ?_); rintro z9 w9 ⟨rfl, hb9⟩; have HT9 : Hid (T5 W w9 xs ga gb gc gd gl Ka Kb Kc Kd Kl S S 0 A B C D E) := HT8.out.next hb9; have dS4 := HSV.out HT9.out.zl; clear hb9 HT8 dS3)
      | (go_at_call 17; (with_reducible refine dS4.mono ?_); rintro z10 w10 ⟨rfl, hb10⟩; have HTA : Hid (T5 W w10 xs ga gb gc gd gl Ka Kb Kc Kd Kl S S 0 A B C D E) := HT9.out.next hb10; clear hb10 HT9 dS4)
      | fail)
    have HI0 : Hid (∃ S1 A1 B1 C1 D1 E1, T5 W w10 xs ga gb gc gd gl Ka Kb Kc Kd Kl S S1 0 A1 B1 C1 D1 E1) := ⟨S, A, B, C, D, E, HTA.out⟩
    clear HTA HLD HDN HTT HZA n1 x7 n0 dF1
    go_loopw [13] (fun vi wr => ∃ m : Nat, m ≤ k2 ∧ vi = .int .i64 (m : Int) ∧ Hid (∃ S1 A1 B1 C1 D1 E1, T5 W wr xs ga gb gc gd gl Ka Kb Kc Kd Kl S S1 m A1 B1 C1 D1 E1)) (fun vi _ => k2 - (intOf vi).toNat)
    case atStart => exact ⟨0, Nat.zero_le _, rfl, HI0⟩
    case round =>
      clear HI0
      obtain ⟨m, hm, rfl, hI⟩ := hrel
      obtain ⟨S1, A1, B1, C1, D1, E1, hT⟩ := hI.out
      have HT : Hid (T5 W wr xs ga gb gc gd gl Ka Kb Kc Kd Kl S S1 m A1 B1 C1 D1 E1) := hT
      obtain ⟨-, -, x8⟩ := HXS.out hT.x
      have m0 : (0 : Int) ≤ (m : Int) := Int.natCast_nonneg _
      have HOM : Hid (S1.out.length ≤ 4200 * (5000 + m)) := hT.o
      clear hI hT
      by_cases hlt2 : m < k2
      · have m1 : (m : Int) < (k2 : Int) := Int.ofNat_lt.2 hlt2
        obtain ⟨R, hR⟩ : ∃ R, mstepS Ka S1 = R := ⟨_, rfl⟩
        obtain ⟨S2, ⟨zh, zb, zk, zn, zs⟩, ok⟩ := R
        have HRA : Hid (mstepS Ka S1 = (S2, (zh, zb, zk, zn, zs), ok)) := hR
        have HRB : Hid (mstepS Kb S1 = (S2, (zh, zb, zk, zn, zs), ok)) := (HAB.out.step HT.out.za.kok.1 HT.out.zb.kok.1 S1).symm.trans hR
        have HRC : Hid (mstepS Kc S1 = (S2, (zh, zb, zk, zn, zs), ok)) := (HC5.out.step HT.out.za.kok.1 HT.out.zc.kok.1 S1).symm.trans hR
        have HRL : Hid (mstepS Kl S1 = (S2, (zh, zb, zk, zn, zs), ok)) := (HL7.out.step HT.out.za.kok.1 HT.out.zl.kok.1 S1).symm.trans hR
        have HO2 : Hid (S2.out.length ≤ 4200 * (5000 + (m + 1))) := by
          have q := HT.out.za.out
          rw [hR] at q
          have q : S2.out.length ≤ S1.out.length + 4200 := q
          have := HOM.out
          show S2.out.length ≤ 4200 * (5000 + (m + 1))
          omega
        clear hR
        go_wp2_with (first
          | (go_at_call 11; refine (dF2 _).mono ?_; rintro z3 w3 ⟨rfl, hb3⟩; have HT3 : Hid (T5 W w3 xs ga gb gc gd gl Ka Kb Kc Kd Kl S S1 m A1 B1 C1 D1 E1) := HT.out.next hb3; have dA := Mqs.stepR (l1 := []) (l2 := [(gb, Kb, S1, B1), (gc, Kc, S1, C1), (gd, Kd, S, D1), (gl, Kl, S1, E1)]) (bs := []) HT3.out.q (by have := HOM.out; omega) HRA.out ⟨rfl, HT3.out.x⟩ (fun b hb => by cases hb); clear hb3 HT)
          | (go_at_call 12; (with_reducible refine dA.mono ?_); rintro z5 w5 ⟨rfl, H5⟩; obtain ⟨A5, hq5, hx5, hy5⟩ := H5.out; have dB := Mqs.stepR (l1 := [(ga, Ka, S2, A5)]) (l2 := [(gc, Kc, S1, C1), (gd, Kd, S, D1), (gl, Kl, S1, E1)]) hq5 (by have := HOM.out; omega) HRB.out ⟨.inl rfl, hx5.2⟩ hy5; clear dA H5 hq5 hx5 hy5)
          | (go_at_call 12; (with_reducible refine dB.mono ?_); rintro z6 w6 ⟨rfl, H6⟩; obtain ⟨B6, hq6, hx6, hy6⟩ := H6.out; have dC := Mqs.stepR (l1 := [(ga, Ka, S2, A5), (gb, Kb, S2, B6)]) (l2 := [(gd, Kd, S, D1), (gl, Kl, S1, E1)]) hq6 (by have := HOM.out; omega) HRC.out ⟨.inl (.inl rfl), hx6.2⟩ hy6; clear dB H6 hq6 hx6 hy6)
          | (go_at_call 12; (with_reducible refine dC.mono ?_); rintro z7 w7 ⟨rfl, H7⟩; obtain ⟨C7, hq7, hx7, hy7⟩ := H7.out; have dL := Mqs.stepR (l1 := [(ga, Ka, S2, A5), (gb, Kb, S2, B6), (gc, Kc, S2, C7), (gd, Kd, S, D1)]) (l2 := []) hq7 (by have := HOM.out; omega) HRL.out ⟨.inl (.inl (.inl rfl)), hx7.2⟩ hy7; clear dC H7 hq7 hx7 hy7)
          | (go_at_call 12; (with_reducible refine dL.mono ?_); rintro z8 w8 ⟨rfl, H8⟩; obtain ⟨E8, hq8, hx8, hy8⟩ := H8.out; have HTN : Hid (T5 W (w8.alloc (.cells #[.int .i64 zh, .bool zb, .int .i64 zk, .int .i64 zn, .string zs] 54)) xs ga gb gc gd gl Ka Kb Kc Kd Kl S S2 (m + 1) A5 B6 C7 D1 E8) := ⟨hq8.more (Below.refl _ _) (fun b hb => .inl (.inl (.inl (.inl (.inl hb))))), hx8.2, HO2.out, HT3.out.o0⟩; obtain ⟨a0, -⟩ := (hy8 w5.heap.size (by simp)).2.cell 0 _ rfl; obtain ⟨a1, -⟩ := (hy8 w5.heap.size (by simp)).2.cell 1 _ rfl; obtain ⟨a2, -⟩ := (hy8 w5.heap.size (by simp)).2.cell 2 _ rfl; obtain ⟨a3, -⟩ := (hy8 w5.heap.size (by simp)).2.cell 3 _ rfl; obtain ⟨a4, -⟩ := (hy8 w5.heap.size (by simp)).2.cell 4 _ rfl; obtain ⟨b0, -⟩ := (hy8 w6.heap.size (by simp)).2.cell 0 _ rfl; obtain ⟨b1, -⟩ := (hy8 w6.heap.size (by simp)).2.cell 1 _ rfl; obtain ⟨b2, -⟩ := (hy8 w6.heap.size (by simp)).2.cell 2 _ rfl; obtain ⟨b3, -⟩ := (hy8 w6.heap.size (by simp)).2.cell 3 _ rfl; obtain ⟨b4, -⟩ := (hy8 w6.heap.size (by simp)).2.cell 4 _ rfl; obtain ⟨c0, -⟩ := (hy8 w7.heap.size (by simp)).2.cell 0 _ rfl; obtain ⟨c1, -⟩ := (hy8 w7.heap.size (by simp)).2.cell 1 _ rfl; obtain ⟨c2, -⟩ := (hy8 w7.heap.size (by simp)).2.cell 2 _ rfl; obtain ⟨c3, -⟩ := (hy8 w7.heap.size (by simp)).2.cell 3 _ rfl; obtain ⟨c4, -⟩ := (hy8 w7.heap.size (by simp)).2.cell 4 _ rfl; obtain ⟨d0, -⟩ := (hy8 w8.heap.size (by simp)).2.cell 0 _ rfl; obtain ⟨d1, -⟩ := (hy8 w8.heap.size (by simp)).2.cell 1 _ rfl; obtain ⟨d2, -⟩ := (hy8 w8.heap.size (by simp)).2.cell 2 _ rfl; obtain ⟨d3, -⟩ := (hy8 w8.heap.size (by simp)).2.cell 3 _ rfl; obtain ⟨d4, -⟩ := (hy8 w8.heap.size (by simp)).2.cell 4 _ rfl; clear dL H8 hq8 hx8 hy8 HT3)
          | fail)
        exact ⟨⟨m + 1, hlt2, by push_cast; rfl, ⟨S2, A5, B6, C7, D1, E8, HTN.out⟩⟩, by show k2 - ((m : Int) + 1).toNat < k2 - (m : Int).toNat; omega⟩
      obtain rfl : m = k2 := by omega
      have m1 : ¬ ((m : Int) < (m : Int)) := by omega
      obtain ⟨T2, hT2⟩ : ∃ T2, (⟨(svB S1).toArray⟩ : ByteArray) = T2 := ⟨_, rfl⟩
      have HTT2 : Hid ((⟨(svB S1).toArray⟩ : ByteArray) = T2) := hT2
      have HSV2 : Hid (∀ {wv : World} {U : Nat → Prop} {g : Nat} {K : Cg}, Mz wv U g K S1 → Calls Tryz.prog 17 #[.pointer (some ⟨g, 0, none⟩)] wv fun z w' => z = .returned (.string T2) ∧ Below wv.heap.size wv w') := fun {wv U g K} h => by
        have q := h.save (show S1.out.length ≤ 100000000 by have := HOM.out; omega)
        rw [HTT2.out] at q
        exact q
      clear hT2
      go_wp2_with (first
        | (go_at_call 11; refine (dF2 _).mono ?_; rintro z3 w3 ⟨rfl, hb3⟩; have HT3 : Hid (T5 W w3 xs ga gb gc gd gl Ka Kb Kc Kd Kl S S1 m A1 B1 C1 D1 E1) := HT.out.next hb3; have d1 := HSV2.out HT3.out.za; clear hb3 HT)
        | (go_at_call 17; (with_reducible refine d1.mono ?_); rintro z4 w4 ⟨rfl, hb4⟩; have HT4 : Hid (T5 W w4 xs ga gb gc gd gl Ka Kb Kc Kd Kl S S1 m A1 B1 C1 D1 E1) := HT3.out.next hb4; have d2 := HSV2.out HT4.out.zb; clear hb4 HT3 d1)
        | (go_at_call 17; (with_reducible refine d2.mono ?_); rintro z5 w5 ⟨rfl, hb5⟩; have HT5 : Hid (T5 W w5 xs ga gb gc gd gl Ka Kb Kc Kd Kl S S1 m A1 B1 C1 D1 E1) := HT4.out.next hb5; have d3 := HSV2.out HT5.out.zc; clear hb5 HT4 d2)
        | (go_at_call 17; (with_reducible refine d3.mono ?_); rintro z6 w6 ⟨rfl, hb6⟩; have HT6 : Hid (T5 W w6 xs ga gb gc gd gl Ka Kb Kc Kd Kl S S1 m A1 B1 C1 D1 E1) := HT5.out.next hb6; have d4 := HSV2.out HT6.out.zl; clear hb6 HT5 d3)
        | (go_at_call 17; (with_reducible refine d4.mono ?_); rintro z7 w7 ⟨rfl, hb7⟩; have HT7 : Hid (T5 W w7 xs ga gb gc gd gl Ka Kb Kc Kd Kl S S1 m A1 B1 C1 D1 E1) := HT6.out.next hb7; have d5 := HSV.out HT7.out.zd; clear hb7 HT6 d4)
        | (go_at_call 17; (with_reducible refine d5.mono ?_); rintro z8 w8 ⟨rfl, hb8⟩; have HT8 : Hid (T5 W w8 xs ga gb gc gd gl Ka Kb Kc Kd Kl S S1 m A1 B1 C1 D1 E1) := HT7.out.next hb8; have r1 := Mqs.result HT8.out.q HT8.out.za; clear hb8 HT7 d5)
        | (go_at_call 9; (with_reducible refine r1.mono ?_); rintro z9 w9 ⟨u9, rfl, H9⟩; have HT9 : Hid (T5 W w9 xs ga gb gc gd gl Ka Kb Kc Kd Kl S S1 m A1 B1 C1 D1 E1) := HT8.out.next H9.out.2.2; have HA9 : Hid (AnsS w9 u9 S1) := H9.out.1; have r2 := Mqs.result HT9.out.q HT9.out.zc; clear H9 HT8 r1)
        | (go_at_call 9; (with_reducible refine r2.mono ?_); rintro z10 w10 ⟨u10, rfl, H10⟩; have HTX : Hid (T5 W w10 xs ga gb gc gd gl Ka Kb Kc Kd Kl S S1 m A1 B1 C1 D1 E1) := HT9.out.next H10.out.2.2; have s1 := sameRun_S (HA9.out.next H10.out.2.2) H10.out.1 HTX.out.za.u6; clear H10 HT9 r2 HA9)
        | (go_at_call 13; (with_reducible refine s1.mono ?_); rintro z11 w11 ⟨rfl, hb11⟩; have HTY : Hid (T5 W w11 xs ga gb gc gd gl Ka Kb Kc Kd Kl S S1 m A1 B1 C1 D1 E1) := HTX.out.next hb11; have r3 := Mqs.result HTY.out.q HTY.out.za; clear hb11 HTX s1)
        | (go_at_call 9; (with_reducible refine r3.mono ?_); rintro z12 w12 ⟨u12, rfl, H12⟩; have HTZ : Hid (T5 W w12 xs ga gb gc gd gl Ka Kb Kc Kd Kl S S1 m A1 B1 C1 D1 E1) := HTY.out.next H12.out.2.2; have HA12 : Hid (AnsS w12 u12 S1) := H12.out.1; have r4 := Mqs.result HTZ.out.q HTZ.out.zl; clear H12 HTY r3)
        | (go_at_call 9; (with_reducible refine r4.mono ?_); rintro z13 w13 ⟨u13, rfl, H13⟩; have HTU : Hid (T5 W w13 xs ga gb gc gd gl Ka Kb Kc Kd Kl S S1 m A1 B1 C1 D1 E1) := HTZ.out.next H13.out.2.2; have s2 := sameRun_S (HA12.out.next H13.out.2.2) H13.out.1 HTU.out.za.u6; clear H13 HTZ r4 HA12)
        | (go_at_call 13; (with_reducible refine s2.mono ?_); rintro z14 w14 ⟨rfl, hb14⟩; have HTV : Hid (T5 W w14 xs ga gb gc gd gl Ka Kb Kc Kd Kl S S1 m A1 B1 C1 D1 E1) := HTU.out.next hb14; have dZ := least_any (Mz.kok HTV.out.za).2.2.2; clear hb14 HTU s2)
        | (go_at_call 8; (with_reducible refine dZ.mono ?_); rintro z15 w15 ⟨rfl, hb15⟩; have HBZ : Hid (Below W.heap.size W w15) := below2 HTV.out.q.bl hb15; clear hb15)
        | fail)
      go_ret
      exact ⟨rfl, HBZ.out⟩
end Go.Proofs.YtahdkffijlfmnaaGreatDoor
