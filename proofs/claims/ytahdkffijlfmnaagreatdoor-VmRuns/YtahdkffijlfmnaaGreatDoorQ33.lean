import Derived.Test.YtahdkffijlfmnaaGreatDoorQ32
namespace Go.Proofs.YtahdkffijlfmnaaGreatDoor
open Go.RowKit
open Hp (V vc vcs)
theorem fldO (a b : Value) : ∀ w : World, (Instr.field 42 (.agg #[a, b]) 0).run Tryz.prog w = .ok a w := fun w => by
  simp [go_sem, Instr.field]
  rfl
theorem on_new {W w1 X : World} {g : Nat} {K : Cg} {S : Ms} {xs : List Value} (hm : Mz w1 (fun b => X.heap.size ≤ b) g K S) (hX : X.heap.size = W.heap.size + 1) (fX : Full X W.heap.size 33 xs) (bX : Below W.heap.size W X) (b1 : Below X.heap.size X w1) (g8 : 8 ≤ W.heap.size) : On1 W w1 g K S xs :=
  ⟨⟨_, hm, fun x hx => by omega⟩, fX.next b1, below2 bX b1, g8⟩
set_option maxRecDepth 100000 in
set_option maxHeartbeats 4000000 in
theorem vmRuns_any {W : World} {iq eq tq nq : Option Addr} {ia ea ta na : Nat} {Es : List Em} {c : Cd} {inp : List Int} (hS : SetR W iq eq tq nq ia ea ta na Es c inp) (dp l fi th : Int) (hG : Glo W) :
    Calls Tryz.prog 4 #[.agg #[.slice iq c.ins.length ia, .slice eq c.ens.length ea, .slice tq c.txs.length ta, .int .i64 c.main, .slice nq inp.length na, .int .i64 dp, .int .i64 l, .int .i64 fi, .int .i64 th]] W fun z w' => z = .returned (.bool true) ∧ Below W.heap.size W w' := by
  have HGL : Hid (Glo W) := hG
  obtain ⟨bX, hXs, fX⟩ := @runX W iq eq tq nq c.ins.length ia c.ens.length ea c.txs.length ta inp.length na c.main dp l fi th _ rfl
  by_cases he : newE c inp.length dp l = 0
  case neg =>
    have he' : (newE c inp.length dp l != 0) = true := by simpa using he
    have dN := setNew_no hS hG bX dp l he
    have HBX : Hid _ := bX
    clear hS hG bX fX hXs
    go_enter Tryz.func4, Tryz.ntmps4
    go_wp2_with (first
      | (go_at_call 7; refine dN.mono ?_; rintro z1 w1 ⟨rfl, hb1⟩; have HB1 : Hid (Below W.heap.size W w1) := below2 HBX.out hb1; clear hb1)
      | (go_at_call 8; refine (least_any (HGL.out.next HB1.out)).mono ?_; rintro z2 w2 ⟨rfl, hb2⟩; have HB2 : Hid (Below W.heap.size W w2) := below2 HB1.out hb2; clear hb2)
      | fail)
    go_ret
    exact ⟨rfl, HB2.out⟩
  obtain ⟨-, dN⟩ := setNew hS hG bX dp l he
  obtain ⟨k1, hk1, hk15⟩ := fewK fi
  obtain ⟨k2, hk2, hk25⟩ := fewK th
  have dF1 : ∀ w, Calls Tryz.prog 11 #[.int .i64 fi] w fun z w' => z = .returned (.int .i64 (k1 : Int)) ∧ Below w.heap.size w w' := fun w => by rw [← hk1]; exact few_any fi w
  have dF2 : ∀ w, Calls Tryz.prog 11 #[.int .i64 th] w fun z w' => z = .returned (.int .i64 (k2 : Int)) ∧ Below w.heap.size w w' := fun w => by rw [← hk2]; exact few_any th w
  have HON : Hid (∀ w1 g K S, Mz w1 (fun b => (W.alloc (.cells #[.slice iq c.ins.length ia, .slice eq c.ens.length ea, .slice tq c.txs.length ta, .int .i64 c.main, .slice nq inp.length na, .int .i64 dp, .int .i64 l, .int .i64 fi, .int .i64 th] 33)).heap.size ≤ b) g K S → Below (W.alloc (.cells #[.slice iq c.ins.length ia, .slice eq c.ens.length ea, .slice tq c.txs.length ta, .int .i64 c.main, .slice nq inp.length na, .int .i64 dp, .int .i64 l, .int .i64 fi, .int .i64 th] 33)).heap.size (W.alloc (.cells #[.slice iq c.ins.length ia, .slice eq c.ens.length ea, .slice tq c.txs.length ta, .int .i64 c.main, .slice nq inp.length na, .int .i64 dp, .int .i64 l, .int .i64 fi, .int .i64 th] 33)) w1 → On1 W w1 g K S [.slice iq c.ins.length ia, .slice eq c.ens.length ea, .slice tq c.txs.length ta, .int .i64 c.main, .slice nq inp.length na, .int .i64 dp, .int .i64 l, .int .i64 fi, .int .i64 th]) := fun w1 g K S hm hb => on_new hm hXs fX bX hb (by have := hG.tabs.size; omega)
  clear hS hG bX fX hXs hk1 hk2
  go_enter Tryz.func4, Tryz.ntmps4
  go_wp2_with (first
    | (go_at_call 7; refine dN.mono ?_; rintro z1 w1 ⟨g, rfl, H1⟩; obtain ⟨K, hM1, -, -, -, -, hb1⟩ := H1.out; have HO1 : Hid (On1 W w1 g K (msN (enAt c.ens c.main.toNat) c.main) [.slice iq c.ins.length ia, .slice eq c.ens.length ea, .slice tq c.txs.length ta, .int .i64 c.main, .slice nq inp.length na, .int .i64 dp, .int .i64 l, .int .i64 fi, .int .i64 th]) := HON.out _ _ _ _ hM1 hb1; obtain ⟨x7, -⟩ := HO1.out.x.cell 7 _ rfl; clear H1 hM1 hb1 HON)
    | (go_at_call 11; refine (dF1 _).mono ?_; rintro z2 w2 ⟨rfl, hb2⟩; have HO2 : Hid (On1 W w2 g K (msN (enAt c.ens c.main.toNat) c.main) [.slice iq c.ins.length ia, .slice eq c.ens.length ea, .slice tq c.txs.length ta, .int .i64 c.main, .slice nq inp.length na, .int .i64 dp, .int .i64 l, .int .i64 fi, .int .i64 th]) := HO1.out.next hb2; clear hb2 HO1 dF1)
    | (go_at_call 15; refine (On1.run HO2.out k1 (by omega) (by show 0 + 4200 * k1 ≤ 900000000; omega)).mono ?_; rintro z3 w3 ⟨rfl, HO3⟩; obtain ⟨U3, hU3, -⟩ := HO3.out.m; obtain ⟨U2, hU2, -⟩ := HO2.out.m; have HOT : Hid ((mrunS K k1 (msN (enAt c.ens c.main.toNat) c.main)).1.out.length ≤ 0 + 4200 * k1 ∧ KOk K) := ⟨run_out hU2.kok.1 k1 hU2.kok.2.1 hU2.kok.2.2.1, hU2.kok.1⟩; have HS3 : Hid (StOk K (mrunS K k1 (msN (enAt c.ens c.main.toNat) c.main)).1 ∧ Hp.usedS (mrunS K k1 (msN (enAt c.ens c.main.toNat) c.main)).1.hp ≤ K.lim) := ⟨hU3.kok.2.1, hU3.kok.2.2.1⟩; clear hU2 hU3 HO2 U2 U3; generalize mrunS K k1 (msN (enAt c.ens c.main.toNat) c.main) = R1 at HO3 HOT HS3 ⊢; obtain ⟨S1, Y1, o1⟩ := R1)
    | (go_at_call 16; refine (On1.clone HO3.out (by have := HOT.out.1; omega)).mono ?_; rintro z4 w4 ⟨rfl, H4⟩; obtain ⟨K', A4, B4, hT4, hx4⟩ := H4.out; have HT4 : Hid _ := hT4; have HX4 : Hid _ := hx4; obtain ⟨x8, -⟩ := hx4.cell 8 _ rfl; clear hT4 hx4 H4)
    | (go_at_call 11; refine (dF2 _).mono ?_; rintro z5 w5 ⟨rfl, hb5⟩; have HT5 : Hid _ := HT4.out.next hb5; clear hb5 HT4 HX4 dF2)
    | (go_at_call 15; (refine (Tw2.run HT5.out k2 (by omega) (by have := HOT.out.1; show S1.out.length + 4200 * k2 ≤ 900000000; have h9 : S1.out.length ≤ 0 + 4200 * k1 := this; omega)).mono ?_; rintro z6 w6 ⟨rfl, H6⟩; unfold ydV yl))
    | fail)
  obtain ⟨⟨A6, hT6⟩, -⟩ := H6.out
  have hR0 := RuI.start hT6 (by have h9 : S1.out.length ≤ 0 + 4200 * k1 := HOT.out.1; omega)
  have HR0 : Hid _ := hR0
  generalize w3.heap.size = gb at HR0 hR0 ⊢
  generalize hBy : w6.heap.size = By at HR0 hR0 ⊢
  have HKK : Hid (KOk K) := HOT.out.2
  clear hR0 hT6 H6 HT5 x7 x8 HO3 HS3 HOT
  go_loopw [10, 11] (fun vy vi wr => ∃ (i : Nat) (Sb : Ms) (yes : Bool) (z : Yd) (B' : Nat → Prop), i ≤ k2 ∧ vy = .bool yes ∧ vi = .int .i64 (i : Int) ∧ Hid (RuI W wr g gb K K' k2 S1 i Sb yes z By (By + 1) A6 B')) (fun _ vi _ => k2 - (intOf vi).toNat)
  case atStart => exact ⟨0, S1, false, yd0, _, Nat.zero_le _, rfl, rfl, HR0⟩
  case round =>
    clear HR0
    obtain ⟨i, Sb, yes, z, B', hi, rfl, rfl, hI⟩ := hrel
    have i0 : (0 : Int) ≤ (i : Int) := Int.natCast_nonneg _
    by_cases hlt : i < k2
    case neg =>
      obtain rfl : i = k2 := by omega
      have hd := RuR.done hI.out.r (.inl (Nat.le_refl _))
      have HT : Hid _ := hI.out.t
      have hy := hI.out.fy
      have hz := hI.out.fz
      have hoo : Sb.out.length ≤ 100000000 := by have := hI.out.o; omega
      rw [hd] at hy HT ⊢
      obtain ⟨zh, zb, zk, zn, zs⟩ := z
      obtain ⟨y0, -⟩ := hy.cell 0 _ rfl
      obtain ⟨y1, -⟩ := hy.cell 1 _ rfl
      obtain ⟨y2, -⟩ := hy.cell 2 _ rfl
      obtain ⟨y3, -⟩ := hy.cell 3 _ rfl
      obtain ⟨y4, -⟩ := hy.cell 4 _ rfl
      obtain ⟨v0, -⟩ := hz.cell 0 _ rfl
      obtain ⟨v1, -⟩ := hz.cell 1 _ rfl
      obtain ⟨v2, -⟩ := hz.cell 2 _ rfl
      obtain ⟨v3, -⟩ := hz.cell 3 _ rfl
      obtain ⟨v4, -⟩ := hz.cell 4 _ rfl
      clear hy hz hd hI
      have HTS : Hid _ := HT.out
      clear HT
      go_wp2_with (first
        | (go_at_call 17; refine (Mz.save HTS.out.a hoo).mono ?_; rintro e9 w9 ⟨rfl, hb9⟩; have HT9 : Hid _ := HTS.out.next hb9; clear hb9 HTS)
        | (go_at_call 17; refine (Mz.save HT9.out.b hoo).mono ?_; rintro e10 w10 ⟨rfl, hb10⟩; have HT10 : Hid _ := HT9.out.next hb10; clear hb10 HT9)
        | (go_at_call 18; refine (Mz.steps HT10.out.a).mono ?_; rintro e11 w11 ⟨rfl, hb11⟩; have HT11 : Hid _ := HT10.out.next hb11; clear hb11 HT10)
        | (go_at_call 18; refine (Mz.steps HT11.out.b).mono ?_; rintro e12 w12 ⟨rfl, hb12⟩; have HT12 : Hid _ := HT11.out.next hb12; clear hb12 HT11)
        | (go_at_call 8; refine (least_any (Mz.kok HT12.out.a).2.2.2).mono ?_; rintro e13 w13 ⟨rfl, hb13⟩; have HB13 : Hid (Below W.heap.size W w13) := below2 HT12.out.bl hb13; clear hb13)
        | fail)
      go_ret
      exact ⟨rfl, HB13.out⟩
    have i1 : (i : Int) < (k2 : Int) := Int.ofNat_lt.2 hlt
    cases yes with
    | true =>
      have hd := RuR.done hI.out.r (.inr (.inl rfl))
      have HT : Hid _ := hI.out.t
      have hy := hI.out.fy
      have hz := hI.out.fz
      have hoo : Sb.out.length ≤ 100000000 := by have := hI.out.o; omega
      rw [hd] at hy HT ⊢
      obtain ⟨zh, zb, zk, zn, zs⟩ := z
      obtain ⟨y0, -⟩ := hy.cell 0 _ rfl
      obtain ⟨y1, -⟩ := hy.cell 1 _ rfl
      obtain ⟨y2, -⟩ := hy.cell 2 _ rfl
      obtain ⟨y3, -⟩ := hy.cell 3 _ rfl
      obtain ⟨y4, -⟩ := hy.cell 4 _ rfl
      obtain ⟨v0, -⟩ := hz.cell 0 _ rfl
      obtain ⟨v1, -⟩ := hz.cell 1 _ rfl
      obtain ⟨v2, -⟩ := hz.cell 2 _ rfl
      obtain ⟨v3, -⟩ := hz.cell 3 _ rfl
      obtain ⟨v4, -⟩ := hz.cell 4 _ rfl
      clear hy hz hd hI
      have HTS : Hid _ := HT.out
      clear HT
      go_wp2_with (first
        | (go_at_call 17; refine (Mz.save HTS.out.a hoo).mono ?_; rintro e9 w9 ⟨rfl, hb9⟩; have HT9 : Hid _ := HTS.out.next hb9; clear hb9 HTS)
        | (go_at_call 17; refine (Mz.save HT9.out.b hoo).mono ?_; rintro e10 w10 ⟨rfl, hb10⟩; have HT10 : Hid _ := HT9.out.next hb10; clear hb10 HT9)
        | (go_at_call 18; refine (Mz.steps HT10.out.a).mono ?_; rintro e11 w11 ⟨rfl, hb11⟩; have HT11 : Hid _ := HT10.out.next hb11; clear hb11 HT10)
        | (go_at_call 18; refine (Mz.steps HT11.out.b).mono ?_; rintro e12 w12 ⟨rfl, hb12⟩; have HT12 : Hid _ := HT11.out.next hb12; clear hb12 HT11)
        | (go_at_call 8; refine (least_any (Mz.kok HT12.out.a).2.2.2).mono ?_; rintro e13 w13 ⟨rfl, hb13⟩; have HB13 : Hid (Below W.heap.size W w13) := below2 HT12.out.bl hb13; clear hb13)
        | fail)
      go_ret
      exact ⟨rfl, HB13.out⟩
    | false =>
      have dR := Mz.result hI.out.t.b
      unfold runV at dR
      have q1 := fldR (.int .i64 Sb.ph) (.int .i64 Sb.tr) (.string ⟨Sb.out.toArray⟩) (.int .i64 (Sb.rd : Int)) (.int .i64 Sb.steps) (.slice none 0 0) (.slice (some ⟨wr.heap.size + 1, 0, none⟩) (Sb.hp.length + 1) (Sb.hp.length + 1))
      have q2 := fldO (.int .i64 Sb.ph) (.int .i64 Sb.tr)
      by_cases hp : Sb.ph = 0
      case neg =>
        have hp' : (Sb.ph == 0) = false := by simpa using hp
        have hd := RuR.done hI.out.r (.inr (.inr hp))
        have HT : Hid _ := hI.out.t
        have hy := hI.out.fy
        have hz := hI.out.fz
        have hoo : Sb.out.length ≤ 100000000 := by have := hI.out.o; omega
        rw [hd] at hy HT ⊢
        obtain ⟨zh, zb, zk, zn, zs⟩ := z
        obtain ⟨y0, -⟩ := hy.cell 0 _ rfl
        obtain ⟨y1, -⟩ := hy.cell 1 _ rfl
        obtain ⟨y2, -⟩ := hy.cell 2 _ rfl
        obtain ⟨y3, -⟩ := hy.cell 3 _ rfl
        obtain ⟨y4, -⟩ := hy.cell 4 _ rfl
        obtain ⟨v0, -⟩ := hz.cell 0 _ rfl
        obtain ⟨v1, -⟩ := hz.cell 1 _ rfl
        obtain ⟨v2, -⟩ := hz.cell 2 _ rfl
        obtain ⟨v3, -⟩ := hz.cell 3 _ rfl
        obtain ⟨v4, -⟩ := hz.cell 4 _ rfl
        clear hy hz hd hI
        go_wp2_with (first
          | (go_at_call 9; refine dR.mono ?_; rintro e8 w8 ⟨rfl, -, hb8⟩; have HTS : Hid _ := HT.out.next hb8; have kk := fun {p : Addr} {u : Value} (q : wr.cell? p = some u) => (hb8.cell (p := p) (block_lt_of_cell q)).trans q; replace y0 := kk y0; replace y1 := kk y1; replace y2 := kk y2; replace y3 := kk y3; replace y4 := kk y4; replace v0 := kk v0; replace v1 := kk v1; replace v2 := kk v2; replace v3 := kk v3; replace v4 := kk v4; clear kk hb8 HT dR)
          | (go_at_call 17; refine (Mz.save HTS.out.a hoo).mono ?_; rintro e9 w9 ⟨rfl, hb9⟩; have HT9 : Hid _ := HTS.out.next hb9; clear hb9 HTS)
          | (go_at_call 17; refine (Mz.save HT9.out.b hoo).mono ?_; rintro e10 w10 ⟨rfl, hb10⟩; have HT10 : Hid _ := HT9.out.next hb10; clear hb10 HT9)
          | (go_at_call 18; refine (Mz.steps HT10.out.a).mono ?_; rintro e11 w11 ⟨rfl, hb11⟩; have HT11 : Hid _ := HT10.out.next hb11; clear hb11 HT10)
          | (go_at_call 18; refine (Mz.steps HT11.out.b).mono ?_; rintro e12 w12 ⟨rfl, hb12⟩; have HT12 : Hid _ := HT11.out.next hb12; clear hb12 HT11)
          | (go_at_call 8; refine (least_any (Mz.kok HT12.out.a).2.2.2).mono ?_; rintro e13 w13 ⟨rfl, hb13⟩; have HB13 : Hid (Below W.heap.size W w13) := below2 HT12.out.bl hb13; clear hb13)
          | fail)
        go_ret
        exact ⟨rfl, HB13.out⟩
      have hp' : (Sb.ph == 0) = true := by simpa using hp
      have HP : Hid (Sb.ph = 0) := hp
      clear hp
      go_wp2_with (first
        | (go_at_call 9; refine dR.mono ?_; rintro e8 w8 ⟨rfl, -, hb8⟩; have HI8 : Hid _ := hI.out.next hb8; clear hb8 dR)
        | (go_at_call 12; refine (RuI.step HI8.out HP.out hlt hk25).mono ?_; rintro e9 w9 ⟨rfl, H9⟩; obtain ⟨hz9, B9, hR9⟩ := H9.out; unfold ydV yl; have HR9 : Hid _ := hR9; obtain ⟨c0, g0⟩ := hz9.cell 0 _ rfl; obtain ⟨c1, g1⟩ := hz9.cell 1 _ rfl; obtain ⟨c2, g2⟩ := hz9.cell 2 _ rfl; obtain ⟨c3, g3⟩ := hz9.cell 3 _ rfl; obtain ⟨c4, g4⟩ := hz9.cell 4 _ rfl; clear hz9 hR9 H9)
        | fail)
      refine ⟨⟨i + 1, (mstepS K Sb).1, (mstepS K Sb).2.2, (mstepS K Sb).2.1, B9, hlt, rfl, by push_cast; rfl, HR9.out⟩, ?_⟩
      show k2 - ((i : Int) + 1).toNat < k2 - ((i : Int)).toNat
      omega
end Go.Proofs.YtahdkffijlfmnaaGreatDoor
