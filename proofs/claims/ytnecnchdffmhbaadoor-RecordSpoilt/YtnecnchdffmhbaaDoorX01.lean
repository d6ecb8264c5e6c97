import Derived.Test.YtnecnchdffmhbaaDoorV01
import Derived.Test.YtnecnchdffmhbaaDoorV02
import Derived.Test.YtnecnchdffmhbaaDoorO21
import Derived.Test.YtnecnchdffmhbaaDoorV03
import Derived.Test.YtnecnchdffmhbaaDoorX00
import Derived.Lib.QuietBelow
namespace Go.Proofs.YtnecnchdffmhbaaDoor
open Go.RowKit

theorem conv1 (X : World) (a : Int) (c : UInt8) (ha : a = (c.toNat : Int)) : (convert 44 9 (.slice (some ⟨X.heap.size, 0, none⟩) 1 1)).run Tryd.prog (X.alloc (.cells #[.int .u8 a] 5)) = .ok (.string ⟨#[c]⟩) (X.alloc (.cells #[.int .u8 a] 5)) := by
  subst ha
  exact Lx.conv_own (base := X.heap.size) (n := 1) (l := [c]) ⟨rfl, Or.inr ⟨X.heap.size, 1, _, rfl, Nat.le_refl _, heap_alloc_new X _, Nat.le_refl _, by unfold maxLen; omega, rfl, rfl⟩⟩
set_option maxRecDepth 100000 in
set_option maxHeartbeats 4000000 in
theorem spoilt_law (W : World) (ph tr : Int) (out : ByteArray) (inp : Int) (q : Option Addr) (cap : Nat) (L : List Ev) (at_ to_ : Int) (hT : SumT W) (hI : RcIn W q cap L) (hm : L.length ≤ 2199023255488) (ho : out.size ≤ 140737488355328) (hat : -9223372036854775808 ≤ at_ ∧ at_ ≤ 9223372036854775807) (hto : 0 ≤ to_ ∧ to_ ≤ 255) :
    Calls Tryd.prog 5 #[.agg #[.int .i64 ph, .int .i64 tr, .string out, .int .i64 inp, .slice q L.length cap, .int .i64 at_, .int .u8 to_]] W fun e w' => e = .returned (.bool true) ∧ Below W.heap.size W w' := by
  obtain ⟨X1, hX1⟩ : ∃ X, W.alloc (.cells #[.int .i64 ph, .int .i64 tr, .string out, .int .i64 inp, .slice q L.length cap, .int .i64 at_, .int .u8 to_] 39) = X := ⟨_, rfl⟩
  obtain ⟨A, hA⟩ : ∃ A, W.heap.size = A := ⟨_, rfl⟩
  have b1 : Below W.heap.size W X1 := by rw [← hX1]; exact (Below.refl _ W).alloc (Nat.le_refl _) _
  have f1 : Full X1 A 39 [.int .i64 ph, .int .i64 tr, .string out, .int .i64 inp, .slice q L.length cap, .int .i64 at_, .int .u8 to_] := by rw [← hX1, ← hA]; exact Full.new W _ _
  have R1 : Row X1 X1.heap.size q L.length (L.flatMap ec) := (hI.row.below b1 (Nat.le_refl _)).up b1.size
  obtain ⟨rc, hrc⟩ : ∃ rc : Rc, (⟨ph, tr, out.data.toList, inp, L⟩ : Rc) = rc := ⟨_, rfl⟩
  have HE := encode_any X1 ph tr out inp q cap L (hT.next b1) ⟨R1, hI.cap, hI.sz, hI.vn, hI.most⟩ ho
  obtain ⟨n, hln⟩ : ∃ n, L.length = n := ⟨_, rfl⟩
  unfold recC EncP at HE
  rw [hrc, hln] at HE
  have HI : Hid ((∀ e ∈ L, EvSz e) ∧ (∀ e ∈ L, -9223372036854775808 ≤ e.vn ∧ e.vn ≤ 9223372036854775807) ∧ L.length = n ∧ n ≤ 2199023255488) := ⟨hI.sz, hI.vn, hln, hln ▸ hm⟩
  have HRc : Hid ((⟨ph, tr, out.data.toList, inp, L⟩ : Rc) = rc) := hrc
  have HT : Hid (SumT W) := hT
  have HA : Hid (W.heap.size = A) := hA
  rw [hln] at hX1 f1 R1 ⊢
  have H1 : Hid (Below W.heap.size W X1 ∧ Full X1 A 39 [.int .i64 ph, .int .i64 tr, .string out, .int .i64 inp, .slice q n cap, .int .i64 at_, .int .u8 to_] ∧ Row X1 X1.heap.size q n (L.flatMap ec)) := ⟨b1, f1, R1⟩
  obtain ⟨⟨⟨⟨r0, -⟩, ⟨r1, -⟩, r2, -⟩, ⟨r3, -⟩, ⟨r4, -⟩, r5, -⟩, -⟩ := f1.seven2
  clear b1 f1 R1 hI hm ho hln hrc hT
  go_enter Tryd.func5, Tryd.ntmps5
  go_wp2_with fail
  refine HE.mono ?_
  rintro e w3 ⟨rfl, hb3⟩
  have H3 : Hid (Below W.heap.size W w3 ∧ Full w3 A 39 [.int .i64 ph, .int .i64 tr, .string out, .int .i64 inp, .slice q n cap, .int .i64 at_, .int .u8 to_] ∧ Row w3 w3.heap.size q n (L.flatMap ec)) := ⟨H1.out.1.trans (hb3.mono H1.out.1.size), H1.out.2.1.next hb3, (H1.out.2.2.below hb3 (Nat.le_refl _)).up hb3.size⟩
  clear HE hb3 H1 hX1 r0 r1 r2 r3 r4 r5
  by_cases h0 : (encS rc).2 = 0
  case neg =>
    obtain ⟨hb0, he⟩ := encS_no h0
    rw [hb0]
    have HK := known_any w3 (HT.out.next H3.out.1)
    obtain ⟨er, her⟩ : ∃ er, (encS rc).2 = er := ⟨_, rfl⟩
    rw [her] at h0 he ⊢
    clear her hb0
    rcases he with rfl | rfl
    all_goals
      clear h0
      go_wp2_with fail
      refine HK.mono ?_
      rintro e w5 ⟨rfl, hb5⟩
      have H5 : Hid (Below W.heap.size W w5) := H3.out.1.trans (hb5.mono H3.out.1.size)
      clear HK hb5 H3
      go_wp2_with fail
      go_ret
      exact ⟨rfl, (by first | exact H5.out | (rw [← HA.out]; exact H5.out))⟩
  case pos =>
    have hvn : ∀ e ∈ rc.evs, -9223372036854775808 ≤ e.vn ∧ e.vn ≤ 9223372036854775807 := by rw [← HRc.out]; exact HI.out.2.1
    have hfl := file_le h0 hvn
    have hfg := file_ge h0
    obtain ⟨fb, hfb⟩ : ∃ fb : ByteArray, (⟨(encS rc).1.toArray⟩ : ByteArray) = fb := ⟨_, rfl⟩
    have hfbl : fb.data.toList = (encS rc).1 := by rw [← hfb]
    rw [hfb, h0]
    have hfs : fb.size = (encS rc).1.length := by rw [Lib.size_eq, hfbl]
    obtain ⟨r, hr⟩ : ∃ r, Int.tmod at_ ((fb.size : Int) - 2) = r := ⟨_, rfl⟩
    obtain ⟨hr1, hr2⟩ := cut_at at_ fb.size (by omega)
    rw [hr] at hr1 hr2
    obtain ⟨nn, hnn⟩ : ∃ nn : Nat, (nn : Int) = (if r < 0 then -r else r) + 2 := ⟨((if r < 0 then -r else r) + 2).toNat, by split <;> omega⟩
    have hn2 : 2 ≤ nn := by split at hnn <;> omega
    have hnl : nn < fb.size := by split at hnn <;> omega
    obtain ⟨tu, htu⟩ : ∃ u : UInt8, (u.toNat : Int) = to_ := ⟨UInt8.ofNat to_.toNat, by rw [UInt8.toNat_ofNat']; omega⟩
    obtain ⟨c0, hc0⟩ : ∃ c, fb[nn]'hnl = c := ⟨_, rfl⟩
    have hcl : fb.data.toList[nn]? = some c0 := by rw [List.getElem?_eq_getElem (by rw [← Lib.size_eq]; exact hnl), ← hc0]; rfl
    have hct := UInt8.toNat_lt c0
    obtain ⟨t1, ht1⟩ : ∃ x : ByteArray, x.data.toList = fb.data.toList.take nn := ⟨⟨(fb.data.toList.take nn).toArray⟩, rfl⟩
    obtain ⟨t2, ht2⟩ : ∃ x : ByteArray, x.data.toList = fb.data.toList.drop (nn + 1) := ⟨⟨(fb.data.toList.drop (nn + 1)).toArray⟩, rfl⟩
    have R1 := sl_to (s := fb) (x := t1) (k := nn) (by omega) ht1
    have R2 := sl_from (s := fb) (x := t2) (k := nn + 1) (by omega) ht2
    rw [show (((nn + 1 : Nat)) : Int) = (nn : Int) + 1 by omega] at R2
    obtain ⟨tm, htm⟩ : ∃ x : ByteArray, (⟨#[tu]⟩ : ByteArray) = x := ⟨_, rfl⟩
    have html : tm.data.toList = [tu] := by rw [← htm]
    have z1 : t1.size = nn := by rw [Lib.size_eq, ht1, List.length_take, ← Lib.size_eq]; omega
    have z2 : t2.size ≤ fb.size := by rw [Lib.size_eq, ht2, List.length_drop, ← Lib.size_eq]; omega
    have zm : tm.size = 1 := by rw [Lib.size_eq, html]; rfl
    have y1 : t1.size + tm.size ≤ 9223372036854775807 := by omega
    have y2 : (t1 ++ tm).size + t2.size ≤ 9223372036854775807 := by rw [ByteArray.size_append]; omega
    obtain ⟨cb, hcb⟩ : ∃ x : ByteArray, t1 ++ tm ++ t2 = x := ⟨_, rfl⟩
    have hcbl : cb.data.toList = fb.data.toList.set nn tu := by
      rw [← hcb, cat_list, cat_list, ht1, ht2, html, List.set_eq_take_append_cons_drop, if_pos (by rw [← Lib.size_eq]; exact hnl), List.append_assoc]
      rfl
    have hcbs : cb.size = fb.size := by rw [Lib.size_eq, hcbl, List.length_set, ← Lib.size_eq]
    have HSp : Hid (2 + (whl rc.evs.length rc.evs (nn - 2)).2 + 4 ≤ nn → c0 ≠ tu → salS cb.data.toList = (⟨0, 0, [], 0, rc.evs.take (whl rc.evs.length rc.evs (nn - 2)).1⟩, 2 + (whl rc.evs.length rc.evs (nn - 2)).2, 0) ∧ decS cb.data.toList = (rc0, 250)) := fun h4 hne => by
      rw [hcbl, hfbl]
      exact sal_spoilt h0 hvn nn hn2 (by omega) tu h4 (by rw [← hfbl, hcl]; exact fun e => hne (Option.some.inj e))
    obtain ⟨-, -, k3, k4⟩ := sal_cut h0 hvn nn hn2 (by omega)
    have HEv : Hid (∀ w, Calls Tryd.prog 13 #[.string fb, .int .i64 (rc.evs.length : Int), .int .i64 (nn : Int)] w fun e w' => e = .returned (.tuple #[.int .i64 ((whl rc.evs.length rc.evs (nn - 2)).1 : Int), .bool false, .bool (decide (2 + (whl rc.evs.length rc.evs (nn - 2)).2 + 4 ≤ nn))]) ∧ Below w.heap.size w w') := fun w => (events_any w rc h0 hvn fb hfbl nn hn2 hnl (by omega)).mono fun e w' q => ⟨q.1, by rw [q.2]; exact Below.refl _ _⟩
    obtain ⟨wx, hwx⟩ : ∃ wx, whl rc.evs.length rc.evs (nn - 2) = wx := ⟨_, rfl⟩
    rw [hwx] at k3 k4
    simp only [hwx] at HEv HSp
    obtain ⟨wn, mx⟩ := wx
    simp only at k3 k4 HEv HSp
    have hevs : rc.evs = L := by rw [← HRc.out]
    rw [hevs, HI.out.2.2.1] at k4 HEv
    rw [hevs] at HSp
    have HB : Hid (cb.size ≤ 140737488355328 ∧ wn ≤ n ∧ mx + 2 ≤ nn) := ⟨by omega, k4, k3⟩
    have qf : (fb.size : Int) ≤ 100000000000 := by omega
    have qf0 : (10 : Int) ≤ (fb.size : Int) := by omega
    have qf1 : ¬ (fb.size : Int) < 10 := by omega
    have qa0 : -9223372036854775808 ≤ at_ := hat.1
    have qa1 : at_ ≤ 9223372036854775807 := hat.2
    have qm0 : 2 + (mx : Int) ≤ (nn : Int) := by omega
    have qnn : (nn : Int) ≤ 100000000000 := by omega
    have qnn0 : (0 : Int) ≤ (nn : Int) := by omega
    have qnl : (nn : Int) < (fb.size : Int) := by omega
    have Rcv := fun X : World => conv1 X to_ tu htu.symm
    rw [htm] at Rcv
    have HCv : Hid (∀ X : World, (convert 44 9 (.slice (some ⟨X.heap.size, 0, none⟩) 1 1)).run Tryd.prog (X.alloc (.cells #[.int .u8 to_] 5)) = .ok (.string tm) (X.alloc (.cells #[.int .u8 to_] 5))) := Rcv
    have HEvx := HEv.out w3
    have HTo : Hid ((tu.toNat : Int) = to_) := htu
    have HCb : Hid (t1 ++ tm ++ t2 = cb) := hcb
    clear Rcv h0 hfl hfg hfb hfbl hfs hn2 k3 k4 hwx hevs hvn hat hto hcl ht1 ht2 htm html z1 z2 zm hcbl hcbs htu hcb
    obtain ⟨⟨⟨⟨r0, -⟩, ⟨r1, -⟩, r2, -⟩, ⟨r3, -⟩, ⟨r4, -⟩, r5, -⟩, -⟩ := H3.out.2.1.seven2
    rcases Int.lt_or_le r 0 with hneg | hpos
    · rw [if_pos hneg] at hnn
      have hq := hnn.symm
      clear hnn
      obtain ⟨bd, hbd⟩ : ∃ bd, decide (2 + mx + 4 ≤ nn) = bd := ⟨_, rfl⟩
      have HBd : Hid (decide (2 + mx + 4 ≤ nn) = bd) := hbd
      rw [hbd] at HEvx
      clear hbd
      go_wp2_with fail
      refine HEvx.mono ?_
      rintro e w4 ⟨rfl, hb4⟩
      have H4 : Hid (Below W.heap.size W w4 ∧ Full w4 A 39 [.int .i64 ph, .int .i64 tr, .string out, .int .i64 inp, .slice q n cap, .int .i64 at_, .int .u8 to_] ∧ Row w4 w4.heap.size q n (L.flatMap ec)) := ⟨H3.out.1.trans (hb4.mono H3.out.1.size), H3.out.2.1.next hb4, (H3.out.2.2.below hb4 (Nat.le_refl _)).up hb4.size⟩
      have H4d : Hid (Below W.heap.size W w4.drew ∧ Full w4.drew A 39 [.int .i64 ph, .int .i64 tr, .string out, .int .i64 inp, .slice q n cap, .int .i64 at_, .int .u8 to_] ∧ Row w4.drew w4.drew.heap.size q n (L.flatMap ec)) := by
        have nb : Below w4.heap.size w4 w4.drew := (Below.refl _ w4).drew
        exact ⟨H4.out.1.trans (nb.mono H4.out.1.size), H4.out.2.1.next nb, (H4.out.2.2.below nb (Nat.le_refl _)).up nb.size⟩
      clear HEvx hb4 H3 r0 r1 r2 r3 r4 r5
      obtain ⟨-, r6, -⟩ := H4.out.2.1.seven2
      go_upto_region 11 with fail
      have HKn : ∀ w, Below w4.heap.size w4 w → Calls Tryd.prog 12 #[] w fun e w' => e = .returned (.bool true) ∧ Below w.heap.size w w' := fun w hb => known_any w ((HT.out.next H4.out.1).next hb)
      cases bd with
      | false =>
        go_region
        all_goals
          have HK := HKn w4.drew (Below.refl _ _).drew
          clear HKn
          go_wp2_with fail
          refine HK.mono ?_
          rintro e w5 ⟨rfl, hb5⟩
          have H5 : Hid (Below W.heap.size W w5) := H4d.out.1.trans (hb5.mono H4d.out.1.size)
          clear HK hb5
          go_wp2_with fail
          go_ret
          exact ⟨rfl, (by first | exact H5.out | (rw [← HA.out]; exact H5.out))⟩
      | true =>
        by_cases hcc : (c0.toNat : Int) = to_
        · go_region
          all_goals
            have HK := HKn w4.drew (Below.refl _ _).drew
            clear HKn
            go_wp2_with fail
            refine HK.mono ?_
            rintro e w5 ⟨rfl, hb5⟩
            have H5 : Hid (Below W.heap.size W w5) := H4d.out.1.trans (hb5.mono H4d.out.1.size)
            clear HK hb5
            go_wp2_with fail
            go_ret
            exact ⟨rfl, (by first | exact H5.out | (rw [← HA.out]; exact H5.out))⟩
        · have hcb : ((c0.toNat : Int) == to_) = false := by rw [beq_eq_false_iff_ne]; exact hcc
          have HSx : Hid (salS cb.data.toList = (⟨0, 0, [], 0, L.take wn⟩, 2 + mx, 0) ∧ decS cb.data.toList = (rc0, 250)) := HSp.out (of_decide_eq_true HBd.out) (fun e => hcc (by rw [e]; exact HTo.out))
          clear HKn
          go_region
          all_goals
            clear r6 H4
            generalize w4.drew = Y4 at H4d ⊢
            obtain ⟨-, r6, -⟩ := H4d.out.2.1.seven2
            have RC : (convert 44 9 (.slice (some ⟨Y4.heap.size, 0, none⟩) 1 1)).run Tryd.prog (Y4.alloc (.cells #[.int .u8 to_] 5)).drew = .ok (.string tm) (Y4.alloc (.cells #[.int .u8 to_] 5)).drew := HCv.out Y4.drew
            have hcbe := HCb.out
            have qw1 : IntKind.i64.wrap ((nn : Int) + 1) = (nn : Int) + 1 := by rw [IntKind.wrap_i64]; omega
            have y3 : ¬ 9223372036854775807 < t1.size + tm.size := by omega
            have y4 : ¬ 9223372036854775807 < t1.size + tm.size + t2.size := by rw [ByteArray.size_append] at y2; omega
            have n5 : Below Y4.heap.size Y4 (Y4.alloc (.cells #[.int .u8 to_] 5)).drew := ((Below.refl _ Y4).alloc (Nat.le_refl _) _).drew
            have H5 : Hid (Below W.heap.size W (Y4.alloc (.cells #[.int .u8 to_] 5)).drew ∧ Full (Y4.alloc (.cells #[.int .u8 to_] 5)).drew A 39 [.int .i64 ph, .int .i64 tr, .string out, .int .i64 inp, .slice q n cap, .int .i64 at_, .int .u8 to_] ∧ Row (Y4.alloc (.cells #[.int .u8 to_] 5)).drew (Y4.alloc (.cells #[.int .u8 to_] 5)).drew.heap.size q n (L.flatMap ec)) := ⟨H4d.out.1.trans (n5.mono H4d.out.1.size), H4d.out.2.1.next n5, (H4d.out.2.2.below n5 (Nat.le_refl _)).up n5.size⟩
            clear n5
            go_upto_region 13 with fail
            go_region_law (first | fail)
            all_goals
              clear r6 RC H4d R1 R2 y1 y2 y3 y4 qw1
              generalize (Y4.alloc (.cells #[.int .u8 to_] 5)).drew = Y5 at H5 ⊢
              have HS := salvage_any Y5 cb (HT.out.next H5.out.1) HB.out.1
              rw [HSx.out.1] at HS
              go_wp2_with fail
              refine HS.mono ?_
              rintro e w6 ⟨⟨v, rfl, hv⟩, hb6⟩
              obtain ⟨os, qs, cs, rfl, hos, hcs, hrs⟩ := hv.op
              have hwl : (L.take wn).length = wn := by rw [List.length_take]; have := HB.out.2.1; have := HI.out.2.2.1; omega
              simp only at hos hrs hcs
              rw [hwl] at hrs
              obtain rfl : os = ⟨#[]⟩ := ba_eq hos
              have hval : Value.agg (recC 0 0 ⟨#[]⟩ 0 qs (L.take wn).length cs) = .agg #[.int .i64 0, .int .i64 0, .string ⟨#[]⟩, .int .i64 0, .slice qs wn cs] := by rw [hwl]
              have hmx : (((2 + mx : Nat)) : Int) = 2 + (mx : Int) := by omega
              simp only [hval, hmx]
              obtain ⟨S, hS⟩ : ∃ S, w6.heap.size = S := ⟨_, rfl⟩
              obtain ⟨X6, hX6⟩ : ∃ X, w6.alloc (.cells #[.int .i64 0, .int .i64 0, .string ⟨#[]⟩, .int .i64 0, .slice qs wn cs] 28) = X := ⟨_, rfl⟩
              have n6 : Below w6.heap.size w6 X6 := by rw [← hX6]; exact (Below.refl _ _).alloc (Nat.le_refl _) _
              have f6 : Full X6 S 28 [.int .i64 0, .int .i64 0, .string ⟨#[]⟩, .int .i64 0, .slice qs wn cs] := by rw [← hX6, ← hS]; exact Full.new w6 _ _
              have n46 : Below Y5.heap.size Y5 X6 := hb6.trans (n6.mono hb6.size)
              have H6 : Hid (Below W.heap.size W X6 ∧ Full X6 A 39 [.int .i64 ph, .int .i64 tr, .string out, .int .i64 inp, .slice q n cap, .int .i64 at_, .int .u8 to_] ∧ Row X6 X6.heap.size q n (L.flatMap ec) ∧ Full X6 S 28 [.int .i64 0, .int .i64 0, .string ⟨#[]⟩, .int .i64 0, .slice qs wn cs] ∧ Row X6 X6.heap.size qs wn ((L.take wn).flatMap ec)) := ⟨H5.out.1.trans (n46.mono H5.out.1.size), H5.out.2.1.next n46, (H5.out.2.2.below n46 (Nat.le_refl _)).up n46.size, f6, (hrs.below n6 (Nat.le_refl _)).up n6.size⟩
              have HD := decode_any X6 cb (HT.out.next H6.out.1) HB.out.1
              rw [HSx.out.2] at HD
              clear HS hb6 hv hos hcs hrs n6 f6 n46 H5 hval hmx hwl
              go_wp2_with fail
              refine HD.mono ?_
              rintro e w8 ⟨⟨v, rfl, hv⟩, hb8⟩
              obtain ⟨oz, qz, cz, rfl, hoz, hcz, hrz⟩ := hv.op
              simp only [rc0] at hoz hrz hcz
              obtain rfl : oz = ⟨#[]⟩ := ba_eq hoz
              have hval : Value.agg (recC rc0.ph rc0.tr ⟨#[]⟩ rc0.inp qz rc0.evs.length cz) = .agg #[.int .i64 0, .int .i64 0, .string ⟨#[]⟩, .int .i64 0, .slice qz 0 cz] := rfl
              simp only [hval]
              obtain ⟨Z, hZ⟩ : ∃ Z, w8.heap.size = Z := ⟨_, rfl⟩
              obtain ⟨X8, hX8⟩ : ∃ X, w8.alloc (.cells #[.int .i64 0, .int .i64 0, .string ⟨#[]⟩, .int .i64 0, .slice qz 0 cz] 28) = X := ⟨_, rfl⟩
              have n8 : Below w8.heap.size w8 X8 := by rw [← hX8]; exact (Below.refl _ _).alloc (Nat.le_refl _) _
              have f8 : Full X8 Z 28 [.int .i64 0, .int .i64 0, .string ⟨#[]⟩, .int .i64 0, .slice qz 0 cz] := by rw [← hX8, ← hZ]; exact Full.new w8 _ _
              have n68 : Below X6.heap.size X6 X8 := hb8.trans (n8.mono hb8.size)
              have H8 : Hid (Below W.heap.size W X8 ∧ Full X8 A 39 [.int .i64 ph, .int .i64 tr, .string out, .int .i64 inp, .slice q n cap, .int .i64 at_, .int .u8 to_] ∧ Row X8 X8.heap.size q n (L.flatMap ec) ∧ Full X8 S 28 [.int .i64 0, .int .i64 0, .string ⟨#[]⟩, .int .i64 0, .slice qs wn cs] ∧ Row X8 X8.heap.size qs wn ((L.take wn).flatMap ec) ∧ Full X8 Z 28 [.int .i64 0, .int .i64 0, .string ⟨#[]⟩, .int .i64 0, .slice qz 0 cz]) := ⟨H6.out.1.trans (n68.mono H6.out.1.size), H6.out.2.1.next n68, (H6.out.2.2.1.below n68 (Nat.le_refl _)).up n68.size, H6.out.2.2.2.1.next n68, (H6.out.2.2.2.2.below n68 (Nat.le_refl _)).up n68.size, f8⟩
              have HSm := first_same X8 ph tr out inp L wn (by rw [HI.out.2.2.1]; exact HB.out.2.1) qs q cs cap H8.out.2.2.2.2.1 (by rw [HI.out.2.2.1]; exact H8.out.2.2.1) (by rw [HI.out.2.2.1]; have := HI.out.2.2.2; omega)
              rw [HI.out.2.2.1] at HSm
              unfold recC at HSm
              obtain ⟨⟨⟨⟨r0, -⟩, ⟨r1, -⟩, r2, -⟩, ⟨r3, -⟩, ⟨r4, -⟩, r5, -⟩, -⟩ := H8.out.2.1.seven2
              obtain ⟨-, -, s4, -⟩ := H8.out.2.2.2.1.five2
              clear HD hb8 hv hoz hcz hrz n8 f8 n68 H6 hval hX6
              go_wp2_with fail
              refine HSm.mono ?_
              rintro e w9 ⟨rfl, hb9⟩
              have H9 : Hid (Below W.heap.size W w9) := H8.out.1.trans (hb9.mono H8.out.1.size)
              have HK := known_any w9 (HT.out.next H9.out)
              clear r0 r1 r2 r3 r4 r5 s4 HSm hX8
              obtain ⟨⟨⟨r0, -⟩, ⟨r1, -⟩, r2, -⟩, ⟨r3, -⟩, r4, -⟩ := (H8.out.2.2.2.1.next hb9).five2
              obtain ⟨⟨⟨s0, -⟩, ⟨s1, -⟩, s2, -⟩, ⟨s3, -⟩, s4, -⟩ := (H8.out.2.2.2.2.2.next hb9).five2
              clear hb9
              go_wp2_with fail
              refine HK.mono ?_
              rintro e w10 ⟨rfl, hb10⟩
              have H10 : Hid (Below W.heap.size W w10) := H9.out.trans (hb10.mono H9.out.size)
              clear HK hb10 H8 H9 r0 r1 r2 r3 r4 s0 s1 s2 s3 s4
              go_wp2_with fail
              go_ret
              exact ⟨rfl, (by first | exact H10.out | (rw [← HA.out]; exact H10.out))⟩
    · rw [if_neg (show ¬ r < 0 by omega)] at hnn
      have hq := hnn.symm
      clear hnn
      obtain ⟨bd, hbd⟩ : ∃ bd, decide (2 + mx + 4 ≤ nn) = bd := ⟨_, rfl⟩
      have HBd : Hid (decide (2 + mx + 4 ≤ nn) = bd) := hbd
      rw [hbd] at HEvx
      clear hbd
      go_wp2_with fail
      refine HEvx.mono ?_
      rintro e w4 ⟨rfl, hb4⟩
      have H4 : Hid (Below W.heap.size W w4 ∧ Full w4 A 39 [.int .i64 ph, .int .i64 tr, .string out, .int .i64 inp, .slice q n cap, .int .i64 at_, .int .u8 to_] ∧ Row w4 w4.heap.size q n (L.flatMap ec)) := ⟨H3.out.1.trans (hb4.mono H3.out.1.size), H3.out.2.1.next hb4, (H3.out.2.2.below hb4 (Nat.le_refl _)).up hb4.size⟩
      have H4d : Hid (Below W.heap.size W w4.drew ∧ Full w4.drew A 39 [.int .i64 ph, .int .i64 tr, .string out, .int .i64 inp, .slice q n cap, .int .i64 at_, .int .u8 to_] ∧ Row w4.drew w4.drew.heap.size q n (L.flatMap ec)) := by
        have nb : Below w4.heap.size w4 w4.drew := (Below.refl _ w4).drew
        exact ⟨H4.out.1.trans (nb.mono H4.out.1.size), H4.out.2.1.next nb, (H4.out.2.2.below nb (Nat.le_refl _)).up nb.size⟩
      clear HEvx hb4 H3 r0 r1 r2 r3 r4 r5
      obtain ⟨-, r6, -⟩ := H4.out.2.1.seven2
      go_upto_region 11 with fail
      have HKn : ∀ w, Below w4.heap.size w4 w → Calls Tryd.prog 12 #[] w fun e w' => e = .returned (.bool true) ∧ Below w.heap.size w w' := fun w hb => known_any w ((HT.out.next H4.out.1).next hb)
      cases bd with
      | false =>
        go_region
        all_goals
          have HK := HKn w4.drew (Below.refl _ _).drew
          clear HKn
          go_wp2_with fail
          refine HK.mono ?_
          rintro e w5 ⟨rfl, hb5⟩
          have H5 : Hid (Below W.heap.size W w5) := H4d.out.1.trans (hb5.mono H4d.out.1.size)
          clear HK hb5
          go_wp2_with fail
          go_ret
          exact ⟨rfl, (by first | exact H5.out | (rw [← HA.out]; exact H5.out))⟩
      | true =>
        by_cases hcc : (c0.toNat : Int) = to_
        · go_region
          all_goals
            have HK := HKn w4.drew (Below.refl _ _).drew
            clear HKn
            go_wp2_with fail
            refine HK.mono ?_
            rintro e w5 ⟨rfl, hb5⟩
            have H5 : Hid (Below W.heap.size W w5) := H4d.out.1.trans (hb5.mono H4d.out.1.size)
            clear HK hb5
            go_wp2_with fail
            go_ret
            exact ⟨rfl, (by first | exact H5.out | (rw [← HA.out]; exact H5.out))⟩
        · have hcb : ((c0.toNat : Int) == to_) = false := by rw [beq_eq_false_iff_ne]; exact hcc
          have HSx : Hid (salS cb.data.toList = (⟨0, 0, [], 0, L.take wn⟩, 2 + mx, 0) ∧ decS cb.data.toList = (rc0, 250)) := HSp.out (of_decide_eq_true HBd.out) (fun e => hcc (by rw [e]; exact HTo.out))
          clear HKn
          go_region
          all_goals
            clear r6 H4
            generalize w4.drew = Y4 at H4d ⊢
            obtain ⟨-, r6, -⟩ := H4d.out.2.1.seven2
            have RC : (convert 44 9 (.slice (some ⟨Y4.heap.size, 0, none⟩) 1 1)).run Tryd.prog (Y4.alloc (.cells #[.int .u8 to_] 5)).drew = .ok (.string tm) (Y4.alloc (.cells #[.int .u8 to_] 5)).drew := HCv.out Y4.drew
            have hcbe := HCb.out
            have qw1 : IntKind.i64.wrap ((nn : Int) + 1) = (nn : Int) + 1 := by rw [IntKind.wrap_i64]; omega
            have y3 : ¬ 9223372036854775807 < t1.size + tm.size := by omega
            have y4 : ¬ 9223372036854775807 < t1.size + tm.size + t2.size := by rw [ByteArray.size_append] at y2; omega
            have n5 : Below Y4.heap.size Y4 (Y4.alloc (.cells #[.int .u8 to_] 5)).drew := ((Below.refl _ Y4).alloc (Nat.le_refl _) _).drew
            have H5 : Hid (Below W.heap.size W (Y4.alloc (.cells #[.int .u8 to_] 5)).drew ∧ Full (Y4.alloc (.cells #[.int .u8 to_] 5)).drew A 39 [.int .i64 ph, .int .i64 tr, .string out, .int .i64 inp, .slice q n cap, .int .i64 at_, .int .u8 to_] ∧ Row (Y4.alloc (.cells #[.int .u8 to_] 5)).drew (Y4.alloc (.cells #[.int .u8 to_] 5)).drew.heap.size q n (L.flatMap ec)) := ⟨H4d.out.1.trans (n5.mono H4d.out.1.size), H4d.out.2.1.next n5, (H4d.out.2.2.below n5 (Nat.le_refl _)).up n5.size⟩
            clear n5
            go_upto_region 13 with fail
            go_region_law (first | fail)
            all_goals
              clear r6 RC H4d R1 R2 y1 y2 y3 y4 qw1
              generalize (Y4.alloc (.cells #[.int .u8 to_] 5)).drew = Y5 at H5 ⊢
              have HS := salvage_any Y5 cb (HT.out.next H5.out.1) HB.out.1
              rw [HSx.out.1] at HS
              go_wp2_with fail
              refine HS.mono ?_
              rintro e w6 ⟨⟨v, rfl, hv⟩, hb6⟩
              obtain ⟨os, qs, cs, rfl, hos, hcs, hrs⟩ := hv.op
              have hwl : (L.take wn).length = wn := by rw [List.length_take]; have := HB.out.2.1; have := HI.out.2.2.1; omega
              simp only at hos hrs hcs
              rw [hwl] at hrs
              obtain rfl : os = ⟨#[]⟩ := ba_eq hos
              have hval : Value.agg (recC 0 0 ⟨#[]⟩ 0 qs (L.take wn).length cs) = .agg #[.int .i64 0, .int .i64 0, .string ⟨#[]⟩, .int .i64 0, .slice qs wn cs] := by rw [hwl]
              have hmx : (((2 + mx : Nat)) : Int) = 2 + (mx : Int) := by omega
              simp only [hval, hmx]
              obtain ⟨S, hS⟩ : ∃ S, w6.heap.size = S := ⟨_, rfl⟩
              obtain ⟨X6, hX6⟩ : ∃ X, w6.alloc (.cells #[.int .i64 0, .int .i64 0, .string ⟨#[]⟩, .int .i64 0, .slice qs wn cs] 28) = X := ⟨_, rfl⟩
              have n6 : Below w6.heap.size w6 X6 := by rw [← hX6]; exact (Below.refl _ _).alloc (Nat.le_refl _) _
              have f6 : Full X6 S 28 [.int .i64 0, .int .i64 0, .string ⟨#[]⟩, .int .i64 0, .slice qs wn cs] := by rw [← hX6, ← hS]; exact Full.new w6 _ _
              have n46 : Below Y5.heap.size Y5 X6 := hb6.trans (n6.mono hb6.size)
              have H6 : Hid (Below W.heap.size W X6 ∧ Full X6 A 39 [.int .i64 ph, .int .i64 tr, .string out, .int .i64 inp, .slice q n cap, .int .i64 at_, .int .u8 to_] ∧ Row X6 X6.heap.size q n (L.flatMap ec) ∧ Full X6 S 28 [.int .i64 0, .int .i64 0, .string ⟨#[]⟩, .int .i64 0, .slice qs wn cs] ∧ Row X6 X6.heap.size qs wn ((L.take wn).flatMap ec)) := ⟨H5.out.1.trans (n46.mono H5.out.1.size), H5.out.2.1.next n46, (H5.out.2.2.below n46 (Nat.le_refl _)).up n46.size, f6, (hrs.below n6 (Nat.le_refl _)).up n6.size⟩
              have HD := decode_any X6 cb (HT.out.next H6.out.1) HB.out.1
              rw [HSx.out.2] at HD
              clear HS hb6 hv hos hcs hrs n6 f6 n46 H5 hval hmx hwl
              go_wp2_with fail
              refine HD.mono ?_
              rintro e w8 ⟨⟨v, rfl, hv⟩, hb8⟩
              obtain ⟨oz, qz, cz, rfl, hoz, hcz, hrz⟩ := hv.op
              simp only [rc0] at hoz hrz hcz
              obtain rfl : oz = ⟨#[]⟩ := ba_eq hoz
              have hval : Value.agg (recC rc0.ph rc0.tr ⟨#[]⟩ rc0.inp qz rc0.evs.length cz) = .agg #[.int .i64 0, .int .i64 0, .string ⟨#[]⟩, .int .i64 0, .slice qz 0 cz] := rfl
              simp only [hval]
              obtain ⟨Z, hZ⟩ : ∃ Z, w8.heap.size = Z := ⟨_, rfl⟩
              obtain ⟨X8, hX8⟩ : ∃ X, w8.alloc (.cells #[.int .i64 0, .int .i64 0, .string ⟨#[]⟩, .int .i64 0, .slice qz 0 cz] 28) = X := ⟨_, rfl⟩
              have n8 : Below w8.heap.size w8 X8 := by rw [← hX8]; exact (Below.refl _ _).alloc (Nat.le_refl _) _
              have f8 : Full X8 Z 28 [.int .i64 0, .int .i64 0, .string ⟨#[]⟩, .int .i64 0, .slice qz 0 cz] := by rw [← hX8, ← hZ]; exact Full.new w8 _ _
              have n68 : Below X6.heap.size X6 X8 := hb8.trans (n8.mono hb8.size)
              have H8 : Hid (Below W.heap.size W X8 ∧ Full X8 A 39 [.int .i64 ph, .int .i64 tr, .string out, .int .i64 inp, .slice q n cap, .int .i64 at_, .int .u8 to_] ∧ Row X8 X8.heap.size q n (L.flatMap ec) ∧ Full X8 S 28 [.int .i64 0, .int .i64 0, .string ⟨#[]⟩, .int .i64 0, .slice qs wn cs] ∧ Row X8 X8.heap.size qs wn ((L.take wn).flatMap ec) ∧ Full X8 Z 28 [.int .i64 0, .int .i64 0, .string ⟨#[]⟩, .int .i64 0, .slice qz 0 cz]) := ⟨H6.out.1.trans (n68.mono H6.out.1.size), H6.out.2.1.next n68, (H6.out.2.2.1.below n68 (Nat.le_refl _)).up n68.size, H6.out.2.2.2.1.next n68, (H6.out.2.2.2.2.below n68 (Nat.le_refl _)).up n68.size, f8⟩
              have HSm := first_same X8 ph tr out inp L wn (by rw [HI.out.2.2.1]; exact HB.out.2.1) qs q cs cap H8.out.2.2.2.2.1 (by rw [HI.out.2.2.1]; exact H8.out.2.2.1) (by rw [HI.out.2.2.1]; have := HI.out.2.2.2; omega)
              rw [HI.out.2.2.1] at HSm
              unfold recC at HSm
              obtain ⟨⟨⟨⟨r0, -⟩, ⟨r1, -⟩, r2, -⟩, ⟨r3, -⟩, ⟨r4, -⟩, r5, -⟩, -⟩ := H8.out.2.1.seven2
              obtain ⟨-, -, s4, -⟩ := H8.out.2.2.2.1.five2
              clear HD hb8 hv hoz hcz hrz n8 f8 n68 H6 hval hX6
              go_wp2_with fail
              refine HSm.mono ?_
              rintro e w9 ⟨rfl, hb9⟩
              have H9 : Hid (Below W.heap.size W w9) := H8.out.1.trans (hb9.mono H8.out.1.size)
              have HK := known_any w9 (HT.out.next H9.out)
              clear r0 r1 r2 r3 r4 r5 s4 HSm hX8
              obtain ⟨⟨⟨r0, -⟩, ⟨r1, -⟩, r2, -⟩, ⟨r3, -⟩, r4, -⟩ := (H8.out.2.2.2.1.next hb9).five2
              obtain ⟨⟨⟨s0, -⟩, ⟨s1, -⟩, s2, -⟩, ⟨s3, -⟩, s4, -⟩ := (H8.out.2.2.2.2.2.next hb9).five2
              clear hb9
              go_wp2_with fail
              refine HK.mono ?_
              rintro e w10 ⟨rfl, hb10⟩
              have H10 : Hid (Below W.heap.size W w10) := H9.out.trans (hb10.mono H9.out.size)
              clear HK hb10 H8 H9 r0 r1 r2 r3 r4 s0 s1 s2 s3 s4
              go_wp2_with fail
              go_ret
              exact ⟨rfl, (by first | exact H10.out | (rw [← HA.out]; exact H10.out))⟩
end Go.Proofs.YtnecnchdffmhbaaDoor
