import Derived.Test.YtnecnchdffmhbaaDoorV01
import Derived.Test.YtnecnchdffmhbaaDoorV02
import Derived.Test.YtnecnchdffmhbaaDoorO21
namespace Go.Proofs.YtnecnchdffmhbaaDoor
open Go.RowKit

/-- The place of the cut. -/
theorem cut_at (a : Int) (z : Nat) (hz : 10 ≤ z) : -((z : Int) - 2) < Int.tmod a ((z : Int) - 2) ∧ Int.tmod a ((z : Int) - 2) < (z : Int) - 2 := by
  have h1 := Int.tmod_lt_of_pos a (show (0 : Int) < (z : Int) - 2 by omega)
  have h2 := Int.lt_tmod_of_pos a (show (0 : Int) < (z : Int) - 2 by omega)
  exact ⟨h2, h1⟩
theorem file_ge {rc : Rc} (h : (encS rc).2 = 0) : 19 ≤ (encS rc).1.length := by
  obtain ⟨-, -, -, h4⟩ := encS_ok h
  rw [h4]
  show 19 ≤ (fileL rc).length
  unfold fileL
  rw [List.length_append, List.length_append, chS_len, lastL_len]
  show 19 ≤ 2 + _ + _
  omega
set_option maxRecDepth 100000 in
set_option maxHeartbeats 4000000 in
theorem cut_law (W : World) (ph tr : Int) (out : ByteArray) (inp : Int) (q : Option Addr) (cap : Nat) (L : List Ev) (at_ to_ : Int) (hT : SumT W) (hI : RcIn W q cap L) (hm : L.length ≤ 2199023255488) (ho : out.size ≤ 140737488355328) (hat : -9223372036854775808 ≤ at_ ∧ at_ ≤ 9223372036854775807) :
    Calls Tryd.prog 4 #[.agg #[.int .i64 ph, .int .i64 tr, .string out, .int .i64 inp, .slice q L.length cap, .int .i64 at_, .int .u8 to_]] W fun e w' => e = .returned (.bool true) ∧ Below W.heap.size W w' := by
  obtain ⟨X1, hX1⟩ : ∃ X, W.alloc (.cells #[.int .i64 ph, .int .i64 tr, .string out, .int .i64 inp, .slice q L.length cap, .int .i64 at_, .int .u8 to_] 39) = X := ⟨_, rfl⟩
  obtain ⟨A, hA⟩ : ∃ A, W.heap.size = A := ⟨_, rfl⟩
  have b1 : Below W.heap.size W X1 := by rw [← hX1]; exact (Below.refl _ W).alloc (Nat.le_refl _) _
  have f1 : Full X1 A 39 [.int .i64 ph, .int .i64 tr, .string out, .int .i64 inp, .slice q L.length cap, .int .i64 at_, .int .u8 to_] := by rw [← hX1, ← hA]; exact Full.new W _ _
  have R1 : Row X1 X1.heap.size q L.length (L.flatMap ec) := (hI.row.below b1 (Nat.le_refl _)).up b1.size
  obtain ⟨rc, hrc⟩ : ∃ rc : Rc, (⟨ph, tr, out.data.toList, inp, L⟩ : Rc) = rc := ⟨_, rfl⟩
  have HE := encode_any X1 ph tr out inp q cap L (hT.next b1) ⟨R1, hI.cap, hI.sz, hI.vn, hI.most⟩ ho
  obtain ⟨n, hln⟩ : ∃ n, L.length = n := ⟨_, rfl⟩
  unfold recC EncP at HE
  rw [hrc, hln] at HE
  have HI : Hid ((∀ e ∈ L, EvSz e) ∧ (∀ e ∈ L, -9223372036854775808 ≤ e.vn ∧ e.vn ≤ 9223372036854775807) ∧ L.length = n ∧ n ≤ 2199023255488) := ⟨hI.sz, hI.vn, hln, hln ▸ hm⟩
  have HRc : Hid ((⟨ph, tr, out.data.toList, inp, L⟩ : Rc) = rc) := hrc
  have HT : Hid (SumT W) := hT
  have HA : Hid (W.heap.size = A) := hA
  rw [hln] at hX1 f1 R1 ⊢
  have H1 : Hid (Below W.heap.size W X1 ∧ Full X1 A 39 [.int .i64 ph, .int .i64 tr, .string out, .int .i64 inp, .slice q n cap, .int .i64 at_, .int .u8 to_] ∧ Row X1 X1.heap.size q n (L.flatMap ec)) := ⟨b1, f1, R1⟩
  obtain ⟨⟨⟨⟨r0, -⟩, ⟨r1, -⟩, r2, -⟩, ⟨r3, -⟩, ⟨r4, -⟩, r5, -⟩, -⟩ := f1.seven2
  clear b1 f1 R1 hI hm ho hln hrc hT
  go_enter Tryd.func4, Tryd.ntmps4
  go_wp2_with fail
  refine HE.mono ?_
  rintro e w3 ⟨rfl, hb3⟩
  have H3 : Hid (Below W.heap.size W w3 ∧ Full w3 A 39 [.int .i64 ph, .int .i64 tr, .string out, .int .i64 inp, .slice q n cap, .int .i64 at_, .int .u8 to_] ∧ Row w3 w3.heap.size q n (L.flatMap ec)) := ⟨H1.out.1.trans (hb3.mono H1.out.1.size), H1.out.2.1.next hb3, (H1.out.2.2.below hb3 (Nat.le_refl _)).up hb3.size⟩
  clear HE hb3 H1 hX1 r0 r1 r2 r3 r4 r5
  by_cases h0 : (encS rc).2 = 0
  case neg =>
    obtain ⟨hb0, he⟩ := encS_no h0
    rw [hb0]
    have HK := known_any w3 (HT.out.next H3.out.1)
    obtain ⟨er, her⟩ : ∃ er, (encS rc).2 = er := ⟨_, rfl⟩
    rw [her] at h0 he ⊢
    clear her hb0
    rcases he with rfl | rfl
    all_goals
      clear h0
      go_wp2_with fail
      refine HK.mono ?_
      rintro e w5 ⟨rfl, hb5⟩
      have H5 : Hid (Below W.heap.size W w5) := H3.out.1.trans (hb5.mono H3.out.1.size)
      clear HK hb5 H3
      go_wp2_with fail
      go_ret
      exact ⟨rfl, (by first | exact H5.out | (rw [← HA.out]; exact H5.out))⟩
  case pos =>
    have hvn : ∀ e ∈ rc.evs, -9223372036854775808 ≤ e.vn ∧ e.vn ≤ 9223372036854775807 := by rw [← HRc.out]; exact HI.out.2.1
    have hfl := file_le h0 hvn
    have hfg := file_ge h0
    obtain ⟨fb, hfb⟩ : ∃ fb : ByteArray, (⟨(encS rc).1.toArray⟩ : ByteArray) = fb := ⟨_, rfl⟩
    have hfbl : fb.data.toList = (encS rc).1 := by rw [← hfb]
    rw [hfb, h0]
    have hfs : fb.size = (encS rc).1.length := by rw [Lib.size_eq, hfbl]
    obtain ⟨r, hr⟩ : ∃ r, Int.tmod at_ ((fb.size : Int) - 2) = r := ⟨_, rfl⟩
    obtain ⟨hr1, hr2⟩ := cut_at at_ fb.size (by omega)
    rw [hr] at hr1 hr2
    obtain ⟨nn, hnn⟩ : ∃ nn : Nat, (nn : Int) = (if r < 0 then -r else r) + 2 := ⟨((if r < 0 then -r else r) + 2).toNat, by split <;> omega⟩
    have hn2 : 2 ≤ nn := by split at hnn <;> omega
    have hnl : nn < fb.size := by split at hnn <;> omega
    obtain ⟨k1, k2, k3, k4⟩ := sal_cut h0 hvn nn hn2 (by omega)
    obtain ⟨tb, htb⟩ : ∃ x : ByteArray, x.data.toList = fb.data.toList.take nn := ⟨⟨(fb.data.toList.take nn).toArray⟩, rfl⟩
    have R1 := sl_to (s := fb) (x := tb) (k := nn) (by omega) htb
    rw [← hfbl, ← htb] at k1 k2
    have HEv : Hid (∀ w, Calls Tryd.prog 13 #[.string fb, .int .i64 (rc.evs.length : Int), .int .i64 (nn : Int)] w fun e w' => e = .returned (.tuple #[.int .i64 ((whl rc.evs.length rc.evs (nn - 2)).1 : Int), .bool false, .bool (decide (2 + (whl rc.evs.length rc.evs (nn - 2)).2 + 4 ≤ nn))]) ∧ Below w.heap.size w w') := fun w => (events_any w rc h0 hvn fb hfbl nn hn2 hnl (by omega)).mono fun e w' q => ⟨q.1, by rw [q.2]; exact Below.refl _ _⟩
    obtain ⟨wx, hwx⟩ : ∃ wx, whl rc.evs.length rc.evs (nn - 2) = wx := ⟨_, rfl⟩
    rw [hwx] at k1 k3 k4
    simp only [hwx] at HEv
    obtain ⟨wn, mx⟩ := wx
    simp only at k1 k3 k4 HEv
    have hevs : rc.evs = L := by rw [← HRc.out]
    rw [hevs, HI.out.2.2.1] at k4 HEv
    rw [hevs] at k1
    have hts : tb.size = nn := by rw [Lib.size_eq, htb, List.length_take, ← Lib.size_eq]; omega
    have HB : Hid (salS tb.data.toList = (⟨0, 0, [], 0, L.take wn⟩, 2 + mx, 0) ∧ decS tb.data.toList = (rc0, 250) ∧ tb.size ≤ 140737488355328 ∧ wn ≤ n) := ⟨k1, k2, by omega, k4⟩
    have qf : (fb.size : Int) ≤ 100000000000 := by omega
    have qf0 : (10 : Int) ≤ (fb.size : Int) := by omega
    have qf1 : ¬ (fb.size : Int) < 10 := by omega
    have qa0 : -9223372036854775808 ≤ at_ := hat.1
    have qa1 : at_ ≤ 9223372036854775807 := hat.2
    have qm0 : ¬ (nn : Int) < 2 + (mx : Int) := by omega
    have qm1 : ¬ 2 + (mx : Int) < 2 := by omega
    have qnn : (nn : Int) ≤ 100000000000 := by omega
    have HEvx := HEv.out w3
    clear h0 hfl hfg hfb hfbl hfs hn2 hnl k1 k2 k3 k4 htb hwx hevs hts hvn hat
    obtain ⟨⟨⟨⟨r0, -⟩, ⟨r1, -⟩, r2, -⟩, ⟨r3, -⟩, ⟨r4, -⟩, r5, -⟩, -⟩ := H3.out.2.1.seven2
    rcases Int.lt_or_le r 0 with hneg | hpos
    · rw [if_pos hneg] at hnn
      obtain ⟨bd, hbd⟩ : ∃ bd, decide (2 + mx + 4 ≤ nn) = bd := ⟨_, rfl⟩
      rw [hnn, hbd] at HEvx
      rw [hnn] at R1 qm0 qnn
      clear hbd
      go_wp2_with fail
      refine HEvx.mono ?_
      rintro e w4 ⟨rfl, hb4⟩
      have H4 : Hid (Below W.heap.size W w4 ∧ Full w4 A 39 [.int .i64 ph, .int .i64 tr, .string out, .int .i64 inp, .slice q n cap, .int .i64 at_, .int .u8 to_] ∧ Row w4 w4.heap.size q n (L.flatMap ec)) := ⟨H3.out.1.trans (hb4.mono H3.out.1.size), H3.out.2.1.next hb4, (H3.out.2.2.below hb4 (Nat.le_refl _)).up hb4.size⟩
      have HS := salvage_any w4 tb (HT.out.next H4.out.1) HB.out.2.2.1
      rw [HB.out.1] at HS
      clear HEvx hb4 H3 r0 r1 r2 r3 r4 r5
      go_wp2_with fail
      refine HS.mono ?_
      rintro e w6 ⟨⟨v, rfl, hv⟩, hb6⟩
      obtain ⟨os, qs, cs, rfl, hos, hcs, hrs⟩ := hv.op
      have hwl : (L.take wn).length = wn := by rw [List.length_take]; have := HB.out.2.2.2; have := HI.out.2.2.1; omega
      simp only at hos hrs hcs
      rw [hwl] at hrs
      obtain rfl : os = ⟨#[]⟩ := ba_eq hos
      have hval : Value.agg (recC 0 0 ⟨#[]⟩ 0 qs (L.take wn).length cs) = .agg #[.int .i64 0, .int .i64 0, .string ⟨#[]⟩, .int .i64 0, .slice qs wn cs] := by rw [hwl]
      have hmx : (((2 + mx : Nat)) : Int) = 2 + (mx : Int) := by omega
      simp only [hval, hmx]
      obtain ⟨S, hS⟩ : ∃ S, w6.heap.size = S := ⟨_, rfl⟩
      obtain ⟨X6, hX6⟩ : ∃ X, w6.alloc (.cells #[.int .i64 0, .int .i64 0, .string ⟨#[]⟩, .int .i64 0, .slice qs wn cs] 28) = X := ⟨_, rfl⟩
      have n6 : Below w6.heap.size w6 X6 := by rw [← hX6]; exact (Below.refl _ _).alloc (Nat.le_refl _) _
      have f6 : Full X6 S 28 [.int .i64 0, .int .i64 0, .string ⟨#[]⟩, .int .i64 0, .slice qs wn cs] := by rw [← hX6, ← hS]; exact Full.new w6 _ _
      have n46 : Below w4.heap.size w4 X6 := hb6.trans (n6.mono hb6.size)
      have H6 : Hid (Below W.heap.size W X6 ∧ Full X6 A 39 [.int .i64 ph, .int .i64 tr, .string out, .int .i64 inp, .slice q n cap, .int .i64 at_, .int .u8 to_] ∧ Row X6 X6.heap.size q n (L.flatMap ec) ∧ Full X6 S 28 [.int .i64 0, .int .i64 0, .string ⟨#[]⟩, .int .i64 0, .slice qs wn cs] ∧ Row X6 X6.heap.size qs wn ((L.take wn).flatMap ec)) := ⟨H4.out.1.trans (n46.mono H4.out.1.size), H4.out.2.1.next n46, (H4.out.2.2.below n46 (Nat.le_refl _)).up n46.size, f6, (hrs.below n6 (Nat.le_refl _)).up n6.size⟩
      have HD := decode_any X6 tb (HT.out.next H6.out.1) HB.out.2.2.1
      rw [HB.out.2.1] at HD
      clear HS hb6 hv hos hcs hrs n6 f6 n46 H4 hval hmx hwl
      go_wp2_with fail
      refine HD.mono ?_
      rintro e w8 ⟨⟨v, rfl, hv⟩, hb8⟩
      obtain ⟨oz, qz, cz, rfl, hoz, hcz, hrz⟩ := hv.op
      simp only [rc0] at hoz hrz hcz
      obtain rfl : oz = ⟨#[]⟩ := ba_eq hoz
      have hval : Value.agg (recC rc0.ph rc0.tr ⟨#[]⟩ rc0.inp qz rc0.evs.length cz) = .agg #[.int .i64 0, .int .i64 0, .string ⟨#[]⟩, .int .i64 0, .slice qz 0 cz] := rfl
      simp only [hval]
      obtain ⟨Z, hZ⟩ : ∃ Z, w8.heap.size = Z := ⟨_, rfl⟩
      obtain ⟨X8, hX8⟩ : ∃ X, w8.alloc (.cells #[.int .i64 0, .int .i64 0, .string ⟨#[]⟩, .int .i64 0, .slice qz 0 cz] 28) = X := ⟨_, rfl⟩
      have n8 : Below w8.heap.size w8 X8 := by rw [← hX8]; exact (Below.refl _ _).alloc (Nat.le_refl _) _
      have f8 : Full X8 Z 28 [.int .i64 0, .int .i64 0, .string ⟨#[]⟩, .int .i64 0, .slice qz 0 cz] := by rw [← hX8, ← hZ]; exact Full.new w8 _ _
      have n68 : Below X6.heap.size X6 X8 := hb8.trans (n8.mono hb8.size)
      have H8 : Hid (Below W.heap.size W X8 ∧ Full X8 A 39 [.int .i64 ph, .int .i64 tr, .string out, .int .i64 inp, .slice q n cap, .int .i64 at_, .int .u8 to_] ∧ Row X8 X8.heap.size q n (L.flatMap ec) ∧ Full X8 S 28 [.int .i64 0, .int .i64 0, .string ⟨#[]⟩, .int .i64 0, .slice qs wn cs] ∧ Row X8 X8.heap.size qs wn ((L.take wn).flatMap ec) ∧ Full X8 Z 28 [.int .i64 0, .int .i64 0, .string ⟨#[]⟩, .int .i64 0, .slice qz 0 cz]) := ⟨H6.out.1.trans (n68.mono H6.out.1.size), H6.out.2.1.next n68, (H6.out.2.2.1.below n68 (Nat.le_refl _)).up n68.size, H6.out.2.2.2.1.next n68, (H6.out.2.2.2.2.below n68 (Nat.le_refl _)).up n68.size, f8⟩
      have HSm := first_same X8 ph tr out inp L wn (by rw [HI.out.2.2.1]; exact HB.out.2.2.2) qs q cs cap H8.out.2.2.2.2.1 (by rw [HI.out.2.2.1]; exact H8.out.2.2.1) (by rw [HI.out.2.2.1]; have := HI.out.2.2.2; omega)
      rw [HI.out.2.2.1] at HSm
      unfold recC at HSm
      obtain ⟨⟨⟨⟨r0, -⟩, ⟨r1, -⟩, r2, -⟩, ⟨r3, -⟩, ⟨r4, -⟩, r5, -⟩, -⟩ := H8.out.2.1.seven2
      obtain ⟨-, -, s4, -⟩ := H8.out.2.2.2.1.five2
      clear HD hb8 hv hoz hcz hrz n8 f8 n68 H6 hval hX6
      go_wp2_with fail
      refine HSm.mono ?_
      rintro e w9 ⟨rfl, hb9⟩
      have H9 : Hid (Below W.heap.size W w9) := H8.out.1.trans (hb9.mono H8.out.1.size)
      have HK := known_any w9 (HT.out.next H9.out)
      clear r0 r1 r2 r3 r4 r5 s4 HSm hX8
      obtain ⟨⟨⟨r0, -⟩, ⟨r1, -⟩, r2, -⟩, ⟨r3, -⟩, r4, -⟩ := (H8.out.2.2.2.1.next hb9).five2
      obtain ⟨⟨⟨s0, -⟩, ⟨s1, -⟩, s2, -⟩, ⟨s3, -⟩, s4, -⟩ := (H8.out.2.2.2.2.2.next hb9).five2
      clear hb9
      go_wp2_with fail
      refine HK.mono ?_
      rintro e w10 ⟨rfl, hb10⟩
      have H10 : Hid (Below W.heap.size W w10) := H9.out.trans (hb10.mono H9.out.size)
      clear HK hb10 H8 H9 r0 r1 r2 r3 r4 s0 s1 s2 s3 s4
      go_wp2_with fail
      go_ret
      exact ⟨rfl, (by first | exact H10.out | (rw [← HA.out]; exact H10.out))⟩
    · rw [if_neg (show ¬ r < 0 by omega)] at hnn
      obtain ⟨bd, hbd⟩ : ∃ bd, decide (2 + mx + 4 ≤ nn) = bd := ⟨_, rfl⟩
      rw [hnn, hbd] at HEvx
      rw [hnn] at R1 qm0 qnn
      clear hbd
      go_wp2_with fail
      refine HEvx.mono ?_
      rintro e w4 ⟨rfl, hb4⟩
      have H4 : Hid (Below W.heap.size W w4 ∧ Full w4 A 39 [.int .i64 ph, .int .i64 tr, .string out, .int .i64 inp, .slice q n cap, .int .i64 at_, .int .u8 to_] ∧ Row w4 w4.heap.size q n (L.flatMap ec)) := ⟨H3.out.1.trans (hb4.mono H3.out.1.size), H3.out.2.1.next hb4, (H3.out.2.2.below hb4 (Nat.le_refl _)).up hb4.size⟩
      have HS := salvage_any w4 tb (HT.out.next H4.out.1) HB.out.2.2.1
      rw [HB.out.1] at HS
      clear HEvx hb4 H3 r0 r1 r2 r3 r4 r5
      go_wp2_with fail
      refine HS.mono ?_
      rintro e w6 ⟨⟨v, rfl, hv⟩, hb6⟩
      obtain ⟨os, qs, cs, rfl, hos, hcs, hrs⟩ := hv.op
      have hwl : (L.take wn).length = wn := by rw [List.length_take]; have := HB.out.2.2.2; have := HI.out.2.2.1; omega
      simp only at hos hrs hcs
      rw [hwl] at hrs
      obtain rfl : os = ⟨#[]⟩ := ba_eq hos
      have hval : Value.agg (recC 0 0 ⟨#[]⟩ 0 qs (L.take wn).length cs) = .agg #[.int .i64 0, .int .i64 0, .string ⟨#[]⟩, .int .i64 0, .slice qs wn cs] := by rw [hwl]
      have hmx : (((2 + mx : Nat)) : Int) = 2 + (mx : Int) := by omega
      simp only [hval, hmx]
      obtain ⟨S, hS⟩ : ∃ S, w6.heap.size = S := ⟨_, rfl⟩
      obtain ⟨X6, hX6⟩ : ∃ X, w6.alloc (.cells #[.int .i64 0, .int .i64 0, .string ⟨#[]⟩, .int .i64 0, .slice qs wn cs] 28) = X := ⟨_, rfl⟩
      have n6 : Below w6.heap.size w6 X6 := by rw [← hX6]; exact (Below.refl _ _).alloc (Nat.le_refl _) _
      have f6 : Full X6 S 28 [.int .i64 0, .int .i64 0, .string ⟨#[]⟩, .int .i64 0, .slice qs wn cs] := by rw [← hX6, ← hS]; exact Full.new w6 _ _
      have n46 : Below w4.heap.size w4 X6 := hb6.trans (n6.mono hb6.size)
      have H6 : Hid (Below W.heap.size W X6 ∧ Full X6 A 39 [.int .i64 ph, .int .i64 tr, .string out, .int .i64 inp, .slice q n cap, .int .i64 at_, .int .u8 to_] ∧ Row X6 X6.heap.size q n (L.flatMap ec) ∧ Full X6 S 28 [.int .i64 0, .int .i64 0, .string ⟨#[]⟩, .int .i64 0, .slice qs wn cs] ∧ Row X6 X6.heap.size qs wn ((L.take wn).flatMap ec)) := ⟨H4.out.1.trans (n46.mono H4.out.1.size), H4.out.2.1.next n46, (H4.out.2.2.below n46 (Nat.le_refl _)).up n46.size, f6, (hrs.below n6 (Nat.le_refl _)).up n6.size⟩
      have HD := decode_any X6 tb (HT.out.next H6.out.1) HB.out.2.2.1
      rw [HB.out.2.1] at HD
      clear HS hb6 hv hos hcs hrs n6 f6 n46 H4 hval hmx hwl
      go_wp2_with fail
      refine HD.mono ?_
      rintro e w8 ⟨⟨v, rfl, hv⟩, hb8⟩
      obtain ⟨oz, qz, cz, rfl, hoz, hcz, hrz⟩ := hv.op
      simp only [rc0] at hoz hrz hcz
      obtain rfl : oz = ⟨#[]⟩ := ba_eq hoz
      have hval : Value.agg (recC rc0.ph rc0.tr ⟨#[]⟩ rc0.inp qz rc0.evs.length cz) = .agg #[.int .i64 0, .int .i64 0, .string ⟨#[]⟩, .int .i64 0, .slice qz 0 cz] := rfl
      simp only [hval]
      obtain ⟨Z, hZ⟩ : ∃ Z, w8.heap.size = Z := ⟨_, rfl⟩
      obtain ⟨X8, hX8⟩ : ∃ X, w8.alloc (.cells #[.int .i64 0, .int .i64 0, .string ⟨#[]⟩, .int .i64 0, .slice qz 0 cz] 28) = X := ⟨_, rfl⟩
      have n8 : Below w8.heap.size w8 X8 := by rw [← hX8]; exact (Below.refl _ _).alloc (Nat.le_refl _) _
      have f8 : Full X8 Z 28 [.int .i64 0, .int .i64 0, .string ⟨#[]⟩, .int .i64 0, .slice qz 0 cz] := by rw [← hX8, ← hZ]; exact Full.new w8 _ _
      have n68 : Below X6.heap.size X6 X8 := hb8.trans (n8.mono hb8.size)
      have H8 : Hid (Below W.heap.size W X8 ∧ Full X8 A 39 [.int .i64 ph, .int .i64 tr, .string out, .int .i64 inp, .slice q n cap, .int .i64 at_, .int .u8 to_] ∧ Row X8 X8.heap.size q n (L.flatMap ec) ∧ Full X8 S 28 [.int .i64 0, .int .i64 0, .string ⟨#[]⟩, .int .i64 0, .slice qs wn cs] ∧ Row X8 X8.heap.size qs wn ((L.take wn).flatMap ec) ∧ Full X8 Z 28 [.int .i64 0, .int .i64 0, .string ⟨#[]⟩, .int .i64 0, .slice qz 0 cz]) := ⟨H6.out.1.trans (n68.mono H6.out.1.size), H6.out.2.1.next n68, (H6.out.2.2.1.below n68 (Nat.le_refl _)).up n68.size, H6.out.2.2.2.1.next n68, (H6.out.2.2.2.2.below n68 (Nat.le_refl _)).up n68.size, f8⟩
      have HSm := first_same X8 ph tr out inp L wn (by rw [HI.out.2.2.1]; exact HB.out.2.2.2) qs q cs cap H8.out.2.2.2.2.1 (by rw [HI.out.2.2.1]; exact H8.out.2.2.1) (by rw [HI.out.2.2.1]; have := HI.out.2.2.2; omega)
      rw [HI.out.2.2.1] at HSm
      unfold recC at HSm
      obtain ⟨⟨⟨⟨r0, -⟩, ⟨r1, -⟩, r2, -⟩, ⟨r3, -⟩, ⟨r4, -⟩, r5, -⟩, -⟩ := H8.out.2.1.seven2
      obtain ⟨-, -, s4, -⟩ := H8.out.2.2.2.1.five2
      clear HD hb8 hv hoz hcz hrz n8 f8 n68 H6 hval hX6
      go_wp2_with fail
      refine HSm.mono ?_
      rintro e w9 ⟨rfl, hb9⟩
      have H9 : Hid (Below W.heap.size W w9) := H8.out.1.trans (hb9.mono H8.out.1.size)
      have HK := known_any w9 (HT.out.next H9.out)
      clear r0 r1 r2 r3 r4 r5 s4 HSm hX8
      obtain ⟨⟨⟨r0, -⟩, ⟨r1, -⟩, r2, -⟩, ⟨r3, -⟩, r4, -⟩ := (H8.out.2.2.2.1.next hb9).five2
      obtain ⟨⟨⟨s0, -⟩, ⟨s1, -⟩, s2, -⟩, ⟨s3, -⟩, s4, -⟩ := (H8.out.2.2.2.2.2.next hb9).five2
      clear hb9
      go_wp2_with fail
      refine HK.mono ?_
      rintro e w10 ⟨rfl, hb10⟩
      have H10 : Hid (Below W.heap.size W w10) := H9.out.trans (hb10.mono H9.out.size)
      clear HK hb10 H8 H9 r0 r1 r2 r3 r4 s0 s1 s2 s3 s4
      go_wp2_with fail
      go_ret
      exact ⟨rfl, (by first | exact H10.out | (rw [← HA.out]; exact H10.out))⟩
end Go.Proofs.YtnecnchdffmhbaaDoor
