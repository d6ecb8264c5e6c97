import Derived.Test.YtnecnchdffmhbaaDoorE06
import Derived.Test.YtnecnchdffmhbaaDoorE05
namespace Go.Proofs.YtnecnchdffmhbaaDoor
open Go.RowKit

/-- In a round of the body: the event's own cell and the row. -/
structure ByI (W : World) (A : Nat) (ev : List Value) (g o : Nat) (L : List Ev) (w : World) : Prop where
  full : Full w A 54 ev
  row : Row w W.heap.size (some ⟨g, o, none⟩) L.length (L.flatMap ec)
  bel : Below W.heap.size W w
theorem ByI.next {W : World} {A : Nat} {ev : List Value} {g o : Nat} {L : List Ev} {w w' : World} (h : ByI W A ev g o L w) (k : Below w.heap.size w w') : ByI W A ev g o L w' :=
  ⟨h.full.next k, h.row.below k h.bel.size, h.bel.trans (k.mono h.bel.size)⟩
theorem ndA_take (L : List Ev) (i : Nat) (p : Ev) (h : L[i]? = some p) : ndA 0 (L.take (i + 1)) = p.n := by
  rw [List.take_add_one, h]
  exact ndA_app _ _ _
theorem evsL_take (L : List Ev) (i : Nat) (e : Ev) (h : L[i]? = some e) : evsL 0 [] (L.take (i + 1)) = evsL 0 [] (L.take i) ++ evL (ndA 0 (L.take i)) (nsA [] (L.take i)) e := by
  rw [List.take_add_one, h]
  exact evsL_app _ _ _ _
theorem plc_le (ns : List (List UInt8)) (x : List UInt8) : plc ns x ≤ ns.length := by
  unfold plc
  split
  · rename_i h
    exact List.idxOf_lt_length_iff.2 h
  · exact Nat.zero_le _
set_option maxRecDepth 100000 in
set_option maxHeartbeats 4000000 in
theorem rbody_any (W : World) (q : Option Addr) (cap : Nat) (L : List Ev) (hR : Row W W.heap.size q L.length (L.flatMap ec)) (hok : EvsOk L) :
    Calls Tryd.prog 47 #[.slice q L.length cap] W fun e w' => e = .returned (.string ⟨(bodyL L).toArray⟩) ∧ Below W.heap.size W w' := by
  obtain ⟨n, hln⟩ : ∃ n, L.length = n := ⟨_, rfl⟩
  have HN : Hid (L.length = n) := hln
  have HO : Hid (EvsOk L) := hok
  have H0 : Hid (Row W W.heap.size q L.length (L.flatMap ec) ∧ Below W.heap.size W W) := ⟨hR, Below.refl _ _⟩
  have hn : n ≤ 64 := by rw [← hln]; exact hok.2
  have qn : (n : Int) ≤ 64 := by omega
  rw [hln]
  clear hR hln hok
  go_enter Tryd.func47, Tryd.ntmps47
  go_wp2_with fail
  go_loopw [3, 4] (fun b v wr => ∃ (i : Nat) (s : ByteArray), v = .int .i64 (i : Int) ∧ b = .string s ∧ i ≤ n ∧ Hid (s.data.toList = 1 :: evsL 0 [] (L.take i) ∧ Row wr W.heap.size q L.length (L.flatMap ec) ∧ Below W.heap.size W wr)) (fun _ v _ => n - (intOf v).toNat)
  case atStart => exact ⟨0, ⟨#[1]⟩, rfl, rfl, Nat.zero_le _, rfl, H0.out.1, H0.out.2⟩
  case round =>
    obtain ⟨i, s, rfl, rfl, hi, HI⟩ := hrel
    clear H0
    by_cases hlt : i < n
    case neg =>
      obtain rfl : i = n := by omega
      have qi : ¬ (i : Int) < (i : Int) := by omega
      have HV : Hid (s = ⟨(bodyL L).toArray⟩ ∧ Below W.heap.size W wr) := ⟨ba_of (by rw [HI.out.1, ← HN.out, List.take_length]; rfl), HI.out.2.2⟩
      clear HI hlt
      go_wp2
      go_ret
      exact ⟨congrArg (fun x => Ending.returned (.string x)) HV.out.1, HV.out.2⟩
    case pos =>
      have qi : (i : Int) < (n : Int) := by omega
      have q0 : (0 : Int) ≤ (i : Int) := by omega
      obtain ⟨e, he⟩ : ∃ e, L[i]? = some e := ⟨L[i]'(by have := HN.out; omega), List.getElem?_eq_getElem _⟩
      obtain ⟨g, o, rfl, hgB, -⟩ := ev_at HI.out.2.1 i e he
      obtain ⟨hm1, hm2, hm3⟩ := body_mid L HO.out i (by rw [HN.out]; omega)
      obtain ⟨he1, he2⟩ := HO.out.1 e (List.mem_of_getElem? he)
      have hs : s.size ≤ 1 + 400 * i := by
        rw [Lib.size_eq, HI.out.1, List.length_cons]
        omega
      have hs2 : s.size ≤ 100000 := by omega
      have hprev : (i = 0 ∧ ndA 0 (L.take i) = 0) ∨ ∃ m p, i = m + 1 ∧ L[m]? = some p ∧ ndA 0 (L.take i) = p.n ∧ 0 ≤ p.n ∧ p.n < 40000 := by
        rcases Nat.eq_zero_or_pos i with h | h
        · left
          subst h
          exact ⟨rfl, rfl⟩
        · right
          obtain ⟨p, hp⟩ : ∃ p, L[i - 1]? = some p := ⟨L[i - 1]'(by have := HN.out; omega), List.getElem?_eq_getElem _⟩
          have h2 := ndA_take L (i - 1) p hp
          rw [Nat.sub_add_cancel h] at h2
          obtain ⟨-, -, -, p1, p2, -⟩ := evOk_parts (HO.out.1 p (List.mem_of_getElem? hp)).1
          exact ⟨i - 1, p, by omega, hp, h2, p1, p2⟩
      have hnx := evsL_take L i e he
      obtain ⟨k, en, nm, vk, vn, vs⟩ := e
      obtain ⟨nb, hnb⟩ : ∃ b : ByteArray, b.data.toList = nm := ⟨⟨nm.toArray⟩, rfl⟩
      obtain ⟨vb, hvb⟩ : ∃ b : ByteArray, b.data.toList = vs := ⟨⟨vs.toArray⟩, rfl⟩
      obtain ⟨pk1, pk2, pk3, pn1, pn2, pl⟩ := evOk_parts he1
      have pv := valOk_kind pk1
      have pv0 := pv.1
      have pv1 := pv.2
      simp only at pk1 pk2 pk3 pn1 pn2 pl pv0 pv1 he2 hnx
      have x0 := ev_at2 HI.out.2.1 i _ he 0 _ rfl
      have x1 := ev_at2 HI.out.2.1 i _ he 1 _ rfl
      have x2 := ev_at2 HI.out.2.1 i _ he 2 _ rfl
      have x3 := ev_at2 HI.out.2.1 i _ he 3 _ rfl
      have x4 := ev_at2 HI.out.2.1 i _ he 4 _ rfl
      have x5 := ev_at2 HI.out.2.1 i _ he 5 _ rfl
      simp only [Nat.add_zero] at x0
      rw [sV_at hnb] at x2
      rw [sV_at hvb] at x5
      obtain ⟨nd, hnd⟩ : ∃ nd, ndA 0 (L.take i) = nd := ⟨_, rfl⟩
      obtain ⟨ns, hns⟩ : ∃ ns, nsA [] (L.take i) = ns := ⟨_, rfl⟩
      obtain ⟨X, hX⟩ : ∃ X, wr.alloc (.cells #[.int .i64 k, .int .i64 en, .string nb, .int .i64 vk, .int .i64 vn, .string vb] 54) = X := ⟨_, rfl⟩
      obtain ⟨A, hA⟩ : ∃ A, wr.heap.size = A := ⟨_, rfl⟩
      have nX : Below wr.heap.size wr X := by rw [← hX]; exact (Below.refl _ wr).alloc (Nat.le_refl _) _
      have HX : Hid (ByI W A [.int .i64 k, .int .i64 en, .string nb, .int .i64 vk, .int .i64 vn, .string vb] g o L X) := ⟨by rw [← hX, ← hA]; exact Full.new wr _ _, HI.out.2.1.below nX HI.out.2.2.size, HI.out.2.2.trans (nX.mono HI.out.2.2.size)⟩
      have HNx : Hid (1 :: evsL 0 [] (L.take (i + 1)) = s.data.toList ++ evL nd ns ⟨k, en, nm, vk, vn, vs⟩) := by
        show _ = _
        rw [hnx, HI.out.1, hnd, hns]
        rfl
      have HB : Hid (nb.data.toList = nm ∧ vb.data.toList = vs) := ⟨hnb, hvb⟩
      have HC1 : Hid (∀ (w : World) (x : Int), x = k + 16 * vk → Calls Tryd.prog 48 #[.int .u64 x, .int .i64 1] w fun e w' => e = .returned (.string ⟨[UInt8.ofNat (k.toNat + 16 * vk.toNat)].toArray⟩) ∧ Below w.heap.size w w') := fun w x hx => by
        have h := wide_any w (k.toNat + 16 * vk.toNat) 1 (by omega) (by decide)
        rw [fxS_one] at h
        rw [hx, show k + 16 * vk = ((k.toNat + 16 * vk.toNat : Nat) : Int) by omega]
        exact h
      have HC2 : Hid (∀ (w : World) (x : Int), x = en - nd → Calls Tryd.prog 79 #[.int .i64 x] w fun e w' => e = .returned (.string ⟨(sgnS (en - nd)).toArray⟩) ∧ Below w.heap.size w w') := fun w x hx => by
        rw [hx]
        exact rsgn_any w _ (by rw [hnd] at hm1; omega)
      have HC3 : Hid (∀ w : World, ByI W A [.int .i64 k, .int .i64 en, .string nb, .int .i64 vk, .int .i64 vn, .string vb] g o L w → Calls Tryd.prog 80 #[.slice (some ⟨g, o, none⟩) n cap, .int .i64 (i : Int), .string nb] w fun e w' => e = .returned (.tuple #[.int .i64 (plc ns nm : Int), .int .i64 (ns.length : Int)]) ∧ Below w.heap.size w w') := fun w hw => by
        have h := rnamed_any w (some ⟨g, o, none⟩) cap L i nb (hw.row.up hw.bel.size) (by have := HN.out; omega) (by have := HN.out; omega)
        rw [HN.out, hns, hnb] at h
        exact h
      have HC4 : Hid (∀ w : World, Calls Tryd.prog 82 #[.agg #[.int .i64 vk, .int .i64 vn, .string vb]] w fun e w' => e = .returned (.string ⟨(vlS vk vn vs).toArray⟩) ∧ Below w.heap.size w w') := fun w => by
        have h := rval_any w vk vn vb (by rw [hvb]; exact pk1) he2
        rw [hvb] at h
        exact h
      have hnl : ns.length ≤ 64 := by rw [← hns]; omega
      have hpl := plc_le ns nm
      have qnm : (nb.size : Int) ≤ 24 := by rw [Lib.size_eq, hnb]; omega
      have qnm0 : (0 : Int) ≤ (nb.size : Int) := by omega
      have hz2 : (sgnS (en - nd)).length ≤ 10 := numS_le10 _ (zz_lt _ (by rw [hnd] at hm1; omega))
      have hz4 : (vlS vk vn vs).length ≤ 400 := by
        have h := evL_le nd ns ⟨k, en, nm, vk, vn, vs⟩ he1 he2 (by rw [hnd] at hm1; exact hm1) (by omega)
        unfold evL at h
        simp only [List.length_cons, List.length_append] at h
        omega
      rw [hnd] at hprev
      clear HI he he1 he2 hm1 hm2 hm3 hs hnb hvb hgB hlt pk1 hnx nX hnd hns pv hi
      obtain ⟨f0, f1, f2, f3, f4, f5⟩ := HX.out.full.six
      have HC5 : Hid (∀ (w : World) (x : Int) (m : Nat), x = (m : Int) → m < 1000000 → Calls Tryd.prog 81 #[.int .u64 x] w fun e w' => e = .returned (.string ⟨(numS m).toArray⟩) ∧ Below w.heap.size w w') := fun w x m hx hm => by
        rw [hx]
        exact rnum_any w m (by omega)
      rcases hprev with ⟨hi0, hnd0⟩ | ⟨m, p, hi0, hp, hnd0, hp1, hp2⟩
      case' inl =>
        have qz : ¬ (0 : Int) < (i : Int) := by omega
        clear hi0
        go_upto_region 9 with fail
      case' inr =>
        have qz : (0 : Int) < (i : Int) := by omega
        have qm : (i : Int) - 1 = (m : Int) := by omega
        have qm0 : (0 : Int) ≤ (m : Int) := by omega
        have qmn : (m : Int) < (n : Int) := by omega
        have y1 := ev_at2 HX.out.row m p hp 1 _ rfl
        clear hi0 hp
        go_upto_region 9 with fail
      all_goals
        go_wp2_with fail
        refine (HC1.out _ _ (by omega)).mono ?_
        rintro e w1 ⟨rfl, hb1⟩
        have H1 : Hid (ByI W A [.int .i64 k, .int .i64 en, .string nb, .int .i64 vk, .int .i64 vn, .string vb] g o L w1) := HX.out.next hb1
        obtain ⟨sK, hsK⟩ : ∃ b : ByteArray, (⟨[UInt8.ofNat (k.toNat + 16 * vk.toNat)].toArray⟩ : ByteArray) = b := ⟨_, rfl⟩
        have zK : sK.size = 1 := by rw [← hsK]; rfl
        have yK : s.size + sK.size ≤ 9223372036854775807 := by omega
        rw [hsK]
        clear hb1 hX x0 x1 x2 x3 x4 x5 f0 f1 f2 f3 f4 f5
        try clear y1
        go_wp2_with fail
        refine (HC2.out _ _ (by first | omega | (simp only [IntKind.wrap_i64]; omega) | (rw [hnd0]))).mono ?_
        rintro e w2 ⟨rfl, hb2⟩
        have H2 : Hid (ByI W A [.int .i64 k, .int .i64 en, .string nb, .int .i64 vk, .int .i64 vn, .string vb] g o L w2) := H1.out.next hb2
        obtain ⟨sS, hsS⟩ : ∃ b : ByteArray, (⟨(sgnS (en - nd)).toArray⟩ : ByteArray) = b := ⟨_, rfl⟩
        have zS : sS.size ≤ 10 := by rw [← hsS, ba_size]; exact hz2
        have yS : (s ++ sK).size + sS.size ≤ 9223372036854775807 := by rw [ByteArray.size_append]; omega
        obtain ⟨s1, hs1⟩ : ∃ b, s ++ sK ++ sS = b := ⟨_, rfl⟩
        have z1 : s1.size ≤ 100100 := by rw [← hs1, ByteArray.size_append, ByteArray.size_append]; omega
        have HS1 : Hid (s1.data.toList = s.data.toList ++ UInt8.ofNat (k.toNat + 16 * vk.toNat) :: sgnS (en - nd)) := by
          show _ = _
          rw [← hs1, cat_list, cat_list, ← hsK, ← hsS]
          simp
        rw [hsS]
        obtain ⟨-, -, c2, -, -, -⟩ := H2.out.full.six
        clear hb2 hsK hsS H1 HX
        go_wp2_with fail
        refine (HC3.out _ H2.out).mono ?_
        rintro e w3 ⟨rfl, hb3⟩
        have H3 : Hid (ByI W A [.int .i64 k, .int .i64 en, .string nb, .int .i64 vk, .int .i64 vn, .string vb] g o L w3) := H2.out.next hb3
        clear hb3 c2 H2 hs1
        obtain ⟨-, -, c2, c3, c4, c5⟩ := H3.out.full.six
        by_cases hnm : nm = []
        · have qe : nb.toList.isEmpty = true := by rw [toL, HB.out.1, hnm]; rfl
          have hA : nmS ns nm = numS 0 := by unfold nmS; rw [if_pos hnm]
          go_wp2_with fail
          refine (HC5.out _ _ 0 (by first | rfl | omega) (by omega)).mono ?_
          rintro e w4 ⟨rfl, hb4⟩
          have H4 : Hid (ByI W A [.int .i64 k, .int .i64 en, .string nb, .int .i64 vk, .int .i64 vn, .string vb] g o L w4) := H3.out.next hb4
          obtain ⟨-, -, -, c3, c4, c5⟩ := H4.out.full.six
          obtain ⟨sN, hsN⟩ : ∃ b : ByteArray, (⟨(numS (0)).toArray⟩ : ByteArray) = b := ⟨_, rfl⟩
          have zN : sN.size ≤ 10 := by rw [← hsN, ba_size]; exact numS_le10 _ (by omega)
          have yN : s1.size + sN.size ≤ 9223372036854775807 := by omega
          obtain ⟨s2, hs2⟩ : ∃ b, s1 ++ sN = b := ⟨_, rfl⟩
          have z2 : s2.size ≤ 100200 := by rw [← hs2, ByteArray.size_append]; omega
          have HS2 : Hid (s2.data.toList = s.data.toList ++ UInt8.ofNat (k.toNat + 16 * vk.toNat) :: (sgnS (en - nd) ++ nmS ns nm)) := by
            show _ = _
            rw [← hs2, cat_list, HS1.out, ← hsN, hA]
            simp
          rw [hsN]
          clear hb4 hsN H3
          go_wp2_with fail
          refine (HC4.out _).mono ?_
          rintro e w5 ⟨rfl, hb5⟩
          have H5 := H4.out.next hb5
          obtain ⟨sV5, hsV⟩ : ∃ b : ByteArray, (⟨(vlS vk vn vs).toArray⟩ : ByteArray) = b := ⟨_, rfl⟩
          have zV : sV5.size ≤ 400 := by rw [← hsV, ba_size]; exact hz4
          have yV : s2.size + sV5.size ≤ 9223372036854775807 := by omega
          have HV : Hid ((s2 ++ sV5).data.toList = 1 :: evsL 0 [] (L.take (i + 1)) ∧ Row w5 W.heap.size (some ⟨g, o, none⟩) L.length (L.flatMap ec) ∧ Below W.heap.size W w5) := by
            refine ⟨?_, H5.row, H5.bel⟩
            rw [HNx.out, cat_list, HS2.out, ← hsV]
            unfold evL
            simp
          rw [hsV]
          clear H5 hsV hb5 c3 c4 c5
          go_wp2
          exact ⟨⟨i + 1, _, by go_num, rfl, by omega, HV⟩, by simp [intOf]; omega⟩
        · have qe : nb.toList.isEmpty = false := by
            rw [toL, HB.out.1, Bool.eq_false_iff, ne_eq, List.isEmpty_iff]
            exact hnm
          by_cases hin : nm ∈ ns
          · obtain ⟨pc, hpc⟩ : ∃ pc, plc ns nm = pc := ⟨_, rfl⟩
            have hA : nmS ns nm = numS pc := by
              unfold nmS
              rw [if_neg hnm, if_pos hin, ← hpc]
              unfold plc
              rw [if_pos hin]
            have hp0 : 0 < pc := by rw [← hpc]; unfold plc; rw [if_pos hin]; omega
            have qp : (0 : Int) < (pc : Int) := by omega
            rw [hpc] at hpl ⊢
            have qp1 : (pc : Int) ≤ 64 := by omega
            go_wp2_with fail
            refine (HC5.out _ _ pc (by first | rfl | omega) (by omega)).mono ?_
            rintro e w4 ⟨rfl, hb4⟩
            have H4 : Hid (ByI W A [.int .i64 k, .int .i64 en, .string nb, .int .i64 vk, .int .i64 vn, .string vb] g o L w4) := H3.out.next hb4
            obtain ⟨-, -, -, c3, c4, c5⟩ := H4.out.full.six
            obtain ⟨sN, hsN⟩ : ∃ b : ByteArray, (⟨(numS (pc)).toArray⟩ : ByteArray) = b := ⟨_, rfl⟩
            have zN : sN.size ≤ 10 := by rw [← hsN, ba_size]; exact numS_le10 _ (by omega)
            have yN : s1.size + sN.size ≤ 9223372036854775807 := by omega
            obtain ⟨s2, hs2⟩ : ∃ b, s1 ++ sN = b := ⟨_, rfl⟩
            have z2 : s2.size ≤ 100200 := by rw [← hs2, ByteArray.size_append]; omega
            have HS2 : Hid (s2.data.toList = s.data.toList ++ UInt8.ofNat (k.toNat + 16 * vk.toNat) :: (sgnS (en - nd) ++ nmS ns nm)) := by
              show _ = _
              rw [← hs2, cat_list, HS1.out, ← hsN, hA]
              simp
            rw [hsN]
            clear hb4 hsN H3
            go_wp2_with fail
            refine (HC4.out _).mono ?_
            rintro e w5 ⟨rfl, hb5⟩
            have H5 := H4.out.next hb5
            obtain ⟨sV5, hsV⟩ : ∃ b : ByteArray, (⟨(vlS vk vn vs).toArray⟩ : ByteArray) = b := ⟨_, rfl⟩
            have zV : sV5.size ≤ 400 := by rw [← hsV, ba_size]; exact hz4
            have yV : s2.size + sV5.size ≤ 9223372036854775807 := by omega
            have HV : Hid ((s2 ++ sV5).data.toList = 1 :: evsL 0 [] (L.take (i + 1)) ∧ Row w5 W.heap.size (some ⟨g, o, none⟩) L.length (L.flatMap ec) ∧ Below W.heap.size W w5) := by
              refine ⟨?_, H5.row, H5.bel⟩
              rw [HNx.out, cat_list, HS2.out, ← hsV]
              unfold evL
              simp
            rw [hsV]
            clear H5 hsV hb5 c3 c4 c5
            go_wp2
            exact ⟨⟨i + 1, _, by go_num, rfl, by omega, HV⟩, by simp [intOf]; omega⟩
          · have hpc : plc ns nm = 0 := by unfold plc; rw [if_neg hin]
            rw [hpc]
            obtain ⟨cn, hcn⟩ : ∃ cn, ns.length = cn := ⟨_, rfl⟩
            rw [hcn] at hnl ⊢
            have qcn : (cn : Int) ≤ 64 := by omega
            have qcn0 : (0 : Int) ≤ (cn : Int) := by omega
            have hA : nmS ns nm = numS (cn + 1) ++ (UInt8.ofNat nb.size :: nm) := by
              unfold nmS
              rw [if_neg hnm, if_neg hin, hcn, Lib.size_eq, HB.out.1]
            obtain ⟨sN, hsN⟩ : ∃ b : ByteArray, (⟨(numS (cn + 1)).toArray⟩ : ByteArray) = b := ⟨_, rfl⟩
            obtain ⟨sL, hsL⟩ : ∃ b : ByteArray, (⟨[UInt8.ofNat nb.size].toArray⟩ : ByteArray) = b := ⟨_, rfl⟩
            have zN : sN.size ≤ 10 := by rw [← hsN, ba_size]; exact numS_le10 _ (by omega)
            have zL : sL.size = 1 := by rw [← hsL]; rfl
            have znb : nb.size ≤ 24 := by omega
            have p1 : ∀ d os, Calls Tryd.prog 81 #[.int .u64 ((cn : Int) + 1)] (Sort.grow (redrawn w3 d) os) fun e w'' => e = .returned (.string sN) ∧ ∃ p : Regrown, w'' = Sort.grow (redrawn w3 p.d) p.os := fun d os => by
              have h := rnum_any (Sort.grow (redrawn w3 d) os) (cn + 1) (by omega)
              rw [hsN] at h
              exact Calls.regrown_of h
            have p2 : ∀ d os, Calls Tryd.prog 48 #[.int .u64 (nb.size : Int), .int .i64 1] (Sort.grow (redrawn w3 d) os) fun e w'' => e = .returned (.string sL) ∧ ∃ p : Regrown, w'' = Sort.grow (redrawn w3 p.d) p.os := fun d os => by
              have h := wide_any (Sort.grow (redrawn w3 d) os) nb.size 1 (by omega) (by decide)
              rw [fxS_one, hsL] at h
              exact Calls.regrown_of h
            have yN : s1.size + sN.size ≤ 9223372036854775807 := by omega
            have yL : (s1 ++ sN).size + sL.size ≤ 9223372036854775807 := by rw [ByteArray.size_append]; omega
            have yB : (s1 ++ sN ++ sL).size + nb.size ≤ 9223372036854775807 := by rw [ByteArray.size_append, ByteArray.size_append]; omega
            obtain ⟨s2, hs2⟩ : ∃ b, s1 ++ sN ++ sL ++ nb = b := ⟨_, rfl⟩
            have z2 : s2.size ≤ 100200 := by rw [← hs2, ByteArray.size_append, ByteArray.size_append, ByteArray.size_append]; omega
            have HS2 : Hid (s2.data.toList = s.data.toList ++ UInt8.ofNat (k.toNat + 16 * vk.toNat) :: (sgnS (en - nd) ++ nmS ns nm)) := by
              show _ = _
              rw [← hs2, cat_list, cat_list, cat_list, HS1.out, ← hsN, ← hsL, hA, HB.out.1]
              simp
            have i2 := cell_regrown c2
            clear c3 c4 c5 hsN hsL hA hin hpc hcn
            go_upto_region 11 with fail
            refine wp_region_quiet_below (by kernel_rfl) (by kernel_rfl) ?_
            repeat (first | go_big_quiet_step (first | with_reducible exact p1 _ _ | with_reducible exact p2 _ _) | quiet_step (first | with_reducible exact p1 _ _ | with_reducible exact p2 _ _))
            refine wpQuiet_nil ?_
            intro _ hw'
            obtain ⟨⟨dq, osq⟩, hw''⟩ := hw'
            subst hw''
            have hY := below_regrown w3 dq osq
            first | (change Exit.then _ _ Exit.normal _ (Sort.grow (redrawn w3 dq) osq)) | skip
            generalize Sort.grow (redrawn w3 dq) osq = w4 at hY ⊢
            have H4 : Hid (ByI W A [.int .i64 k, .int .i64 en, .string nb, .int .i64 vk, .int .i64 vn, .string vb] g o L w4) := H3.out.next hY
            obtain ⟨-, -, -, c3, c4, c5⟩ := H4.out.full.six
            clear p1 p2 i2 c2 hY H3
            go_wp2_with fail
            refine (HC4.out _).mono ?_
            rintro e w5 ⟨rfl, hb5⟩
            have H5 := H4.out.next hb5
            obtain ⟨sV5, hsV⟩ : ∃ b : ByteArray, (⟨(vlS vk vn vs).toArray⟩ : ByteArray) = b := ⟨_, rfl⟩
            have zV : sV5.size ≤ 400 := by rw [← hsV, ba_size]; exact hz4
            have yV : s2.size + sV5.size ≤ 9223372036854775807 := by omega
            have HV : Hid ((s2 ++ sV5).data.toList = 1 :: evsL 0 [] (L.take (i + 1)) ∧ Row w5 W.heap.size (some ⟨g, o, none⟩) L.length (L.flatMap ec) ∧ Below W.heap.size W w5) := by
              refine ⟨?_, H5.row, H5.bel⟩
              rw [HNx.out, cat_list, HS2.out, ← hsV]
              unfold evL
              simp
            rw [hsV]
            clear H5 hsV hb5 c3 c4 c5
            go_wp2
            exact ⟨⟨i + 1, _, by go_num, rfl, by omega, HV⟩, by simp [intOf]; omega⟩
end Go.Proofs.YtnecnchdffmhbaaDoor
