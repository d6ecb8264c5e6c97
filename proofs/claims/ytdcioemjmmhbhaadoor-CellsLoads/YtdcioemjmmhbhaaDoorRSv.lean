import Derived.Test.YtdcioemjmmhbhaaDoorRWide
import Derived.Test.YtdcioemjmmhbhaaDoorRArr
namespace Go.Proofs.YtdcioemjmmhbhaaDoor
open Go.RowKit

theorem ListsAt.next {w W : World} {g : Nat} {Ls : List (List V)} (h : ListsAt w g Ls) (hW : Below w.heap.size w W) : ListsAt W g Ls := fun n hn => by
  obtain ⟨q, c, h1, h2⟩ := h n hn
  refine ⟨q, c, (hW.cell (p := ⟨g, n, none⟩) (block_lt_of_cell h1)).trans h1, fun h0 => ?_⟩
  obtain ⟨b, e, hr⟩ := h2 h0
  exact ⟨b, e, range_next hr hW⟩

set_option maxRecDepth 100000 in
set_option maxHeartbeats 6000000 in
theorem rsave_at {w : World} {p lim : Nat} {Md : List Mr} {Ps : List Dn} {mv pv : Value} {F : Nat → Prop} {A : Hp} (h : RHeap w p lim Md Ps mv pv F) (hr : RelA Md Ps A) (hPl : Ps.length ≤ 4611686018427387904) (htx : ∀ a ∈ A, ∀ v ∈ a.2, v.2.2.size ≤ 256) :
    Calls Tryd.prog 48 #[.pointer (some ⟨p, 0, none⟩)] w fun e w' => e = .returned (.string (bstr (saveS A))) ∧ Below w.heap.size w w' := by
  have hlen := h.len
  have hAM := hr.len
  have htot : (A.flatMap arB).length ≤ 25800000 := by
    have h1 := ars_bound A htx
    have h2 := h.le
    have h3 := h.top
    rw [hr.used] at h2
    omega
  have HTOT : Hid (∀ i, ((A.take i).flatMap arB).length ≤ 25800000) := fun i => by
    have e : A.flatMap arB = (A.take i).flatMap arB ++ (A.drop i).flatMap arB := by rw [← List.flatMap_append, List.take_append_drop]
    rw [e, List.length_append] at htot
    omega
  have HH : Hid (∀ W, Below w.heap.size w W → RHeap W p lim Md Ps mv pv F) := fun W hW => h.next hW
  have c1 := h.c1
  obtain ⟨mq, mcp, rfl, -⟩ := h.mdAt
  have HAM : Hid (A.length = Md.length) := hAM
  have hwd := wide_any (Md.length : Int) ⟨by omega, by omega⟩ 8 (by omega) w
  rw [show ((8 : Nat) : Int) = 8 from rfl] at hwd
  have hct := cat_eq (bstr [72]) (bstr (numB (Md.length : Int) 8)) (by rw [bstr_size, bstr_size, numB_len, List.length_singleton]; omega)
  rw [bstr_app, List.singleton_append] at hct
  clear h
  go_enter Tryd.func48, Tryd.ntmps48
  obtain ⟨s0, hs0⟩ : ∃ s0, bstr (72 :: numB (Md.length : Int) 8) = s0 := ⟨_, rfl⟩
  have HS0 : Hid (bstr (72 :: numB (Md.length : Int) 8) = s0) := hs0
  rw [hs0] at hct
  obtain ⟨t0, ht0⟩ : ∃ t0, bstr (numB (Md.length : Int) 8) = t0 := ⟨_, rfl⟩
  rw [ht0] at hct hwd
  rw [show bstr [72] = ByteArray.mk #[72] from rfl] at hct
  clear hs0 ht0 hAM
  go_wp2_with fail
  refine hwd.mono ?_
  rintro e w1 ⟨rfl, hb1⟩
  go_wp2_with fail
  have AR := rarrays_at (HH.out w1 hb1) hr hPl
  rw [HAM.out] at AR
  clear c1 hct hwd
  refine AR.mono ?_
  rintro e w2 ⟨ga, ca, rfl, hLs, hb12⟩
  have hb2 := below2 hb1 hb12
  have HL : Hid (∀ W, Below w2.heap.size w2 W → ListsAt W ga (lsA A)) := fun W hW => hLs.out.next hW
  have HB2 : Hid (Below w.heap.size w w2) := hb2
  clear AR hb1 hb12 hLs hb2
  have HI0 : Hid (bstr (72 :: (numB (Md.length : Int) 8 ++ (A.take 0).flatMap arB)) = s0) := by
    rw [List.take_zero, List.flatMap_nil, List.append_nil]
    exact HS0
  clear HS0
  go_wp2_with fail
  go_loopw [3, 5] (fun v3 v5 wr => ∃ (i : Nat) (s : ByteArray), i ≤ Md.length ∧ v3 = .string s ∧ Hid (bstr (72 :: (numB (Md.length : Int) 8 ++ (A.take i).flatMap arB)) = s) ∧ v5 = .int .i64 ((i : Int) + 1) ∧ Hid (Below w2.heap.size w2 wr)) (fun _ v _ => Md.length + 1 - (intOf v).toNat)
  case atStart => exact ⟨0, s0, Nat.zero_le _, rfl, HI0, rfl, Below.refl _ _⟩
  case round =>
    clear HI0
    obtain ⟨i, s, hi, rfl, hE, rfl, hB⟩ := hrel
    by_cases hlt : i < Md.length
    case neg =>
      obtain rfl : i = Md.length := by omega
      have hji : ¬ ((Md.length : Int) + 1 < ((Md.length + 1 : Nat) : Int)) := by omega
      have hji' : ¬ ((Md.length : Int) + 1 < (Md.length : Int) + 1) := by omega
      have HE2 : Hid (s = bstr (saveS A)) := by
        have := hE.out
        rw [← HAM.out, List.take_length] at this
        exact this.symm
      clear hE
      go_wp2
      go_ret
      exact ⟨by rw [HE2.out]; rfl, below2 HB2.out hB.out⟩
    have hA : i < A.length := by rw [HAM.out]; exact hlt
    have hi1 : (i : Int) + 1 < ((Md.length + 1 : Nat) : Int) := by omega
    have hi1' : (i : Int) + 1 < (Md.length : Int) + 1 := by omega
    have hi0 : (0 : Int) ≤ (i : Int) + 1 := by omega
    have i0 : (0 : Int) ≤ (i : Int) := by omega
    have i1 : (i : Int) < (Md.length : Int) := by omega
    have i2 : IntKind.i64.wrap ((i : Int) + 1 - 1) = (i : Int) := by rw [IntKind.wrap_i64]; omega
    have i2' : IntKind.i64.wrap (i : Int) = (i : Int) := by rw [IntKind.wrap_i64]; omega
    have hat := hr.at' i A[i] Md[i] (List.getElem?_eq_getElem hA) (List.getElem?_eq_getElem hlt)
    have hok := (HH.out w2 HB2.out).ok Md[i] (List.getElem_mem hlt)
    have htxi := htx A[i] (List.getElem_mem hA)
    have hmN := hlen.2 _ (List.getElem_mem hlt)
    have htk : A.take (i + 1) = A.take i ++ [A[i]] := List.take_succ_eq_append_getElem hA
    have hls : ∃ hk : i + 1 < (lsA A).length, (lsA A)[i + 1] = A[i].2 := ⟨by rw [lsA_len]; omega, by simp [lsA]⟩
    have HLI : Hid (∃ q c, ∀ W, Below w2.heap.size w2 W → W.cell? ⟨ga, i + 1, none⟩ = some (.slice q A[i].2.length c) ∧ ∀ j (hj : j < A[i].2.length), ∃ b, q = some ⟨b, 0, none⟩ ∧ W.cell? ⟨b, j * 3, none⟩ = some (.int .i64 A[i].2[j].1) ∧ W.cell? ⟨b, j * 3 + 1, none⟩ = some (.int .i64 A[i].2[j].2.1) ∧ W.cell? ⟨b, j * 3 + 2, none⟩ = some (.string A[i].2[j].2.2)) := by
      obtain ⟨hk, he⟩ := hls
      obtain ⟨q, c, a1, -⟩ := (HL.out w2 (Below.refl _ _)).get (Below.refl _ _) (i + 1) hk
      refine ⟨q, c, fun W hW => ?_⟩
      obtain ⟨q', c', a2, a3⟩ := (HL.out w2 (Below.refl _ _)).get hW (i + 1) hk
      have a4 := (hW.cell (p := ⟨ga, i + 1, none⟩) (block_lt_of_cell a1)).trans a1
      rw [a2] at a4
      cases a4
      simp only [he] at a2 a3
      exact ⟨a2, a3⟩
    have HMD : Hid (∃ g, mq = some ⟨g, 0, none⟩ ∧ ∀ W, Below w.heap.size w W → W.cell? ⟨p, 1, none⟩ = some (.slice mq Md.length mcp) ∧ W.cell? ⟨g, i * 2, none⟩ = some (.int .i64 A[i].1)) := by
      obtain ⟨q, c, e, hm⟩ := (HH.out w (Below.refl _ _)).mdAt
      cases e
      obtain ⟨g, e, m0, -⟩ := hm i hlt
      refine ⟨g, e, fun W hW => ⟨(HH.out W hW).c1, ?_⟩⟩
      obtain ⟨q, c, e1, hm1⟩ := (HH.out W hW).mdAt
      cases e1
      obtain ⟨g', e2, m0', -⟩ := hm1 i hlt
      rw [e] at e2
      cases e2
      rw [hat.1] at m0'
      exact m0'
    rw [hat.1] at hok
    rw [hat.2.1] at hmN
    have hE2 := hE.out
    have HTI := HTOT.out (i + 1)
    rw [htk, List.flatMap_append] at HTI
    generalize A[i] = a at hok htxi hmN htk HLI HMD HTI
    obtain ⟨ak, al⟩ := a
    simp only at hok htxi hmN HLI HMD
    clear hat hls
    obtain ⟨lq, lc, HLW0⟩ := HLI.out
    have HLW : Hid (∀ W, Below w2.heap.size w2 W → W.cell? ⟨ga, i + 1, none⟩ = some (.slice lq al.length lc) ∧ ∀ j (hj : j < al.length), ∃ b, lq = some ⟨b, 0, none⟩ ∧ W.cell? ⟨b, j * 3, none⟩ = some (.int .i64 al[j].1) ∧ W.cell? ⟨b, j * 3 + 1, none⟩ = some (.int .i64 al[j].2.1) ∧ W.cell? ⟨b, j * 3 + 2, none⟩ = some (.string al[j].2.2)) := HLW0
    obtain ⟨mg, rfl, HMW0⟩ := HMD.out
    have HMW : Hid (∀ W, Below w.heap.size w W → W.cell? ⟨p, 1, none⟩ = some (.slice (some ⟨mg, 0, none⟩) Md.length mcp) ∧ W.cell? ⟨mg, i * 2, none⟩ = some (.int .i64 ak)) := HMW0
    clear HLI HMD HLW0 HMW0
    obtain ⟨PL, hPL⟩ : ∃ PL, 72 :: (numB (Md.length : Int) 8 ++ (A.take i).flatMap arB) = PL := ⟨_, rfl⟩
    have hPLl : PL.length + (arB (ak, al)).length ≤ 25800009 := by
      rw [← hPL, List.length_cons, List.length_append, numB_len]
      rw [List.length_append, show [(ak, al)].flatMap arB = arB (ak, al) by simp] at HTI
      omega
    have hPL2 : 72 :: (numB (Md.length : Int) 8 ++ (A.take (i + 1)).flatMap arB) = PL ++ arB (ak, al) := by
      rw [← hPL, htk, List.flatMap_append]
      simp
    have HPL2 : Hid (72 :: (numB (Md.length : Int) 8 ++ (A.take (i + 1)).flatMap arB) = PL ++ arB (ak, al)) := hPL2
    rw [hPL] at hE2
    have har : arB (ak, al) = numB ak 1 ++ (numB (al.length : Int) 8 ++ al.flatMap elB) := by
      unfold arB
      simp [numB]
    have hfl : ∀ j, ((al.take j).flatMap elB).length ≤ (al.flatMap elB).length := fun j => by
      have e : al.flatMap elB = (al.take j).flatMap elB ++ (al.drop j).flatMap elB := by rw [← List.flatMap_append, List.take_append_drop]
      rw [e, List.length_append]
      omega
    rw [har, List.length_append, List.length_append, numB_len, numB_len] at hPLl
    have HAR : Hid (arB (ak, al) = numB ak 1 ++ (numB (al.length : Int) 8 ++ al.flatMap elB)) := har
    have HFL : Hid (∀ j, PL.length + ((al.take j).flatMap elB).length ≤ 25800000) := fun j => by have := hfl j; omega
    have hwd1 := fun W => wide_any ak ⟨by omega, by omega⟩ 1 (by omega) W
    have hwd2 := fun W => wide_any (al.length : Int) ⟨by omega, by omega⟩ 8 (by omega) W
    simp only [show ((8 : Nat) : Int) = 8 from rfl, show ((1 : Nat) : Int) = 1 from rfl] at hwd1 hwd2
    have hct1 := cat_eq (bstr PL) (bstr (numB ak 1)) (by rw [bstr_size, bstr_size, numB_len]; omega)
    rw [bstr_app] at hct1
    have hct2 := cat_eq (bstr (PL ++ numB ak 1)) (bstr (numB (al.length : Int) 8)) (by rw [bstr_size, bstr_size, numB_len, List.length_append, numB_len]; omega)
    rw [bstr_app] at hct2
    rw [hE2] at hct1
    generalize bstr (numB ak 1) = x1 at hwd1 hct1
    generalize bstr (numB (al.length : Int) 8) = x2 at hwd2 hct2
    generalize bstr (PL ++ numB ak 1) = s1 at hct1 hct2
    obtain ⟨s2, hs2⟩ : ∃ s2, bstr (PL ++ numB ak 1 ++ numB (al.length : Int) 8) = s2 := ⟨_, rfl⟩
    rw [hs2] at hct2
    have HI2 : Hid (bstr (PL ++ (numB ak 1 ++ (numB (al.length : Int) 8 ++ (al.take 0).flatMap elB))) = s2) := by
      rw [List.take_zero, List.flatMap_nil, List.append_nil, ← List.append_assoc]
      exact hs2
    have hk64 : IntKind.u64.wrap ak = ak := by rw [IntKind.wrap_u64]; omega
    have c57a : ∀ d os, Calls Tryd.prog 57 #[.int .u64 ak, .int .i64 1] (Sort.grow (redrawn wr d) os) fun e w'' => e = .returned (.string x1) ∧ ∃ z : Regrown, w'' = Sort.grow (redrawn wr z.d) z.os := fun d os => Calls.regrown_of (hwd1 _)
    have c57b : ∀ d os, Calls Tryd.prog 57 #[.int .u64 (al.length : Int), .int .i64 8] (Sort.grow (redrawn wr d) os) fun e w'' => e = .returned (.string x2) ∧ ∃ z : Regrown, w'' = Sort.grow (redrawn wr z.d) z.os := fun d os => Calls.regrown_of (hwd2 _)
    have hBw := below2 HB2.out hB.out
    have k1 := cell_regrown (HMW.out wr hBw).1
    have k2 := cell_regrown (HMW.out wr hBw).2
    have k3 := cell_regrown (HLW.out wr hB.out).1
    clear hE hE2 hPL hPL2 har hfl hs2 hwd1 hwd2 HTI htk
    go_wp2_with fail
    refine wp_region_quiet_below (by kernel_rfl) (by kernel_rfl) ?_
    repeat (first | go_big_quiet_step (first | with_reducible exact c57a _ _ | with_reducible exact c57b _ _) | quiet_step (first | with_reducible exact c57a _ _ | with_reducible exact c57b _ _))
    refine wpQuiet_nil ?_
    intro _ hw'
    obtain ⟨⟨dq, osq⟩, hw''⟩ := hw'
    subst hw''
    have hY := below_regrown wr dq osq
    change Exit.then _ _ Exit.normal _ (Sort.grow (redrawn wr dq) osq)
    generalize Sort.grow (redrawn wr dq) osq = Y at hY ⊢
    clear c57a c57b
    have hBY : Below w2.heap.size w2 Y := below2 hB.out hY
    clear k1 k2 k3 hct1 hct2 hY hBw hB
    have HBY : Hid (Below w2.heap.size w2 Y) := hBY
    have k4 := (HLW.out Y hBY).1
    clear hBY
    go_wp2_with fail
    clear k4
    go_loopw [3, 6] (fun v3 v6 wr => ∃ (j : Nat) (s : ByteArray), j ≤ al.length ∧ v3 = .string s ∧ Hid (bstr (PL ++ (numB ak 1 ++ (numB (al.length : Int) 8 ++ (al.take j).flatMap elB))) = s) ∧ v6 = .int .i64 (j : Int) ∧ Hid (Below w2.heap.size w2 wr)) (fun _ v _ => al.length - (intOf v).toNat)
    case atStart => exact ⟨0, s2, Nat.zero_le _, rfl, HI2, rfl, HBY⟩
    case round =>
      clear HI2 HBY
      obtain ⟨j, sj, hj, rfl, hE, rfl, hB⟩ := hrel
      obtain ⟨k4, kel⟩ := HLW.out wr hB.out
      by_cases hjl : j < al.length
      case neg =>
        obtain rfl : j = al.length := by omega
        have hjn : ¬ ((al.length : Int) < (al.length : Int)) := by omega
        have HE2 : Hid (bstr (72 :: (numB (Md.length : Int) 8 ++ (A.take (i + 1)).flatMap arB)) = sj) := by
          have := hE.out
          rw [List.take_length, ← HAR.out, ← HPL2.out] at this
          exact this
        clear hE kel
        go_wp2
        exact ⟨⟨i + 1, sj, by omega, rfl, HE2, by go_num, hB⟩, by simp [intOf]; omega⟩
      have hj1 : (j : Int) < (al.length : Int) := by omega
      have j0 : (0 : Int) ≤ (j : Int) := by omega
      obtain ⟨lb, rfl, p0, p1, p2⟩ := kel j hjl
      have hys := htxi al[j] (List.getElem_mem hjl)
      have hfl := HFL.out j
      have htk2 : al.take (j + 1) = al.take j ++ [al[j]] := List.take_succ_eq_append_getElem hjl
      generalize al[j] = y at p0 p1 p2 hys htk2
      obtain ⟨yk, yn, ys⟩ := y
      simp only at p0 p1 p2 hys
      obtain ⟨QL, hQL⟩ : ∃ QL, PL ++ (numB ak 1 ++ (numB (al.length : Int) 8 ++ (al.take j).flatMap elB)) = QL := ⟨_, rfl⟩
      have hQl : QL.length ≤ 25800010 := by
        rw [← hQL, List.length_append, List.length_append, List.length_append, numB_len, numB_len]
        omega
      have HQ2 : Hid (PL ++ (numB ak 1 ++ (numB (al.length : Int) 8 ++ (al.take (j + 1)).flatMap elB)) = QL ++ elB (yk, yn, ys)) := by
        show _ = _
        rw [← hQL, htk2, List.flatMap_append]
        simp
      have hsj := hE.out
      rw [hQL] at hsj
      have hel := elB_len (v := (yk, yn, ys)) hys
      obtain ⟨U, hU⟩ : ∃ U, yn % 18446744073709551616 = U := ⟨_, rfl⟩
      have hU64 : IntKind.u64.wrap yn = U := by rw [IntKind.wrap_u64]; exact hU
      have hnb : ∀ k, k ≤ 8 → numB U k = numB yn k := fun k hk => by rw [← hU]; exact numB_mod yn k hk
      have hUr : 0 ≤ U ∧ U ≤ 18446744073709551615 := by omega
      obtain ⟨X, hX⟩ : ∃ X, wr.alloc (.cells #[.int .i64 yk, .int .i64 yn, .string ys] 37) = X := ⟨_, rfl⟩
      obtain ⟨⟨⟨b0, -⟩, ⟨b1, -⟩⟩, b2, -⟩ := Box3.new wr yk yn ys 37
      have nb : Below wr.heap.size wr X := by rw [← hX]; exact (Below.refl _ wr).alloc (Nat.le_refl _) _
      rw [hX] at b0 b1 b2
      have HBX : Hid (Below w2.heap.size w2 X) := below2 hB.out nb
      clear hU hQL htk2 kel hE nb hB
      by_cases h2 : yk = 2
      · subst h2
        have he : elB (2, yn, ys) = numB U 1 := by rw [hnb 1 (by omega)]; simp [elB, numB]
        have hwd := wide_any U hUr 1 (by omega) X
        rw [show ((1 : Nat) : Int) = 1 from rfl, ← he] at hwd
        have hct := cat_eq (bstr QL) (bstr (elB (2, yn, ys))) (by rw [bstr_size, bstr_size]; omega)
        rw [bstr_app, ← HQ2.out, hsj] at hct
        obtain ⟨sn, hsn⟩ : ∃ sn, bstr (PL ++ (numB ak 1 ++ (numB (al.length : Int) 8 ++ (al.take (j + 1)).flatMap elB))) = sn := ⟨_, rfl⟩
        rw [hsn] at hct
        have HSN : Hid (bstr (PL ++ (numB ak 1 ++ (numB (al.length : Int) 8 ++ (al.take (j + 1)).flatMap elB))) = sn) := hsn
        generalize bstr (elB (2, yn, ys)) = xx at hwd hct
        clear hsn he hsj hnb
        go_wp2_with (first | (go_at_call 57; refine hwd.mono ?_; rintro e w5 ⟨rfl, hb5⟩) | go_in)
        exact ⟨⟨j + 1, sn, by omega, rfl, HSN, by go_num, below2 HBX.out hb5⟩, by simp [intOf]; omega⟩
      have h2' : (yk == 2) = false := by simpa using h2
      by_cases h3 : yk = 3
      · subst h3
        have he : elB (3, yn, ys) = numB (ys.size : Int) 2 ++ ys.data.toList := by simp [elB]
        have hwd := fun W => wide_any (ys.size : Int) ⟨by omega, by omega⟩ 2 (by omega) W
        simp only [show ((2 : Nat) : Int) = 2 from rfl] at hwd
        have hct1 := cat_eq (bstr QL) (bstr (numB (ys.size : Int) 2)) (by rw [bstr_size, bstr_size, numB_len]; omega)
        rw [bstr_app, hsj] at hct1
        have hyb : bstr ys.data.toList = ys := by simp [bstr]
        have hct2 := cat_eq (bstr (QL ++ numB (ys.size : Int) 2)) (bstr ys.data.toList) (by rw [bstr_size, bstr_size, List.length_append, numB_len, ← Lib.size_eq]; omega)
        rw [bstr_app, List.append_assoc, ← he, ← HQ2.out, hyb] at hct2
        obtain ⟨sn, hsn⟩ : ∃ sn, bstr (PL ++ (numB ak 1 ++ (numB (al.length : Int) 8 ++ (al.take (j + 1)).flatMap elB))) = sn := ⟨_, rfl⟩
        rw [hsn] at hct2
        have HSN : Hid (bstr (PL ++ (numB ak 1 ++ (numB (al.length : Int) 8 ++ (al.take (j + 1)).flatMap elB))) = sn) := hsn
        generalize bstr (numB (ys.size : Int) 2) = xx at hwd hct1
        generalize bstr (QL ++ numB (ys.size : Int) 2) = sa at hct1 hct2
        have c57 : ∀ d os, Calls Tryd.prog 57 #[.int .u64 (ys.size : Int), .int .i64 2] (Sort.grow (redrawn X d) os) fun e w'' => e = .returned (.string xx) ∧ ∃ z : Regrown, w'' = Sort.grow (redrawn X z.d) z.os := fun d os => Calls.regrown_of (hwd _)
        have k7 := cell_regrown b2
        have hy64 : IntKind.u64.wrap (ys.size : Int) = (ys.size : Int) := by rw [IntKind.wrap_u64]; omega
        clear hsn he hsj hnb hwd hyb
        go_wp2_with fail
        refine wp_region_quiet_below (by kernel_rfl) (by kernel_rfl) ?_
        repeat (first | go_big_quiet_step (first | with_reducible exact c57 _ _) | quiet_step (first | with_reducible exact c57 _ _))
        refine wpQuiet_nil ?_
        intro _ hw'
        obtain ⟨⟨dq, osq⟩, hw''⟩ := hw'
        subst hw''
        have hY := below_regrown X dq osq
        first | (change Exit.then _ _ Exit.normal _ (Sort.grow (redrawn X dq) osq)) | (change Exit.inBlock _ _ Exit.normal _ (Sort.grow (redrawn X dq) osq)) | skip
        generalize Sort.grow (redrawn X dq) osq = Y2 at hY ⊢
        clear c57
        have HBY2 : Hid (Below w2.heap.size w2 Y2) := below2 HBX.out hY
        clear hY k7 hct1 hct2
        go_wp2
        exact ⟨⟨j + 1, sn, by omega, rfl, HSN, by go_num, HBY2⟩, by simp [intOf]; omega⟩
      · have h3' : (yk == 3) = false := by simpa using h3
        have he : elB (yk, yn, ys) = numB U 8 := by rw [hnb 8 (by omega)]; simp [elB, h2, h3]
        have hwd := wide_any U hUr 8 (by omega) X
        rw [show ((8 : Nat) : Int) = 8 from rfl, ← he] at hwd
        have hct := cat_eq (bstr QL) (bstr (elB (yk, yn, ys))) (by rw [bstr_size, bstr_size]; omega)
        rw [bstr_app, ← HQ2.out, hsj] at hct
        obtain ⟨sn, hsn⟩ : ∃ sn, bstr (PL ++ (numB ak 1 ++ (numB (al.length : Int) 8 ++ (al.take (j + 1)).flatMap elB))) = sn := ⟨_, rfl⟩
        rw [hsn] at hct
        have HSN : Hid (bstr (PL ++ (numB ak 1 ++ (numB (al.length : Int) 8 ++ (al.take (j + 1)).flatMap elB))) = sn) := hsn
        generalize bstr (elB (yk, yn, ys)) = xx at hwd hct
        clear hsn he hsj hnb h2 h3
        go_wp2_with (first | (go_at_call 57; refine hwd.mono ?_; rintro e w5 ⟨rfl, hb5⟩) | go_in)
        exact ⟨⟨j + 1, sn, by omega, rfl, HSN, by go_num, below2 HBX.out hb5⟩, by simp [intOf]; omega⟩

theorem rsave_any {w : World} {p lim N : Nat} {A : Hp} {F : Nat → Prop} (h : RefOf w p lim A N F) (hNb : N ≤ 2000000000000) (htx : ∀ a ∈ A, ∀ v ∈ a.2, v.2.2.size ≤ 256) :
    Calls Tryd.prog 48 #[.pointer (some ⟨p, 0, none⟩)] w fun e w' => e = .returned (.string ⟨(saveS A).toArray⟩) ∧ Below w.heap.size w w' := by
  obtain ⟨Md, Ps, mv, pv, h1, h2, h3⟩ := h
  exact rsave_at h1 h2 (by omega) htx
end Go.Proofs.YtdcioemjmmhbhaaDoor
