import Derived.Test.YtchinflkjcebjaaGreatDoorRDc
import Derived.Deep.CutBlock
import Derived.Deep.DeepCutAuto
namespace Go.Proofs.YtchinflkjcebjaaGreatDoor
open Go.RowKit

theorem num4_nat (l : List UInt8) (p : Nat) : ∃ n : Nat, numV (padL l p 4) = (n : Int) ∧ n < 4294967296 := by
  have hl : (padL l p 4).length = 4 := by unfold padL; simp
  have e := nv4 (numV (padL l p 4))
  rw [numB_numV 4 _ hl (by decide)] at e
  have h0 : 0 ≤ numV (padL l p 4) := by rw [e]; exact Int.emod_nonneg _ (by decide)
  have h1 : numV (padL l p 4) < 4294967296 := by rw [e]; exact Int.emod_lt_of_pos _ (by decide)
  exact ⟨(numV (padL l p 4)).toNat, (Int.toNat_of_nonneg h0).symm, (Int.toNat_lt h0).2 h1⟩
set_option maxRecDepth 100000 in
set_option maxHeartbeats 4000000 in
theorem rdecode_any (b : ByteArray) (w : World) (hb : b.size ≤ 281474976710656) :
    Calls Tryz.prog 19 #[.string b] w fun e w' => ∃ iq ia eq ea tq ta, e = .returned (.tuple #[codeV iq eq tq ia ea ta (decC b.data.toList), .int .i64 (decE b.data.toList)]) ∧ Hid (∃ Es, CodeF w w' iq ia eq ea tq ta Es (decC b.data.toList)) := by
  obtain ⟨l, HL⟩ : ∃ l, Hid (l = lt b) := ⟨_, (rfl : lt b = _)⟩
  have HLS : Hid (l.length = b.size) := by show _ = _; rw [HL.out]; exact lt_len b
  have hbi : (b.size : Int) ≤ 281474976710656 := by omega
  have HB : Hid (b.size ≤ 281474976710656) := hb
  obtain ⟨W0, hW0⟩ : ∃ W0, W0 = w.alloc (.cells zc 28) := ⟨_, rfl⟩
  have nb : Below w.heap.size w W0 := by rw [hW0]; exact (Below.refl _ w).alloc (Nat.le_refl _) _
  have P0 : W0.heap[w.heap.size]? = some (.cells zc 28) := by rw [hW0]; exact World.alloc_heap_new w _
  have hz0 : w.heap.size < W0.heap.size := by rw [hW0]; simp
  obtain ⟨W1, hW1⟩ : ∃ W1, W1 = W0.alloc (.cells #[.string b, .int .i64 1] 81) := ⟨_, rfl⟩
  have nb1 : Below W0.heap.size W0 W1 := by rw [hW1]; exact (Below.refl _ W0).alloc (Nat.le_refl _) _
  have r1 : Rr W1 W0.heap.size b 1 := by rw [hW1]; exact World.alloc_heap_new W0 _
  have P1 := (nb1.block w.heap.size hz0).trans P0
  have bw1 := below2 nb nb1
  have n1 := rnumber_f W1 W0.heap.size 1 1 b r1 (by decide)
  rw [← HL.out] at n1
  have HMn : Hid (numV (padL l 1 1) = byN l 1) := pad1 l 1
  rw [HMn.out] at n1
  have r1w : w.heap.size < W1.heap.size := by have := r1.lt; omega
  have HW1 : Hid (W1 = W0.alloc (.cells #[.string b, .int .i64 1] 81)) := hW1
  clear hW1 hb P0
  go_enter Tryz.func19, Tryz.ntmps19
  go_upto_region 1 with fail
  rw [← hW0]
  clear hW0
  go_upto_region 2 with fail
  rw [← HW1.out]
  clear HW1
  generalize W0.heap.size = rb at *
  go_wp2_with fail
  refine n1.mono ?_
  rintro e W2 ⟨rfl, hw2⟩
  have P2 := (hw2.out.2.block w.heap.size r1w (by omega)).trans P1
  have bw2 : Below w.heap.size w W2 := bw1.trans (hw2.out.2.below (fun _ q => by omega) bw1.size)
  obtain ⟨W3, hW3⟩ : ∃ W3, W3 = W2.alloc (.cells (cv (.slice none 0 0) (.slice none 0 0) (.slice none 0 0) (byN l 1)) 28) := ⟨_, rfl⟩
  have nb3 : Below W2.heap.size W2 W3 := by rw [hW3]; exact (Below.refl _ W2).alloc (Nat.le_refl _) _
  have hz2 := hw2.out.1.lt
  have D3 : Hid (Dk w W3 rb w.heap.size W2.heap.size (cv (.slice none 0 0) (.slice none 0 0) (.slice none 0 0) (byN l 1)) b 2) :=
    ⟨hw2.out.1.next nb3, below2 bw2 nb3, (nb3.block _ (by omega)).trans P2, by rw [hW3]; exact World.alloc_heap_new W2 _, by omega, by omega, by omega, by omega, Nat.le_refl _, bw2.size⟩
  clear n1 P1 P2 hw2 nb nb1 nb3 bw1 bw2 r1
  go_upto_region 3 with fail
  rw [← hW3]
  clear hW3
  generalize W2.heap.size = p5 at *
  have n2 := rnumber_f W3 rb 1 2 b D3.out.rd (by decide)
  rw [← HL.out] at n2
  have HNn : Hid (numV (padL l 2 1) = (((l.getD 2 0).toNat : Nat) : Int)) := pad1 l 2
  rw [HNn.out] at n2
  have hn255 := UInt8.toNat_lt (l.getD 2 0)
  generalize hnn : (l.getD 2 0).toNat = n0 at *
  have hnE : Hid (ldEs l = ldR (ldE l) (ldEq l) l.length n0 3) := by show _ = _; unfold ldEs; rw [hnn]
  generalize byN l 1 = mn at *
  clear hnn HNn
  go_wp2_with fail
  refine n2.mono ?_
  rintro e W4 ⟨rfl, hw4⟩
  have D4 : Hid (Dk w W4 rb w.heap.size p5 (cv (.slice none 0 0) (.slice none 0 0) (.slice none 0 0) mn) b 3) := D3.out.call hw4.out.1 hw4.out.2
  clear n2 hw4 D3
  go_upto_block 0 with fail
  go_cut [6] (fun u wx => ∃ (p : Nat) (q : Option Addr) (cp : Nat) (Es : List Em), Hid (Dk w wx rb w.heap.size p5 (cv (.slice none 0 0) (.slice q Es.length cp) (.slice none 0 0) mn) b p) ∧ Hid (Rows wx w.heap.size (.slice none 0 0) (.slice q Es.length cp) (.slice none 0 0) [] Es []) ∧ Hid (Es.map (·.1) = (ldEs l).1 ∧ p = (ldEs l).2) ∧ Hid (p ≤ b.size + 1000))
  case first =>
    go_wp2_with fail
    go_loopw [6] (fun i wr => ∃ (n p : Nat) (q : Option Addr) (cp : Nat) (Es : List Em), i = .int .i64 (n : Int) ∧ n ≤ 255 ∧ Hid (Dk w wr rb w.heap.size p5 (cv (.slice none 0 0) (.slice q Es.length cp) (.slice none 0 0) mn) b p) ∧ Hid (Rows wr w.heap.size (.slice none 0 0) (.slice q Es.length cp) (.slice none 0 0) [] Es []) ∧ Hid (Es.map (·.1) ++ (ldR (ldE l) (ldEq l) l.length n p).1 = (ldEs l).1 ∧ (ldR (ldE l) (ldEq l) l.length n p).2 = (ldEs l).2) ∧ Hid (p ≤ b.size + 1000)) (fun i _ => (intOf i).toNat)
    case atStart => exact ⟨n0, 3, none, 0, [], rfl, by omega, D4, Rows.nil _ _, by rw [hnE.out]; exact ⟨rfl, rfl⟩, by show _ ≤ _; omega⟩
    case round =>
      obtain ⟨n, p, q, cp, Es, rfl, hn, hD, hO, hE, hp⟩ := hrel
      clear D4
      obtain ⟨⟨c0, c1⟩, c2⟩ := hD.out.rd.cells
      by_cases hz : n = 0
      case pos =>
        subst hz
        have hz1 : ¬ (0 : Int) < ((0 : Nat) : Int) := by decide
        go_wp2_with fail
        go_meet
        case rel => exact ⟨p, q, cp, Es, hD, hO, ⟨by have := hE.out.1; rw [ldR, List.append_nil] at this; exact this, hE.out.2⟩, hp⟩
      have hz1 : (0 : Int) < (n : Int) := by omega
      by_cases hlt : p < b.size
      case neg =>
        have hl1 : ¬ (p : Int) < (b.size : Int) := by omega
        have HX : Hid (ldR (ldE l) (ldEq l) l.length n p = ([], p)) := by
          obtain ⟨m, rfl⟩ : ∃ m, n = m + 1 := ⟨n - 1, by omega⟩
          show _ = _
          unfold ldR
          rw [if_neg (by rw [HLS.out]; exact hlt)]
        go_wp2_with fail
        go_meet
        case rel => exact ⟨p, q, cp, Es, hD, hO, ⟨by have := hE.out.1; rw [HX.out, List.append_nil] at this; exact this, by have := hE.out.2; rw [HX.out] at this; exact this⟩, hp⟩
      have hl1 : (p : Int) < (b.size : Int) := by omega
      obtain ⟨m, rfl⟩ : ∃ m, n = m + 1 := ⟨n - 1, by omega⟩
      have HX : Hid (ldR (ldE l) (ldEq l) l.length (m + 1) p = (ldE l p :: (ldR (ldE l) (ldEq l) l.length m (ldEq l p)).1, (ldR (ldE l) (ldEq l) l.length m (ldEq l p)).2)) := by
        show _ = _
        rw [ldR, if_pos (by rw [HLS.out]; exact hlt)]
      have t1 := rtext_f wr rb p b hD.out.rd (by have := HB.out; omega) HB.out
      rw [← HL.out] at t1
      have hq1 : ldQ l p ≤ b.size + 256 := by have := ldQ_le l p; omega
      have hK1 := ldK_le l p
      have hEq1 := ldEq_le l p
      obtain ⟨nm, Hnm⟩ : ∃ nm, Hid (nm = YtchinflkjcebjaaGreatDoor.bk (ldT l p)) := ⟨_, (rfl : YtchinflkjcebjaaGreatDoor.bk (ldT l p) = _)⟩
      rw [← Hnm.out] at t1
      have HEe : Hid (ldE l p = ⟨nm, numV (padL l (ldQ l p) 4), byN l (ldQ l p + 4), ldSo l (ldQ l p + 6) (ldK l p), byN l (ldQ l p + 6 + ldK l p)⟩ ∧ ldEq l p = ldQ l p + 6 + ldK l p + 1) := ⟨by rw [Hnm.out]; rfl, rfl⟩
      have HKk : Hid (numV (padL l (ldQ l p + 5) 1) = (ldK l p : Int)) := pad1 l _
      generalize ldQ l p = q1 at *
      generalize ldK l p = K at *
      clear Hnm
      have HB2 := HB.out
      go_wp2_with fail
      refine t1.mono ?_
      rintro e W5 ⟨rfl, hw5⟩
      have D5 : Hid (Dk w W5 rb w.heap.size p5 (cv (.slice none 0 0) (.slice q Es.length cp) (.slice none 0 0) mn) b q1) := hD.out.call hw5.out.1 hw5.out.2
      have O5 : Hid (Rows W5 w.heap.size (.slice none 0 0) (.slice q Es.length cp) (.slice none 0 0) [] Es []) := hO.out.rr hD.out.rd hw5.out.2
      obtain ⟨W6, hW6⟩ : ∃ W6, W6 = W5.alloc (.cells (ev nm 0 0 (.slice none 0 0) 0) 68) := ⟨_, rfl⟩
      have nb6 : Below W5.heap.size W5 W6 := by rw [hW6]; exact (Below.refl _ W5).alloc (Nat.le_refl _) _
      have hzr := D5.out.rd.lt
      have E6 : Hid (Ek W5 W6 rb W5.heap.size (ev nm 0 0 (.slice none 0 0) 0) 68 b q1) := ⟨D5.out.rd.next nb6, Kp.of nb6, by rw [hW6]; exact World.alloc_heap_new W5 _, by omega, Nat.le_refl _⟩
      clear t1 hw5 hD hO c0 c1 c2 nb6
      go_upto_region 6 with fail
      rw [← hW6]
      clear hW6
      obtain ⟨p7, hp7⟩ : ∃ p7, Hid (p7 = W5.heap.size) := ⟨_, (rfl : W5.heap.size = _)⟩
      rw [← hp7.out] at E6 ⊢
      have n2 := rnumber_f W6 rb 4 q1 b E6.out.rd (by omega)
      rw [← HL.out] at n2
      generalize numV (padL l q1 4) = st at *
      go_wp2_with fail
      refine n2.mono ?_
      rintro e W7 ⟨rfl, hw7⟩
      have E7 := E6.out.call hw7.out.1 hw7.out.2
      obtain ⟨x1, y1⟩ := blk_cell E7.b7 1 (.int .i64 0) rfl
      have E8 : Hid (Ek W5 (W7.setCell ⟨p7, 1, none⟩ (.int .i64 st)) rb p7 (ev nm st 0 (.slice none 0 0) 0) 68 b (q1 + 4)) := E7.set 1 _
      clear n2 hw7 E6 E7
      go_upto_region 7 with fail
      generalize W7.setCell ⟨p7, 1, none⟩ (.int .i64 st) = W8 at *
      have n2 := rnumber_f W8 rb 1 (q1 + 4) b E8.out.rd (by omega)
      rw [← HL.out] at n2
      have HPp : Hid (numV (padL l (q1 + 4) 1) = byN l (q1 + 4)) := pad1 l _
      rw [HPp.out] at n2
      generalize byN l (q1 + 4) = pr at *
      clear x1 y1 HPp
      go_wp2_with fail
      refine n2.mono ?_
      rintro e W9 ⟨rfl, hw9⟩
      have E9 := E8.out.call hw9.out.1 hw9.out.2
      obtain ⟨x1, y1⟩ := blk_cell E9.b7 2 (.int .i64 0) rfl
      have E10 : Hid (Ek W5 (W9.setCell ⟨p7, 2, none⟩ (.int .i64 pr)) rb p7 (ev nm st pr (.slice none 0 0) 0) 68 b (q1 + 5)) := E9.set 2 _
      clear n2 hw9 E8 E9
      go_upto_region 8 with fail
      generalize W9.setCell ⟨p7, 2, none⟩ (.int .i64 pr) = W10 at *
      have n2 := rnumber_f W10 rb 1 (q1 + 5) b E10.out.rd (by omega)
      rw [← HL.out, HKk.out] at n2
      clear x1 y1 HKk
      go_wp2_with fail
      refine n2.mono ?_
      rintro e W11 ⟨rfl, hw11⟩
      have E11 : Hid (Ek W5 W11 rb p7 (ev nm st pr (.slice none 0 0) 0) 68 b (q1 + 6)) := E10.out.call hw11.out.1 hw11.out.2
      clear n2 hw11 E10
      go_wp2_with fail
      go_loopw [8] (fun i wv => ∃ (k' pp : Nat) (q' : Option Addr) (cp' : Nat) (so' : List Int), i = .int .i64 (k' : Int) ∧ k' ≤ 255 ∧ Hid (Ek W5 wv rb p7 (ev nm st pr (.slice q' so'.length cp') 0) 68 b pp) ∧ Hid (wv.ownsRow W5.heap.size 66 1 (.slice q' so'.length cp') so'.length (sv so')) ∧ Hid (so' ++ ldSo l pp k' = ldSo l (q1 + 6) K ∧ pp + k' = q1 + 6 + K)) (fun i _ => (intOf i).toNat)
      case atStart => exact ⟨K, q1 + 6, none, 0, [], rfl, by omega, E11, World.ownsRow_nil _ _ _ _, ⟨rfl, rfl⟩⟩
      case round =>
        obtain ⟨k', pp, q', cp', so', rfl, hk', hE', hO', hS'⟩ := hrel
        clear E11
        by_cases hkz : k' = 0
        case pos =>
          subst hkz
          have hkz1 : ¬ (0 : Int) < ((0 : Nat) : Int) := by decide
          have hSo : so' = ldSo l (q1 + 6) K := by have := hS'.out.1; unfold ldSo at this ⊢; simpa using this
          have hPp : pp = q1 + 6 + K := hS'.out.2
          rw [← hSo, ← hPp] at HEe
          have hsl : so'.length ≤ 255 := by rw [hSo]; unfold ldSo; simp only [List.length_map, List.length_range]; omega
          have n2 := rnumber_f wr rb 1 pp b hE'.out.rd (by omega)
          rw [← HL.out] at n2
          have HPp : Hid (numV (padL l pp 1) = byN l pp) := pad1 l _
          rw [HPp.out] at n2
          generalize byN l pp = vr at *
          clear hS' hSo hPp HPp
          go_wp2_with fail
          refine n2.mono ?_
          rintro e V1 ⟨rfl, hv1⟩
          have E1 := hE'.out.call hv1.out.1 hv1.out.2
          have O1 := own_rr hO'.out hE'.out.rd (by decide) hv1.out.2
          obtain ⟨x1, y1⟩ := blk_cell E1.b7 4 (.int .i64 0) rfl
          have E2 : Hid (Ek W5 (V1.setCell ⟨p7, 4, none⟩ (.int .i64 vr)) rb p7 (ev nm st pr (.slice q' so'.length cp') vr) 68 b (pp + 1)) := E1.set 4 _
          have O2 : Hid ((V1.setCell ⟨p7, 4, none⟩ (.int .i64 vr)).ownsRow W5.heap.size 66 1 (.slice q' so'.length cp') so'.length (sv so')) := own_setB O1 E1.b7 (by decide) _
          clear n2 hv1 hE' hO' E1 O1
          go_upto_region 13 with fail
          generalize V1.setCell ⟨p7, 4, none⟩ (.int .i64 vr) = V2 at *
          clear x1 y1
          have D2 : Hid (Dk w V2 rb w.heap.size p5 (cv (.slice none 0 0) (.slice q Es.length cp) (.slice none 0 0) mn) b (pp + 1)) := D5.out.call E2.out.rd E2.out.kp
          have R2 : Hid (Rows V2 w.heap.size (.slice none 0 0) (.slice q Es.length cp) (.slice none 0 0) [] Es []) := O5.out.rr D5.out.rd E2.out.kp
          have S2 : Hid (V2.ownsRow w.heap.size 66 1 (.slice q' so'.length cp') so'.length (sv so')) := own_down O2.out D5.out.bel.size
          have hEl : Es.length ≤ 255 := by
            have h1 := congrArg List.length hE.out.1
            have h2 := ldR_len (ldE l) (ldEq l) l.length n0 3
            rw [← hnE.out] at h2
            rw [List.length_append, List.length_map] at h1
            omega
          obtain ⟨f1, -⟩ := blk_cell D2.out.b5 1 (.slice q Es.length cp) rfl
          obtain ⟨g0, -⟩ := blk_cell E2.out.b7 0 (.string nm) rfl
          obtain ⟨g1, -⟩ := blk_cell E2.out.b7 1 (.int .i64 st) rfl
          obtain ⟨g2, -⟩ := blk_cell E2.out.b7 2 (.int .i64 pr) rfl
          obtain ⟨g3, -⟩ := blk_cell E2.out.b7 3 (.slice q' so'.length cp') rfl
          obtain ⟨g4, -⟩ := blk_cell E2.out.b7 4 (.int .i64 vr) rfl
          have H1 : ∀ u ∈ (#[.string nm, .int .i64 st, .int .i64 pr, .slice q' so'.length cp', .int .i64 vr] : Array Value).toList, u.oneCell' = true := ec_one (⟨nm, st, pr, so', vr⟩, q', cp')
          have HXx : Hid (∀ v9 V9, V9.ownsRow w.heap.size 68 5 v9 (Es.length + 1) (Es.flatMap ec ++ [.string nm, .int .i64 st, .int .i64 pr, .slice q' so'.length cp', .int .i64 vr]) → (V2.alloc (.cells #[.string nm, .int .i64 st, .int .i64 pr, .slice q' so'.length cp', .int .i64 vr] 68)).grownBy V9 (Value.slice q Es.length cp).ownBlock → ∃ q9 c9, v9 = .slice q9 (Es.length + 1) c9 ∧ (V9.cell? ⟨p5, 1, none⟩ = some (.slice q Es.length cp) ∧ V9.frozen? ⟨p5, 1, none⟩ = false) ∧ Hid (Dk w (V9.setCell ⟨p5, 1, none⟩ (.slice q9 (Es.length + 1) c9)) rb w.heap.size p5 (cv (.slice none 0 0) (.slice q9 (Es.length + 1) c9) (.slice none 0 0) mn) b (pp + 1) ∧ Rows (V9.setCell ⟨p5, 1, none⟩ (.slice q9 (Es.length + 1) c9)) w.heap.size (.slice none 0 0) (.slice q9 (Es.length + 1) c9) (.slice none 0 0) [] (Es ++ [(⟨nm, st, pr, so', vr⟩, q', cp')]) [])) := fun v9 V9 ho hg => by
            obtain ⟨q9, c9, rfl, -, -⟩ := own_slice ho
            have m9 := D2.out.own (.cells #[.string nm, .int .i64 st, .int .i64 pr, .slice q' so'.length cp', .int .i64 vr] 68) R2.out.er (by decide) (by decide) hg
            exact ⟨q9, c9, rfl, blk_cell m9.b5 1 _ rfl, m9.set 1 _, (R2.out.appE (⟨nm, st, pr, so', vr⟩, q', cp') _ hg ho S2.out).set m9.b5 _⟩
          have HO2 : Hid (V2.ownsRow w.heap.size 68 5 (.slice q Es.length cp) Es.length (Es.flatMap ec)) := R2.out.er
          have hzw : w.heap.size ≤ V2.heap.size := D2.out.bel.size
          clear D5 O5 O2
          go_wp2_with (first
            | (at_builtin; refine wpList_app 25 68 _ 5 64 Tryz.underlying25 infoEnt (by rfl) (by decide) (by decide) (by rfl) _ _ (by rfl) w.heap.size (.slice q Es.length cp) Es.length (Es.flatMap ec) (by rfl) HO2.out _ (by rfl) H1 (by rfl) (by omega) hzw ?_; intro v9 V9 ho9 hg9; obtain ⟨q9, c9, rfl, ⟨k0, k1⟩, HA9⟩ := HXx.out v9 V9 ho9.out hg9.out.1)
            | fail)
          exact ⟨⟨m, pp + 1, q9, c9, Es ++ [(⟨nm, st, pr, so', vr⟩, q', cp')], by go_num, by omega, by rw [List.length_append]; exact HA9.out.1, by rw [List.length_append]; exact HA9.out.2, ⟨by rw [← hE.out.1, HX.out, ← HEe.out.2, ← HEe.out.1]; simp [HEe.out.1], by rw [← hE.out.2, HX.out, HEe.out.2]⟩, by show _ ≤ _; have := HEe.out.2; omega⟩, by simp [intOf]⟩
        obtain ⟨k2, rfl⟩ : ∃ k2, k' = k2 + 1 := ⟨k' - 1, by omega⟩
        have hk1 : (0 : Int) < ((k2 + 1 : Nat) : Int) := by omega
        have HSo : Hid (ldSo l pp (k2 + 1) = byN l pp :: ldSo l (pp + 1) k2) := by
          show _ = _
          unfold ldSo
          rw [List.range_succ_eq_map, List.map_cons, List.map_map]
          congr 1
          refine List.map_congr_left fun i _ => ?_
          show byN l (pp + (i + 1)) = byN l (pp + 1 + i)
          rw [show pp + (i + 1) = pp + 1 + i by omega]
        have hsl : so'.length ≤ 255 := by
          have h1 := congrArg List.length hS'.out.1
          rw [List.length_append] at h1
          unfold ldSo at h1
          simp only [List.length_map, List.length_range] at h1
          omega
        have hpp : pp ≤ b.size + 600 := by have := hS'.out.2; omega
        have bd : Below wr.heap.size wr wr.drew := (Below.refl _ wr).drew
        have hEd := hE'.out.next bd
        have hOd := own_next hO'.out bd
        have n2 := rnumber_v wr.drew rb 1 pp b hEd.rd (by omega)
        rw [← HL.out] at n2
        have HPp : Hid (numV (padL l pp 1) = byN l pp) := pad1 l _
        rw [HPp.out] at n2
        generalize byN l pp = vr at *
        obtain ⟨x3, -⟩ := blk_cell hE'.out.b7 3 (.slice q' so'.length cp') rfl
        have HW8 : Hid (∀ V8, (Rr V8 rb b (pp + 1) ∧ Kp (fun x => x = rb) wr.drew V8) → Ek W5 V8 rb p7 (ev nm st pr (.slice q' so'.length cp') 0) 68 b (pp + 1) ∧ V8.ownsRow W5.heap.size 66 1 (.slice q' so'.length cp') so'.length (sv so')) := fun V8 hw => ⟨hEd.call hw.1 hw.2, own_rr hOd hEd.rd (by decide) hw.2⟩
        have H1 : Hid (∀ u ∈ ([.int .i64 vr] : List Value), u.oneCell' = true) := fun u hu => by obtain rfl := List.mem_singleton.1 hu; rfl
        clear bd hEd hOd hE' hO' HPp
        go_wp2_with fail
        go_region_law (first
          | (refine step_call (by rfl) 42 [.tmp 44, .const (.int .i64 1)] #[_, _] [.pointer (some ⟨rb, 0, none⟩), .int .i64 1] (by rfl) (by rfl) (callrn _ _) _ n2 ?_; rintro v8 V8 ⟨rfl, hw8⟩; obtain ⟨m8, o8⟩ := HW8.out V8 hw8.out; obtain ⟨x8, -⟩ := blk_cell m8.b7 3 (.slice q' so'.length cp') rfl; obtain ⟨x8a, -⟩ := blk_cell (m8.next ((Below.refl _ V8).alloc (Nat.le_refl _) (.cells #[.int .i64 vr] 66))).b7 3 (.slice q' so'.length cp') rfl)
          | (refine step_app 65 66 _ 1 8 Tryz.underlying65 infoSort (by rfl) (by decide) (by decide) (by rfl) _ _ (by rfl) W5.heap.size (.slice q' so'.length cp') so'.length (sv so') (by rfl) (own_next o8 ((Below.refl _ V8).alloc (Nat.le_refl _) _)) V8.heap.size [.int .i64 vr] rfl H1.out (by rfl) (range_new V8 _ _) (by omega) (by have := o8; have := m8.kp.size; simp; omega) ?_; intro v9 V9 ho9 hg9; have m9 := m8.own (.cells #[.int .i64 vr] 66) o8 (by decide) (by decide) hg9.out.1; obtain ⟨x9, y9⟩ := blk_cell m9.b7 3 (.slice q' so'.length cp') rfl; obtain ⟨q9, c9, rfl, -, -⟩ := own_slice ho9.out))
        all_goals
          have E12 : Hid (Ek W5 (V9.setCell ⟨p7, 3, none⟩ (.slice q9 (so'.length + 1) c9)) rb p7 (ev nm st pr (.slice q9 (so'.length + 1) c9) 0) 68 b (pp + 1)) := m9.set 3 _
          have O12 : Hid ((V9.setCell ⟨p7, 3, none⟩ (.slice q9 (so'.length + 1) c9)).ownsRow W5.heap.size 66 1 (.slice q9 (so'.length + 1) c9) (so'.length + 1) (sv so' ++ [.int .i64 vr])) := own_setB ho9.out m9.b7 (by decide) _
          clear m9 ho9 hg9 x8 x8a x9 y9 m8 o8 hw8 HW8 n2 x3
          generalize V9.setCell ⟨p7, 3, none⟩ (.slice q9 (so'.length + 1) c9) = V10 at *
          go_wp2
          exact ⟨⟨k2, pp + 1, q9, c9, so' ++ [vr], by go_num, by omega, by rw [List.length_append]; exact E12, by rw [List.length_append, sv_app]; exact O12, ⟨by rw [← hS'.out.1, HSo.out]; simp, by have := hS'.out.2; omega⟩⟩, by simp [intOf]⟩
  case rest =>
    obtain ⟨p, q, cp, Es, hD, hO, hE, hp⟩ := hcut
    have hpb := hp.out
    have HB2 := HB.out
    have n2 := rnumber_f wc rb 2 p b hD.out.rd (by omega)
    rw [← HL.out] at n2
    have hr2 := numV_range (padL l p 2) (by unfold padL; simp)
    have hl2 : (padL l p 2).length = 2 := by unfold padL; simp
    rw [hl2] at hr2
    obtain ⟨nt, Hnt⟩ : ∃ nt : Nat, Hid (numV (padL l p 2) = (nt : Int)) := ⟨(numV (padL l p 2)).toNat, (by show _ = _; omega)⟩
    have hnt : nt < 65536 := by have := Hnt.out; omega
    rw [Hnt.out] at n2
    have hTs : Hid (ldTs l = ldR (fun p => YtchinflkjcebjaaGreatDoor.bk (ldT l p)) (ldQ l) l.length nt (p + 2)) := by
      show _ = _
      unfold ldTs
      rw [← hE.out.2, Hnt.out, Int.toNat_natCast]
    clear hr2 hl2 Hnt D4 hnE
    go_wp2_with fail
    refine n2.mono ?_
    rintro e W5 ⟨rfl, hw5⟩
    have D5 : Hid (Dk w W5 rb w.heap.size p5 (cv (.slice none 0 0) (.slice q Es.length cp) (.slice none 0 0) mn) b (p + 2)) := hD.out.call hw5.out.1 hw5.out.2
    have O5 : Hid (Rows W5 w.heap.size (.slice none 0 0) (.slice q Es.length cp) (.slice none 0 0) [] Es []) := hO.out.rr hD.out.rd hw5.out.2
    clear n2 hw5 hD hO
    go_upto_block 4 with fail
    go_cut [6] (fun u wx => ∃ (pt : Nat) (tq : Option Addr) (ta : Nat) (T : List ByteArray), Hid (Dk w wx rb w.heap.size p5 (cv (.slice none 0 0) (.slice q Es.length cp) (.slice tq T.length ta) mn) b pt) ∧ Hid (Rows wx w.heap.size (.slice none 0 0) (.slice q Es.length cp) (.slice tq T.length ta) [] Es T) ∧ Hid (T = (ldTs l).1 ∧ pt = (ldTs l).2) ∧ Hid (pt ≤ b.size + 2000))
    case first =>
      go_wp2_with fail
      go_loopw [6] (fun i wr => ∃ (n pt : Nat) (tq : Option Addr) (ta : Nat) (T : List ByteArray), i = .int .i64 (n : Int) ∧ n ≤ 65535 ∧ Hid (Dk w wr rb w.heap.size p5 (cv (.slice none 0 0) (.slice q Es.length cp) (.slice tq T.length ta) mn) b pt) ∧ Hid (Rows wr w.heap.size (.slice none 0 0) (.slice q Es.length cp) (.slice tq T.length ta) [] Es T) ∧ Hid (T ++ (ldR (fun p => YtchinflkjcebjaaGreatDoor.bk (ldT l p)) (ldQ l) l.length n pt).1 = (ldTs l).1 ∧ (ldR (fun p => YtchinflkjcebjaaGreatDoor.bk (ldT l p)) (ldQ l) l.length n pt).2 = (ldTs l).2) ∧ Hid (pt ≤ b.size + 2000)) (fun i _ => (intOf i).toNat)
      case atStart => exact ⟨nt, p + 2, none, 0, [], rfl, by omega, D5, O5, by rw [hTs.out]; exact ⟨rfl, rfl⟩, by show _ ≤ _; omega⟩
      case round =>
        obtain ⟨n, pt, tq, ta, T, rfl, hn, hD, hO, hT, hpt⟩ := hrel
        clear D5 O5
        obtain ⟨⟨c0, c1⟩, c2⟩ := hD.out.rd.cells
        by_cases hz : n = 0
        case pos =>
          subst hz
          have hz1 : ¬ (0 : Int) < ((0 : Nat) : Int) := by decide
          go_wp2_with fail
          go_meet
          case rel => exact ⟨pt, tq, ta, T, hD, hO, ⟨by have := hT.out.1; rw [ldR, List.append_nil] at this; exact this, hT.out.2⟩, hpt⟩
        have hz1 : (0 : Int) < (n : Int) := by omega
        by_cases hlt : pt < b.size
        case neg =>
          have hl1 : ¬ (pt : Int) < (b.size : Int) := by omega
          have HX : Hid (ldR (fun p => YtchinflkjcebjaaGreatDoor.bk (ldT l p)) (ldQ l) l.length n pt = ([], pt)) := by
            obtain ⟨m, rfl⟩ : ∃ m, n = m + 1 := ⟨n - 1, by omega⟩
            show _ = _
            unfold ldR
            rw [if_neg (by rw [HLS.out]; exact hlt)]
          go_wp2_with fail
          go_meet
          case rel => exact ⟨pt, tq, ta, T, hD, hO, ⟨by have := hT.out.1; rw [HX.out, List.append_nil] at this; exact this, by have := hT.out.2; rw [HX.out] at this; exact this⟩, hpt⟩
        have hl1 : (pt : Int) < (b.size : Int) := by omega
        obtain ⟨m, rfl⟩ : ∃ m, n = m + 1 := ⟨n - 1, by omega⟩
        have HX : Hid (ldR (fun p => YtchinflkjcebjaaGreatDoor.bk (ldT l p)) (ldQ l) l.length (m + 1) pt = (YtchinflkjcebjaaGreatDoor.bk (ldT l pt) :: (ldR (fun p => YtchinflkjcebjaaGreatDoor.bk (ldT l p)) (ldQ l) l.length m (ldQ l pt)).1, (ldR (fun p => YtchinflkjcebjaaGreatDoor.bk (ldT l p)) (ldQ l) l.length m (ldQ l pt)).2)) := by
          show _ = _
          rw [ldR, if_pos (by rw [HLS.out]; exact hlt)]
        have hTl : T.length ≤ 65535 := by
          have h1 := congrArg List.length hT.out.1
          have h2 := ldR_len (fun p => YtchinflkjcebjaaGreatDoor.bk (ldT l p)) (ldQ l) l.length nt (p + 2)
          rw [← hTs.out] at h2
          rw [List.length_append] at h1
          omega
        have hq1 : ldQ l pt ≤ b.size + 256 := by have := ldQ_le l pt; omega
        have bd : Below wr.heap.size wr wr.drew := (Below.refl _ wr).drew
        have hDd := hD.out.next bd
        have hOd := hO.out.next bd
        have n2 := rtext_v wr.drew rb pt b hDd.rd (by omega) HB.out
        rw [← HL.out] at n2
        obtain ⟨tl, Htl⟩ : ∃ tl, Hid (tl = YtchinflkjcebjaaGreatDoor.bk (ldT l pt)) := ⟨_, (rfl : YtchinflkjcebjaaGreatDoor.bk (ldT l pt) = _)⟩
        rw [← Htl.out] at n2 HX
        generalize ldQ l pt = qt at *
        obtain ⟨x3, -⟩ := blk_cell hD.out.b5 2 (.slice tq T.length ta) rfl
        have HW8 : Hid (∀ V8, (Rr V8 rb b qt ∧ Kp (fun x => x = rb) wr.drew V8) → Dk w V8 rb w.heap.size p5 (cv (.slice none 0 0) (.slice q Es.length cp) (.slice tq T.length ta) mn) b qt ∧ Rows V8 w.heap.size (.slice none 0 0) (.slice q Es.length cp) (.slice tq T.length ta) [] Es T) := fun V8 hw => ⟨hDd.call hw.1 hw.2, hOd.rr hDd.rd hw.2⟩
        have H1 : Hid (∀ u ∈ ([.string tl] : List Value), u.oneCell' = true) := fun u hu => by obtain rfl := List.mem_singleton.1 hu; rfl
        clear bd hDd hOd hD hO
        go_wp2_with fail
        go_region_law (first
          | (refine step_call (by rfl) 43 [.tmp 77] #[_] [.pointer (some ⟨rb, 0, none⟩)] (by rfl) (by rfl) (callrt _) _ n2 ?_; rintro v8 V8 ⟨rfl, hw8⟩; obtain ⟨m8, o8⟩ := HW8.out V8 hw8.out; obtain ⟨x8, -⟩ := blk_cell m8.b5 2 (.slice tq T.length ta) rfl; obtain ⟨x8a, -⟩ := blk_cell (m8.next ((Below.refl _ V8).alloc (Nat.le_refl _) (.cells #[.string tl] 9))).b5 2 (.slice tq T.length ta) rfl)
          | (refine step_app 26 9 _ 1 16 Tryz.underlying26 info9 (by rfl) (by decide) (by decide) (by rfl) _ _ (by rfl) w.heap.size (.slice tq T.length ta) T.length (tv T) (by rfl) (own_next o8.tr ((Below.refl _ V8).alloc (Nat.le_refl _) _)) V8.heap.size [.string tl] rfl H1.out (by rfl) (range_new V8 _ _) (by omega) (by have := m8.bel.size; simp; omega) ?_; intro v9 V9 ho9 hg9; have m9 := m8.own (.cells #[.string tl] 9) o8.tr (by decide) (by decide) hg9.out.1; obtain ⟨x9, y9⟩ := blk_cell m9.b5 2 (.slice tq T.length ta) rfl; obtain ⟨q9, c9, rfl, -, -⟩ := own_slice ho9.out))
        all_goals
          have D10 : Hid (Dk w (V9.setCell ⟨p5, 2, none⟩ (.slice q9 (T.length + 1) c9)) rb w.heap.size p5 (cv (.slice none 0 0) (.slice q Es.length cp) (.slice q9 (T.length + 1) c9) mn) b qt) := m9.set 2 _
          have O10 : Hid (Rows (V9.setCell ⟨p5, 2, none⟩ (.slice q9 (T.length + 1) c9)) w.heap.size (.slice none 0 0) (.slice q Es.length cp) (.slice q9 (T.length + 1) c9) [] Es (T ++ [tl])) := (o8.appT tl _ hg9.out.1 ho9.out).set m9.b5 _
          clear m9 ho9 hg9 x8 x8a x9 y9 m8 o8 hw8 HW8 n2 x3
          generalize V9.setCell ⟨p5, 2, none⟩ (.slice q9 (T.length + 1) c9) = V10 at *
          go_wp2_with fail
          exact ⟨⟨m, qt, q9, c9, T ++ [tl], by go_num, by omega, by rw [List.length_append]; exact D10, by rw [List.length_append]; exact O10, ⟨by rw [← hT.out.1, HX.out]; simp, by rw [← hT.out.2, HX.out]⟩, by show _ ≤ _; omega⟩, by simp [intOf]⟩
    case rest =>
      obtain ⟨pt, tq, ta, T, hD, hO, hT, hpt⟩ := hcut
      clear D5 O5
      have HCE : Hid (∀ o, decS l = o → decC b.data.toList = o.getD cz ∧ decE b.data.toList = if o.isSome then 0 else 130) := fun o ho => by
        have e : b.data.toList = l := HL.out.symm
        rw [e, ← ho]
        exact ⟨rfl, rfl⟩
      have hpb2 := hpt.out
      have n2 := rnumber_f wc rb 4 pt b hD.out.rd (by omega)
      rw [← HL.out] at n2
      obtain ⟨ni, hni0, hni⟩ := num4_nat l pt
      have Hni : Hid (numV (padL l pt 4) = (ni : Int)) := hni0
      clear hni0
      rw [Hni.out] at n2
      have hJ : Hid (ldC l = (ldJ l ni (pt + 4)).map fun i => ⟨i, Es.map (·.1), T, mn⟩) := by
        show _ = _
        unfold ldC
        rw [← hT.out.2, Hni.out, Int.toNat_natCast, ← hT.out.1, ← hE.out.1, ← HMn.out, pad1 l 1]
        rfl
      clear Hni
      go_wp2_with fail
      refine n2.mono ?_
      rintro e W5 ⟨rfl, hw5⟩
      have D5 : Hid (Dk w W5 rb w.heap.size p5 (cv (.slice none 0 0) (.slice q Es.length cp) (.slice tq T.length ta) mn) b (pt + 4)) := hD.out.call hw5.out.1 hw5.out.2
      have O5 : Hid (Rows W5 w.heap.size (.slice none 0 0) (.slice q Es.length cp) (.slice tq T.length ta) [] Es T) := hO.out.rr hD.out.rd hw5.out.2
      clear n2 hw5 hD hO
      go_upto_block 6 with fail
      go_cut [6] (fun u wx => ∃ (pi : Nat) (iq : Option Addr) (ia : Nat) (I : List In), Hid (Dk w wx rb w.heap.size p5 (cv (.slice iq I.length ia) (.slice q Es.length cp) (.slice tq T.length ta) mn) b pi) ∧ Hid (Rows wx w.heap.size (.slice iq I.length ia) (.slice q Es.length cp) (.slice tq T.length ta) I Es T) ∧ Hid (ldJ l ni (pt + 4) = some I) ∧ Hid (∀ x ∈ I, (-9223372036854775808 ≤ x.2.1 ∧ x.2.1 ≤ 9223372036854775807) ∧ (-9223372036854775808 ≤ x.2.2 ∧ x.2.2 ≤ 9223372036854775807)))
      case first =>
        go_wp2_with fail
        go_loopw [6] (fun i wr => ∃ (n pi : Nat) (iq : Option Addr) (ia : Nat) (I : List In), i = .int .i64 (n : Int) ∧ n < 4294967296 ∧ Hid (Dk w wr rb w.heap.size p5 (cv (.slice iq I.length ia) (.slice q Es.length cp) (.slice tq T.length ta) mn) b pi) ∧ Hid (Rows wr w.heap.size (.slice iq I.length ia) (.slice q Es.length cp) (.slice tq T.length ta) I Es T) ∧ Hid (ldJ l ni (pt + 4) = (ldJ l n pi).map (I ++ ·)) ∧ Hid (∀ x ∈ I, (-9223372036854775808 ≤ x.2.1 ∧ x.2.1 ≤ 9223372036854775807) ∧ (-9223372036854775808 ≤ x.2.2 ∧ x.2.2 ≤ 9223372036854775807)) ∧ Hid (I.length + n ≤ ni ∧ pi ≤ b.size + 3000)) (fun i _ => (intOf i).toNat)
        case atStart => exact ⟨ni, pt + 4, none, 0, [], rfl, hni, D5, O5, by show _ = _; cases ldJ l ni (pt + 4) <;> rfl, fun x hx => (by cases hx), ⟨by simp, by omega⟩⟩
        case round =>
          obtain ⟨n, pi, iq, ia, I, rfl, hn, hD, hO, hI, h64, hIn⟩ := hrel
          clear D5 O5
          obtain ⟨⟨c0, c1⟩, c2⟩ := hD.out.rd.cells
          by_cases hz : n = 0
          case pos =>
            subst hz
            have hz1 : ¬ (0 : Int) < ((0 : Nat) : Int) := by decide
            go_wp2_with fail
            go_meet
            case rel => exact ⟨pi, iq, ia, I, hD, hO, by show _ = _; rw [hI.out, ldJ]; simp, h64⟩
          have hz1 : (0 : Int) < (n : Int) := by omega
          by_cases hlt : pi < b.size
          case neg =>
            have hl1 : ¬ (pi : Int) < (b.size : Int) := by omega
            have HX : Hid (ldJ l n pi = some []) := by
              obtain ⟨m, rfl⟩ : ∃ m, n = m + 1 := ⟨n - 1, by omega⟩
              show _ = _
              unfold ldJ
              rw [if_neg (by rw [HLS.out]; exact hlt)]
            go_wp2_with fail
            go_meet
            case rel => exact ⟨pi, iq, ia, I, hD, hO, by show _ = _; rw [hI.out, HX.out]; simp, h64⟩
          have hl1 : (pi : Int) < (b.size : Int) := by omega
          obtain ⟨m, rfl⟩ : ∃ m, n = m + 1 := ⟨n - 1, by omega⟩
          have hb256 := UInt8.toNat_lt (l.getD pi 0)
          have HX : Hid (ldJ l (m + 1) pi = if 24 ≤ ((l.getD pi 0).toNat : Int) then none else (ldJ l m (ldIq l pi)).map (ldI l pi :: ·)) := by
            show _ = _
            rw [ldJ, if_pos (by rw [HLS.out]; exact hlt)]
            rfl
          have HIe : Hid (ldI l pi = (((l.getD pi 0).toNat : Int), numV (padL l (pi + 1) (wdA l pi)), numV (padL l (pi + 1 + wdA l pi) (wdB l pi))) ∧ ldIq l pi = pi + 1 + wdA l pi + wdB l pi) := ⟨rfl, rfl⟩
          have HWA : Hid (wdA l pi = shWd.getD (opA.getD (l.getD pi 0).toNat 0) 0 ∧ wdB l pi = shWd.getD (opB.getD (l.getD pi 0).toNat 0) 0) := ⟨rfl, rfl⟩
          have H64' := ldI_64 l pi
          have H64 : Hid ((-9223372036854775808 ≤ (ldI l pi).2.1 ∧ (ldI l pi).2.1 ≤ 9223372036854775807) ∧ (-9223372036854775808 ≤ (ldI l pi).2.2 ∧ (ldI l pi).2.2 ≤ 9223372036854775807)) := H64'
          have n1 := rnumber_f wr rb 1 pi b hD.out.rd (by omega)
          rw [← HL.out, pad1] at n1
          have hq1 := ldIq_le l pi
          generalize (l.getD pi 0).toNat = ko at *
          clear c0 c1 c2 H64'
          obtain ⟨⟨c0, c1⟩, c2⟩ := hD.out.rd.cells
          go_wp2_with fail
          refine n1.mono ?_
          rintro e V1 ⟨rfl, hv1⟩
          have D1 : Hid (Dk w V1 rb w.heap.size p5 (cv (.slice iq I.length ia) (.slice q Es.length cp) (.slice tq T.length ta) mn) b (pi + 1)) := hD.out.call hv1.out.1 hv1.out.2
          have O1 : Hid (Rows V1 w.heap.size (.slice iq I.length ia) (.slice q Es.length cp) (.slice tq T.length ta) I Es T) := hO.out.rr hD.out.rd hv1.out.2
          obtain ⟨V2, hV2⟩ : ∃ V2, V2 = V1.alloc (.cells #[.int .i64 (ko : Int), .int .i64 0, .int .i64 0] 64) := ⟨_, rfl⟩
          have nb2 : Below V1.heap.size V1 V2 := by rw [hV2]; exact (Below.refl _ V1).alloc (Nat.le_refl _) _
          have hzr := D1.out.rd.lt
          have E2 : Hid (Ek V1 V2 rb V1.heap.size #[.int .i64 (ko : Int), .int .i64 0, .int .i64 0] 64 b (pi + 1)) := ⟨D1.out.rd.next nb2, Kp.of nb2, by rw [hV2]; exact World.alloc_heap_new V1 _, by omega, Nat.le_refl _⟩
          clear n1 hv1 hD hO c0 c1 c2 nb2
          go_upto_region 22 with fail
          rw [← hV2]
          clear hV2
          obtain ⟨p9, hp9⟩ : ∃ p9, Hid (p9 = V1.heap.size) := ⟨_, (rfl : V1.heap.size = _)⟩
          rw [← hp9.out] at E2 ⊢
          obtain ⟨d0, -⟩ := blk_cell E2.out.b7 0 (.int .i64 (ko : Int)) rfl
          by_cases hko : ko < 24
          case neg =>
            have g24 : (24 : Int) ≤ (ko : Int) := by omega
            have HN : Hid (decS l = none) := by
              show _ = _
              rw [ld_dec, hJ.out, hI.out, HX.out, if_pos g24]
              rfl
            have D2 : Hid (Dk w V2 rb w.heap.size p5 (cv (.slice iq I.length ia) (.slice q Es.length cp) (.slice tq T.length ta) mn) b (pi + 1)) := D1.out.call E2.out.rd E2.out.kp
            obtain ⟨z0, y0⟩ := blk_cell D2.out.b2 0 (.slice none 0 0) rfl
            obtain ⟨z1, y1⟩ := blk_cell D2.out.b2 1 (.slice none 0 0) rfl
            obtain ⟨z2, y2⟩ := blk_cell D2.out.b2 2 (.slice none 0 0) rfl
            obtain ⟨z3, y3⟩ := blk_cell D2.out.b2 3 (.int .i64 0) rfl
            go_wp2
            have HF : Hid (Below w.heap.size w ((((V2.setCell ⟨w.heap.size, 0, none⟩ (.slice none 0 0)).setCell ⟨w.heap.size, 1, none⟩ (.slice none 0 0)).setCell ⟨w.heap.size, 2, none⟩ (.slice none 0 0)).setCell ⟨w.heap.size, 3, none⟩ (.int .i64 0)) ∧ ((((V2.setCell ⟨w.heap.size, 0, none⟩ (.slice none 0 0)).setCell ⟨w.heap.size, 1, none⟩ (.slice none 0 0)).setCell ⟨w.heap.size, 2, none⟩ (.slice none 0 0)).setCell ⟨w.heap.size, 3, none⟩ (.int .i64 0)).heap[w.heap.size]? = some (.cells zc 28)) := ⟨below_put4 D2.out.bel (Nat.le_refl _), put4 D2.out.b2⟩
            generalize (((V2.setCell ⟨w.heap.size, 0, none⟩ (.slice none 0 0)).setCell ⟨w.heap.size, 1, none⟩ (.slice none 0 0)).setCell ⟨w.heap.size, 2, none⟩ (.slice none 0 0)).setCell ⟨w.heap.size, 3, none⟩ (.int .i64 0) = WF at *
            obtain ⟨q0, -⟩ := blk_cell HF.out.2 0 (.slice none 0 0) rfl
            obtain ⟨q1, -⟩ := blk_cell HF.out.2 1 (.slice none 0 0) rfl
            obtain ⟨q2, -⟩ := blk_cell HF.out.2 2 (.slice none 0 0) rfl
            obtain ⟨q3, -⟩ := blk_cell HF.out.2 3 (.int .i64 0) rfl
            first | (change bodyPost Tryz.prog Tryz.f19 _ Exit.ret _ _) | (simp only [Exit.noGoto])
            refine bodyPost_ret (v := .tuple #[.agg zc, .int .i64 130]) (by simp [results, Tryz.results19, go_sem, q0, q1, q2, q3]) rfl ⟨none, 0, none, 0, none, 0, ?_, ?_⟩
            · obtain ⟨g1, g2⟩ := HCE.out _ HN.out; rw [g1, g2]; rfl
            · obtain ⟨g1, g2⟩ := HCE.out _ HN.out; rw [g1]; exact ⟨[], code_zero HF.out.1⟩
          have g24 : ¬ (24 : Int) ≤ (ko : Int) := by omega
          have g24' : (ko : Int) < 24 := by omega
          have HX2 : Hid (ldJ l (m + 1) pi = (ldJ l m (ldIq l pi)).map (ldI l pi :: ·)) := by
            show _ = _
            rw [HX.out, if_neg g24]
          obtain ⟨hA, hB'⟩ := opA_12 ⟨ko, hko⟩
          simp only at hA hB'
          have hwa : wdA l pi ≤ 8 := by rw [HWA.out.1]; exact shWd8 _
          have hwb : wdB l pi ≤ 8 := by rw [HWA.out.2]; exact shWd8 _
          have uA := rA_any ko V2 hko
          go_wp2_with fail
          refine uA.mono ?_
          rintro e V3 ⟨rfl, h3⟩
          have E3 : Hid (Ek V1 V3 rb p9 #[.int .i64 (ko : Int), .int .i64 0, .int .i64 0] 64 b (pi + 1)) := E2.out.next h3
          have uw := rwidth_any (opA.getD ko 0) V3 hA
          rw [← HWA.out.1] at uw
          clear E2 d0 uA h3
          go_wp2_with fail
          refine uw.mono ?_
          rintro e V4 ⟨rfl, h4⟩
          have E4 : Hid (Ek V1 V4 rb p9 #[.int .i64 (ko : Int), .int .i64 0, .int .i64 0] 64 b (pi + 1)) := E3.out.next h4
          have n2 := rnumber_f V4 rb (wdA l pi) (pi + 1) b E4.out.rd (by omega)
          rw [← HL.out] at n2
          generalize wdA l pi = wa at *
          generalize numV (padL l (pi + 1) wa) = va at *
          clear E3 uw h4
          go_wp2_with fail
          refine n2.mono ?_
          rintro e V5 ⟨rfl, h5⟩
          have E5 := E4.out.call h5.out.1 h5.out.2
          obtain ⟨x1, y1⟩ := blk_cell E5.b7 1 (.int .i64 0) rfl
          have E6 : Hid (Ek V1 (V5.setCell ⟨p9, 1, none⟩ (.int .i64 va)) rb p9 #[.int .i64 (ko : Int), .int .i64 va, .int .i64 0] 64 b (pi + 1 + wa)) := E5.set 1 _
          clear n2 h5 E4 E5
          go_upto_region 25 with fail
          generalize V5.setCell ⟨p9, 1, none⟩ (.int .i64 va) = V6 at *
          clear x1 y1
          obtain ⟨d0, -⟩ := blk_cell E6.out.b7 0 (.int .i64 (ko : Int)) rfl
          have uB := rB_b ko V6 hko
          go_wp2_with fail
          refine uB.mono ?_
          rintro e V7 ⟨rfl, h7⟩
          have E7 : Hid (Ek V1 V7 rb p9 #[.int .i64 (ko : Int), .int .i64 va, .int .i64 0] 64 b (pi + 1 + wa)) := E6.out.next h7
          have uw := rwidth_any (opB.getD ko 0) V7 hB'
          rw [← HWA.out.2] at uw
          clear E6 d0 uB h7
          go_wp2_with fail
          refine uw.mono ?_
          rintro e V8 ⟨rfl, h8⟩
          have E8 : Hid (Ek V1 V8 rb p9 #[.int .i64 (ko : Int), .int .i64 va, .int .i64 0] 64 b (pi + 1 + wa)) := E7.out.next h8
          have n2 := rnumber_f V8 rb (wdB l pi) (pi + 1 + wa) b E8.out.rd (by omega)
          rw [← HL.out] at n2
          generalize wdB l pi = wb at *
          generalize numV (padL l (pi + 1 + wa) wb) = vb at *
          clear E7 uw h8
          go_wp2_with fail
          refine n2.mono ?_
          rintro e V9 ⟨rfl, h9⟩
          have E9 := E8.out.call h9.out.1 h9.out.2
          obtain ⟨x1, y1⟩ := blk_cell E9.b7 2 (.int .i64 0) rfl
          have E10 : Hid (Ek V1 (V9.setCell ⟨p9, 2, none⟩ (.int .i64 vb)) rb p9 #[.int .i64 (ko : Int), .int .i64 va, .int .i64 vb] 64 b (pi + 1 + wa + wb)) := E9.set 2 _
          clear n2 h9 E8 E9
          go_upto_region 26 with fail
          generalize V9.setCell ⟨p9, 2, none⟩ (.int .i64 vb) = V10 at *
          clear x1 y1
          have D2 : Hid (Dk w V10 rb w.heap.size p5 (cv (.slice iq I.length ia) (.slice q Es.length cp) (.slice tq T.length ta) mn) b (pi + 1 + wa + wb)) := D1.out.call E10.out.rd E10.out.kp
          have R2 : Hid (Rows V10 w.heap.size (.slice iq I.length ia) (.slice q Es.length cp) (.slice tq T.length ta) I Es T) := O1.out.rr D1.out.rd E10.out.kp
          obtain ⟨f1, -⟩ := blk_cell D2.out.b5 0 (.slice iq I.length ia) rfl
          obtain ⟨g0, -⟩ := blk_cell E10.out.b7 0 (.int .i64 (ko : Int)) rfl
          obtain ⟨g1, -⟩ := blk_cell E10.out.b7 1 (.int .i64 va) rfl
          obtain ⟨g2, -⟩ := blk_cell E10.out.b7 2 (.int .i64 vb) rfl
          have H1 : ∀ u ∈ (#[.int .i64 (ko : Int), .int .i64 va, .int .i64 vb] : Array Value).toList, u.oneCell' = true := ic_one ((ko : Int), va, vb)
          have HXx : Hid (∀ v9 X9, X9.ownsRow w.heap.size 64 3 v9 (I.length + 1) (I.flatMap ic ++ [.int .i64 (ko : Int), .int .i64 va, .int .i64 vb]) → (V10.alloc (.cells #[.int .i64 (ko : Int), .int .i64 va, .int .i64 vb] 64)).grownBy X9 (Value.slice iq I.length ia).ownBlock → ∃ q9 c9, v9 = .slice q9 (I.length + 1) c9 ∧ (X9.cell? ⟨p5, 0, none⟩ = some (.slice iq I.length ia) ∧ X9.frozen? ⟨p5, 0, none⟩ = false) ∧ Hid (Dk w (X9.setCell ⟨p5, 0, none⟩ (.slice q9 (I.length + 1) c9)) rb w.heap.size p5 (cv (.slice q9 (I.length + 1) c9) (.slice q Es.length cp) (.slice tq T.length ta) mn) b (pi + 1 + wa + wb) ∧ Rows (X9.setCell ⟨p5, 0, none⟩ (.slice q9 (I.length + 1) c9)) w.heap.size (.slice q9 (I.length + 1) c9) (.slice q Es.length cp) (.slice tq T.length ta) (I ++ [((ko : Int), va, vb)]) Es T)) := fun v9 X9 ho hg => by
            obtain ⟨q9, c9, rfl, -, -⟩ := own_slice ho
            have m9 := D2.out.own (.cells #[.int .i64 (ko : Int), .int .i64 va, .int .i64 vb] 64) R2.out.ir (by decide) (by decide) hg
            exact ⟨q9, c9, rfl, blk_cell m9.b5 0 _ rfl, m9.set 0 _, (R2.out.appI ((ko : Int), va, vb) _ hg ho).set m9.b5 _⟩
          have HO2 : Hid (V10.ownsRow w.heap.size 64 3 (.slice iq I.length ia) I.length (I.flatMap ic)) := R2.out.ir
          have hzw : w.heap.size ≤ V10.heap.size := D2.out.bel.size
          have hIl := hIn.out.1
          clear D1 O1
          go_wp2_with (first
            | (at_builtin; refine wpList_appL 24 64 _ 3 24 Tryz.underlying24 infoIns (by rfl) (by decide) (by decide) (by rfl) _ _ (by rfl) w.heap.size (.slice iq I.length ia) I.length (I.flatMap ic) (by rfl) HO2.out _ (by rfl) H1 (by rfl) (by omega) hzw ?_; intro v9 X9 ho9 hg9; obtain ⟨q9, c9, rfl, ⟨k0, k1⟩, HA9⟩ := HXx.out v9 X9 ho9.out hg9.out.1)
            | fail)
          exact ⟨⟨m, pi + 1 + wa + wb, q9, c9, I ++ [((ko : Int), va, vb)], by go_num, by omega, by rw [List.length_append]; exact HA9.out.1, by rw [List.length_append]; exact HA9.out.2, by show _ = _; rw [hI.out, HX2.out, HIe.out.1, HIe.out.2]; cases ldJ l m (pi + 1 + wa + wb) <;> simp, fun x hx => by rcases List.mem_append.1 hx with hx | hx; exact h64.out x hx; obtain rfl := List.mem_singleton.1 hx; rw [← HIe.out.1]; exact H64.out, ⟨by rw [List.length_append, List.length_singleton]; omega, by have := HIe.out.2; omega⟩⟩, by simp [intOf]⟩
      case rest =>
        obtain ⟨pi, iq, ia, I, hD, hO, hI, h64⟩ := hcut
        clear D5 O5
        obtain ⟨c, hci, hce, hct, hcm⟩ : ∃ c : Cd, c.ins = I ∧ c.ens = Es.map (·.1) ∧ c.txs = T ∧ c.main = mn := ⟨⟨I, Es.map (·.1), T, mn⟩, rfl, rfl, rfl, rfl⟩
        subst hci
        subst hct
        subst hcm
        have hel : Es.length = c.ens.length := by rw [hce, List.length_map]
        rw [hel] at hD hO
        have hC : Hid (ldC l = some c) := by
          show _ = _
          rw [hJ.out, hI.out, ← hce]
          rfl
        have hMm : ∀ W, Below wc.heap.size wc W → CodeM W W.heap.size iq q tq Es c := fun W hW => rows_any (hO.out.next hW) hce.symm (fun e he => by
            rw [hce, hE.out.1] at he
            obtain ⟨p', rfl⟩ := ldR_mem _ _ _ _ _ _ he
            refine ⟨?_, ?_⟩
            · show (YtchinflkjcebjaaGreatDoor.bk (ldT l p')).size ≤ 255
              rw [bk_size]
              exact ldT_len l p'
            · show (ldSo l _ (ldK l p')).length ≤ 255
              unfold ldSo
              rw [List.length_map, List.length_range]
              exact ldK_le l p') (by have h1 := ldJ_len l _ _ _ hI.out; have h2 := HLS.out; omega) (by
            have h2 := ldR_len (ldE l) (ldEq l) l.length (l.getD 2 0).toNat 3
            have h3 := UInt8.toNat_lt (l.getD 2 0)
            rw [hce, hE.out.1]
            unfold ldEs
            omega) (by
            have h2 := ldR_len (fun p => YtchinflkjcebjaaGreatDoor.bk (ldT l p)) (ldQ l) l.length nt (p + 2)
            rw [← hTs.out, ← hT.out.1] at h2
            omega) (fun t ht => by
            rw [hT.out.1] at ht
            obtain ⟨p', rfl⟩ := ldR_mem _ _ _ _ _ _ ht
            rw [bk_size]
            exact ldT_len l p')
        have HM : Hid (∀ W, Below wc.heap.size wc W → CodeM W W.heap.size iq q tq Es c) := hMm
        have v1 := rvalid_any (hMm wc (Below.refl _ _)) ia cp ta (Nat.le_refl _) h64.out
        unfold codeV at v1
        clear hMm
        have D1 : Hid (Dk w wc rb w.heap.size p5 (cv (.slice iq c.ins.length ia) (.slice q c.ens.length cp) (.slice tq c.txs.length ta) c.main) b pi) := hD
        obtain ⟨d0, -⟩ := blk_cell D1.out.b5 0 (.slice iq c.ins.length ia) rfl
        obtain ⟨d1, -⟩ := blk_cell D1.out.b5 1 (.slice q c.ens.length cp) rfl
        obtain ⟨d2, -⟩ := blk_cell D1.out.b5 2 (.slice tq c.txs.length ta) rfl
        obtain ⟨d3, -⟩ := blk_cell D1.out.b5 3 (.int .i64 c.main) rfl
        have HCn : Hid (c.ens = Es.map (·.1)) := hce
        clear hce hel
        have HN0 : Hid (decS l = if validS c = 0 ∧ encS c = l then some c else none) := by
          show _ = _
          rw [ld_dec, hC.out]
        by_cases hv : validS c = 0
        case neg =>
            have HN : Hid (decS l = none) := by
              show _ = _
              rw [HN0.out, if_neg (fun h => hv h.1)]
            generalize validS c = V at *
            have hv' : (V != 0) = true := by rw [bne_iff_ne]; exact hv
            go_wp2_with fail
            refine v1.mono ?_
            rintro e V2 ⟨rfl, hv2⟩
            have D2 : Hid (Dk w V2 rb w.heap.size p5 (cv (.slice iq c.ins.length ia) (.slice q c.ens.length cp) (.slice tq c.txs.length ta) c.main) b pi) := D1.out.next hv2
            clear v1 hv2
            obtain ⟨z0, y0⟩ := blk_cell D2.out.b2 0 (.slice none 0 0) rfl
            obtain ⟨z1, y1⟩ := blk_cell D2.out.b2 1 (.slice none 0 0) rfl
            obtain ⟨z2, y2⟩ := blk_cell D2.out.b2 2 (.slice none 0 0) rfl
            obtain ⟨z3, y3⟩ := blk_cell D2.out.b2 3 (.int .i64 0) rfl
            go_wp2
            have HF : Hid (Below w.heap.size w ((((V2.setCell ⟨w.heap.size, 0, none⟩ (.slice none 0 0)).setCell ⟨w.heap.size, 1, none⟩ (.slice none 0 0)).setCell ⟨w.heap.size, 2, none⟩ (.slice none 0 0)).setCell ⟨w.heap.size, 3, none⟩ (.int .i64 0)) ∧ ((((V2.setCell ⟨w.heap.size, 0, none⟩ (.slice none 0 0)).setCell ⟨w.heap.size, 1, none⟩ (.slice none 0 0)).setCell ⟨w.heap.size, 2, none⟩ (.slice none 0 0)).setCell ⟨w.heap.size, 3, none⟩ (.int .i64 0)).heap[w.heap.size]? = some (.cells zc 28)) := ⟨below_put4 D2.out.bel (Nat.le_refl _), put4 D2.out.b2⟩
            generalize (((V2.setCell ⟨w.heap.size, 0, none⟩ (.slice none 0 0)).setCell ⟨w.heap.size, 1, none⟩ (.slice none 0 0)).setCell ⟨w.heap.size, 2, none⟩ (.slice none 0 0)).setCell ⟨w.heap.size, 3, none⟩ (.int .i64 0) = WF at *
            obtain ⟨q0, -⟩ := blk_cell HF.out.2 0 (.slice none 0 0) rfl
            obtain ⟨q1, -⟩ := blk_cell HF.out.2 1 (.slice none 0 0) rfl
            obtain ⟨q2, -⟩ := blk_cell HF.out.2 2 (.slice none 0 0) rfl
            obtain ⟨q3, -⟩ := blk_cell HF.out.2 3 (.int .i64 0) rfl
            first | (change bodyPost Tryz.prog Tryz.f19 _ Exit.ret _ _) | (simp only [Exit.noGoto])
            refine bodyPost_ret (v := .tuple #[.agg zc, .int .i64 130]) (by simp [results, Tryz.results19, go_sem, q0, q1, q2, q3]) rfl ⟨none, 0, none, 0, none, 0, ?_, ?_⟩
            · obtain ⟨g1, g2⟩ := HCE.out _ HN.out; rw [g1, g2]; rfl
            · obtain ⟨g1, g2⟩ := HCE.out _ HN.out; rw [g1]; exact ⟨[], code_zero HF.out.1⟩
        rw [hv] at v1
        have HOk : Hid (CodeOk c) := code_ok.1 hv
        go_wp2_with fail
        refine v1.mono ?_
        rintro e V2 ⟨rfl, hv2⟩
        have D2 : Hid (Dk w V2 rb w.heap.size p5 (cv (.slice iq c.ins.length ia) (.slice q c.ens.length cp) (.slice tq c.txs.length ta) c.main) b pi) := D1.out.next hv2
        have b2 := rbytes_any (HM.out V2 hv2) ia cp ta (Nat.le_refl _) HOk.out
        unfold aggC at b2
        have HV2 : Hid (Below wc.heap.size wc V2) := hv2
        clear v1 hv2 D1 d0 d1 d2 d3
        obtain ⟨d0, -⟩ := blk_cell D2.out.b5 0 (.slice iq c.ins.length ia) rfl
        obtain ⟨d1, -⟩ := blk_cell D2.out.b5 1 (.slice q c.ens.length cp) rfl
        obtain ⟨d2, -⟩ := blk_cell D2.out.b5 2 (.slice tq c.txs.length ta) rfl
        obtain ⟨d3, -⟩ := blk_cell D2.out.b5 3 (.int .i64 c.main) rfl
        by_cases heq : encS c = l
        case neg =>
            have HN : Hid (decS l = none) := by
              show _ = _
              rw [HN0.out, if_neg (fun h => heq h.2)]
            obtain ⟨Sx, hSx⟩ : ∃ Sx, Sx = YtchinflkjcebjaaGreatDoor.bk (encS c) := ⟨_, rfl⟩
            rw [← hSx] at b2
            have hne2 : (Sx.toList == b.toList) = false := by
              rw [beq_eq_false_iff_ne]
              intro e
              rw [toL, toL, hSx, bk_data] at e
              exact heq (e.trans HL.out.symm)
            clear hSx
            go_wp2_with fail
            refine b2.mono ?_
            rintro e V3 ⟨rfl, hv3⟩
            have D3 : Hid (Dk w V3 rb w.heap.size p5 (cv (.slice iq c.ins.length ia) (.slice q c.ens.length cp) (.slice tq c.txs.length ta) c.main) b pi) := D2.out.next hv3
            clear b2 hv3
            obtain ⟨z0, y0⟩ := blk_cell D3.out.b2 0 (.slice none 0 0) rfl
            obtain ⟨z1, y1⟩ := blk_cell D3.out.b2 1 (.slice none 0 0) rfl
            obtain ⟨z2, y2⟩ := blk_cell D3.out.b2 2 (.slice none 0 0) rfl
            obtain ⟨z3, y3⟩ := blk_cell D3.out.b2 3 (.int .i64 0) rfl
            go_wp2
            have HF : Hid (Below w.heap.size w ((((V3.setCell ⟨w.heap.size, 0, none⟩ (.slice none 0 0)).setCell ⟨w.heap.size, 1, none⟩ (.slice none 0 0)).setCell ⟨w.heap.size, 2, none⟩ (.slice none 0 0)).setCell ⟨w.heap.size, 3, none⟩ (.int .i64 0)) ∧ ((((V3.setCell ⟨w.heap.size, 0, none⟩ (.slice none 0 0)).setCell ⟨w.heap.size, 1, none⟩ (.slice none 0 0)).setCell ⟨w.heap.size, 2, none⟩ (.slice none 0 0)).setCell ⟨w.heap.size, 3, none⟩ (.int .i64 0)).heap[w.heap.size]? = some (.cells zc 28)) := ⟨below_put4 D3.out.bel (Nat.le_refl _), put4 D3.out.b2⟩
            generalize (((V3.setCell ⟨w.heap.size, 0, none⟩ (.slice none 0 0)).setCell ⟨w.heap.size, 1, none⟩ (.slice none 0 0)).setCell ⟨w.heap.size, 2, none⟩ (.slice none 0 0)).setCell ⟨w.heap.size, 3, none⟩ (.int .i64 0) = WF at *
            obtain ⟨q0, -⟩ := blk_cell HF.out.2 0 (.slice none 0 0) rfl
            obtain ⟨q1, -⟩ := blk_cell HF.out.2 1 (.slice none 0 0) rfl
            obtain ⟨q2, -⟩ := blk_cell HF.out.2 2 (.slice none 0 0) rfl
            obtain ⟨q3, -⟩ := blk_cell HF.out.2 3 (.int .i64 0) rfl
            first | (change bodyPost Tryz.prog Tryz.f19 _ Exit.ret _ _) | (simp only [Exit.noGoto])
            refine bodyPost_ret (v := .tuple #[.agg zc, .int .i64 130]) (by simp [results, Tryz.results19, go_sem, q0, q1, q2, q3]) rfl ⟨none, 0, none, 0, none, 0, ?_, ?_⟩
            · obtain ⟨g1, g2⟩ := HCE.out _ HN.out; rw [g1, g2]; rfl
            · obtain ⟨g1, g2⟩ := HCE.out _ HN.out; rw [g1]; exact ⟨[], code_zero HF.out.1⟩
        have HN : Hid (decS l = some c) := by
          show _ = _
          rw [HN0.out, if_pos ⟨hv, heq⟩]
        have hbb : YtchinflkjcebjaaGreatDoor.bk (encS c) = b := by rw [heq, HL.out]; exact bk_all b
        rw [hbb] at b2
        clear hbb
        go_wp2_with fail
        refine b2.mono ?_
        rintro e V3 ⟨rfl, hv3⟩
        have D3 : Hid (Dk w V3 rb w.heap.size p5 (cv (.slice iq c.ins.length ia) (.slice q c.ens.length cp) (.slice tq c.txs.length ta) c.main) b pi) := D2.out.next hv3
        have HF3 : Hid (CodeF w V3 iq ia q cp tq ta Es c) := ⟨D3.out.bel, hO.out.next (below2 HV2.out hv3), HCn.out.symm, ok_small HOk.out⟩
        clear b2 hv3 D2 d0 d1 d2 d3
        obtain ⟨d0, -⟩ := blk_cell D3.out.b5 0 (.slice iq c.ins.length ia) rfl
        obtain ⟨d1, -⟩ := blk_cell D3.out.b5 1 (.slice q c.ens.length cp) rfl
        obtain ⟨d2, -⟩ := blk_cell D3.out.b5 2 (.slice tq c.txs.length ta) rfl
        obtain ⟨d3, -⟩ := blk_cell D3.out.b5 3 (.int .i64 c.main) rfl
        obtain ⟨z0, y0⟩ := blk_cell D3.out.b2 0 (.slice none 0 0) rfl
        obtain ⟨z1, y1⟩ := blk_cell D3.out.b2 1 (.slice none 0 0) rfl
        obtain ⟨z2, y2⟩ := blk_cell D3.out.b2 2 (.slice none 0 0) rfl
        obtain ⟨z3, y3⟩ := blk_cell D3.out.b2 3 (.int .i64 0) rfl
        have PX5 := D3.out.b2
        go_wp2
        have HF : Hid (CodeF w ((((V3.setCell ⟨w.heap.size, 0, none⟩ (.slice iq c.ins.length ia)).setCell ⟨w.heap.size, 1, none⟩ (.slice q c.ens.length cp)).setCell ⟨w.heap.size, 2, none⟩ (.slice tq c.txs.length ta)).setCell ⟨w.heap.size, 3, none⟩ (.int .i64 c.main)) iq ia q cp tq ta Es c) :=
          ⟨below_put4 HF3.out.bel (Nat.le_refl _), (((HF3.out.rows.set PX5 _).set (set_blk PX5 _) _).set (set_blk (set_blk PX5 _) _) _).set (set_blk (set_blk (set_blk PX5 _) _) _) _, HF3.out.en, HF3.out.sm⟩
        have PF : ((((V3.setCell ⟨w.heap.size, 0, none⟩ (.slice iq c.ins.length ia)).setCell ⟨w.heap.size, 1, none⟩ (.slice q c.ens.length cp)).setCell ⟨w.heap.size, 2, none⟩ (.slice tq c.txs.length ta)).setCell ⟨w.heap.size, 3, none⟩ (.int .i64 c.main)).heap[w.heap.size]? = some (.cells (cv (.slice iq c.ins.length ia) (.slice q c.ens.length cp) (.slice tq c.txs.length ta) c.main) 28) := put4 PX5
        generalize (((V3.setCell ⟨w.heap.size, 0, none⟩ (.slice iq c.ins.length ia)).setCell ⟨w.heap.size, 1, none⟩ (.slice q c.ens.length cp)).setCell ⟨w.heap.size, 2, none⟩ (.slice tq c.txs.length ta)).setCell ⟨w.heap.size, 3, none⟩ (.int .i64 c.main) = WF at *
        obtain ⟨q0, -⟩ := blk_cell PF 0 (.slice iq c.ins.length ia) rfl
        obtain ⟨q1, -⟩ := blk_cell PF 1 (.slice q c.ens.length cp) rfl
        obtain ⟨q2, -⟩ := blk_cell PF 2 (.slice tq c.txs.length ta) rfl
        obtain ⟨q3, -⟩ := blk_cell PF 3 (.int .i64 c.main) rfl
        first | (change bodyPost Tryz.prog Tryz.f19 _ Exit.ret _ _) | (simp only [Exit.noGoto])
        refine bodyPost_ret (v := .tuple #[.agg (cv (.slice iq c.ins.length ia) (.slice q c.ens.length cp) (.slice tq c.txs.length ta) c.main), .int .i64 0]) (by simp [results, Tryz.results19, go_sem, q0, q1, q2, q3]) rfl ⟨iq, ia, q, cp, tq, ta, ?_, ?_⟩
        · obtain ⟨g1, g2⟩ := HCE.out _ HN.out; rw [g1, g2]; rfl
        · obtain ⟨g1, g2⟩ := HCE.out _ HN.out; rw [g1]; exact ⟨Es, HF.out⟩
end Go.Proofs.YtchinflkjcebjaaGreatDoor
