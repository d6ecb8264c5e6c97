import Derived.Test.YtcjnejdemfemfaaGreatDoorRWa
namespace Go.Proofs.YtcjnejdemfemfaaGreatDoor
open Go.RowKit

theorem numB1 (n : Int) : numB n 1 = [byteOf n] := by simp [numB]
theorem wide1 (n : Int) (w : World) : Calls Tryz.prog 40 #[.int .i64 n, .int .i64 1] w fun e w' => e = .returned (.string (YtcjnejdemfemfaaGreatDoor.bk [byteOf n])) ∧ Below w.heap.size w w' := by
  rw [← numB1]
  exact wide_any n 1 (by decide) w
theorem wide2 (n : Int) (w : World) : Calls Tryz.prog 40 #[.int .i64 n, .int .i64 2] w fun e w' => e = .returned (.string (YtcjnejdemfemfaaGreatDoor.bk (numB n 2))) ∧ Below w.heap.size w w' := wide_any n 2 (by decide) w
theorem wide4 (n : Int) (w : World) : Calls Tryz.prog 40 #[.int .i64 n, .int .i64 4] w fun e w' => e = .returned (.string (YtcjnejdemfemfaaGreatDoor.bk (numB n 4))) ∧ Below w.heap.size w w' := wide_any n 4 (by decide) w
theorem flat_leE {α β : Type} (f : α → List β) (M : Nat) : ∀ l : List α, (∀ x ∈ l, (f x).length ≤ M) → (l.flatMap f).length ≤ l.length * M
  | [], _ => by simp
  | x :: l, h => by
    have h1 := flat_leE f M l (fun y hy => h y (List.mem_cons_of_mem _ hy))
    have h2 := h x (by simp)
    rw [List.flatMap_cons, List.length_append, List.length_cons, Nat.succ_mul]
    omega
theorem shWd8 (o : Nat) : shWd.getD o 0 ≤ 8 := by
  by_cases q : o < 13
  · exact (show ∀ o : Fin 13, shWd.getD o.val 0 ≤ 8 by decide) ⟨o, q⟩
  · have e : shWd.getD o 0 = 0 := by rw [List.getD_eq_getElem?_getD, List.getElem?_eq_none (by show 13 ≤ o; omega)]; rfl
    rw [e]
    omega
theorem encS_le {c : Cd} (k : CodeOk c) : (encS c).length ≤ 281474976710656 := by
  have hs := ok_small k
  have l1 : (c.ens.flatMap entB).length ≤ c.ens.length * 1000 := flat_leE entB 1000 _ fun e he => by
    obtain ⟨a, b⟩ := hs.es e he
    unfold entB txB
    have e1 : e.name.size = e.name.data.toList.length := (Array.length_toList (xs := e.name.data)).symm
    simp only [List.length_append, List.length_cons, List.length_map, List.length_nil, numB_len]
    omega
  have l2 : (c.txs.flatMap txB).length ≤ c.txs.length * 256 := flat_leE txB 256 _ fun t ht => by
    have a := hs.ts t ht
    have e1 : t.size = t.data.toList.length := (Array.length_toList (xs := t.data)).symm
    unfold txB
    simp only [List.length_cons]
    omega
  have l3 : (c.ins.flatMap insB).length ≤ c.ins.length * 17 := flat_leE insB 17 _ fun x hx => by
    unfold insB
    simp only [List.length_append, List.length_cons, numB_len]
    have := shWd8 (opA.getD x.1.toNat 0)
    have := shWd8 (opB.getD x.1.toNat 0)
    omega
  have a := hs.el
  have b := hs.il
  have d := hs.tl
  unfold encS
  simp only [List.length_append, List.length_cons, numB_len]
  omega
/-- A box and all that lies ahead of it. -/
def RbW (w X W : World) : Prop := Below X.heap.size X W ∧ Below w.heap.size w X
set_option maxRecDepth 100000 in
set_option maxHeartbeats 8000000 in
theorem rbytes_any {w : World} {B : Nat} {iq eq tq : Option Addr} {Es : List Em} {c : Cd} (h : CodeM w B iq eq tq Es c) (ia ea ta : Nat) (hB : B ≤ w.heap.size) (hk : CodeOk c) :
    Calls Tryz.prog 15 #[aggC iq eq tq ia ea ta c] w fun e w' => e = .returned (.string (YtcjnejdemfemfaaGreatDoor.bk (encS c))) ∧ Below w.heap.size w w' := by
  obtain ⟨PR, HPR⟩ : ∃ PR, Hid (PR = encS c) := ⟨_, (rfl : encS c = encS c)⟩
  rw [← HPR.out]
  have hPl : PR.length ≤ 281474976710656 := by rw [HPR.out]; exact encS_le hk
  have HPl : Hid (PR.length ≤ 281474976710656) := hPl
  have hSm := ok_small hk
  have hil : (c.ins.length : Int) ≤ 60000 := by have := hSm.il; omega
  have hel : (c.ens.length : Int) ≤ 60 := by have := hSm.el; omega
  have htl : (c.txs.length : Int) ≤ 4000 := by have := hSm.tl; omega
  have HSm : Hid (Small c) := hSm
  have HOk : Hid (CodeOk c) := hk
  have HH : Hid (CodeM w B iq eq tq Es c) := h
  have HL : Hid (Es.length = c.ens.length) := h.len
  obtain ⟨X, hX⟩ : ∃ X, X = w.alloc (.cells #[.slice iq c.ins.length ia, .slice eq c.ens.length ea, .slice tq c.txs.length ta, .int .i64 c.main] 26) := ⟨_, rfl⟩
  have HX : Hid (Full X w.heap.size 26 [.slice iq c.ins.length ia, .slice eq c.ens.length ea, .slice tq c.txs.length ta, .int .i64 c.main] ∧ Below w.heap.size w X) := by
    rw [hX]
    exact ⟨Full.new w _ _, (Below.refl _ w).alloc (Nat.le_refl _) _⟩
  have HC : Hid (∀ W, Below X.heap.size X W → W.cell? ⟨w.heap.size, 0, none⟩ = some (.slice iq c.ins.length ia) ∧ W.cell? ⟨w.heap.size, 1, none⟩ = some (.slice eq c.ens.length ea) ∧ W.cell? ⟨w.heap.size, 2, none⟩ = some (.slice tq c.txs.length ta) ∧ W.cell? ⟨w.heap.size, 3, none⟩ = some (.int .i64 c.main)) := fun W hW => (HX.out.1.next hW).four
  have HM : Hid (∀ W, Below X.heap.size X W → CodeM W B iq eq tq Es c) := fun W hW => HH.out.below (below2 HX.out.2 hW) hB
  obtain ⟨R2, HR2⟩ : ∃ R2, Hid (R2 = c.ins.flatMap insB) := ⟨_, (rfl : c.ins.flatMap insB = c.ins.flatMap insB)⟩
  obtain ⟨R1, HR1⟩ : ∃ R1, Hid (R1 = c.txs.flatMap txB ++ (numB (c.ins.length : Int) 4 ++ R2)) := ⟨_, (rfl : c.txs.flatMap txB ++ (numB (c.ins.length : Int) 4 ++ R2) = _)⟩
  have HP0 : Hid ([67, byteOf c.main, byteOf (c.ens.length : Int)] ++ (Es.flatMap (fun x => entB x.1) ++ (numB (c.txs.length : Int) 2 ++ R1)) = PR) := by
    show _ = PR
    rw [HPR.out, HR1.out, HR2.out]
    unfold encS
    rw [← h.en, List.flatMap_map]
    rfl
  clear h hk hSm hPl HPR
  have w1 := fun W => wide1 c.main W
  have w2 := fun W => wide1 (c.ens.length : Int) W
  have k1 : Op.stringOp .add ⟨#[67]⟩ (YtcjnejdemfemfaaGreatDoor.bk [byteOf c.main]) = pure (.string (YtcjnejdemfemfaaGreatDoor.bk [67, byteOf c.main])) := cat_bk [67] [byteOf c.main] (by simp)
  have k2 : Op.stringOp .add (YtcjnejdemfemfaaGreatDoor.bk [67, byteOf c.main]) (YtcjnejdemfemfaaGreatDoor.bk [byteOf (c.ens.length : Int)]) = pure (.string (YtcjnejdemfemfaaGreatDoor.bk [67, byteOf c.main, byteOf (c.ens.length : Int)])) := cat_bk [67, byteOf c.main] [byteOf (c.ens.length : Int)] (by simp)
  have H1 : Hid (∃ acc, YtcjnejdemfemfaaGreatDoor.bk [67, byteOf c.main, byteOf (c.ens.length : Int)] = YtcjnejdemfemfaaGreatDoor.bk acc ∧ acc ++ ((Es.drop 0).flatMap (fun x => entB x.1) ++ (numB (c.txs.length : Int) 2 ++ R1)) = PR) := ⟨_, rfl, HP0.out⟩
  generalize YtcjnejdemfemfaaGreatDoor.bk [67, byteOf c.main, byteOf (c.ens.length : Int)] = S0 at k2 H1
  generalize YtcjnejdemfemfaaGreatDoor.bk [67, byteOf c.main] = S00 at k1 k2
  generalize YtcjnejdemfemfaaGreatDoor.bk [byteOf c.main] = Wm at w1 k1
  generalize YtcjnejdemfemfaaGreatDoor.bk [byteOf (c.ens.length : Int)] = We at w2 k2
  clear HP0
  obtain ⟨x0, x1, x2, x3⟩ := HC.out X (Below.refl _ _)
  have y1 := cell_regrown x1
  have y3 := cell_regrown x3
  have c1 : ∀ d os, Calls Tryz.prog 40 #[.int .i64 c.main, .int .i64 1] (Sort.grow (redrawn X d) os) fun e w'' => e = .returned (.string Wm) ∧ ∃ z : Regrown, w'' = Sort.grow (redrawn X z.d) z.os := fun d os => Calls.regrown_of (w1 _)
  have c2 : ∀ d os, Calls Tryz.prog 40 #[.int .i64 (c.ens.length : Int), .int .i64 1] (Sort.grow (redrawn X d) os) fun e w'' => e = .returned (.string We) ∧ ∃ z : Regrown, w'' = Sort.grow (redrawn X z.d) z.os := fun d os => Calls.regrown_of (w2 _)
  clear w1 w2 x0 x1 x2 x3
  go_enter Tryz.func15, Tryz.ntmps15
  go_upto_region 1 with fail
  rw [← hX]
  clear hX
  go_wp2_with fail
  refine wp_region_quiet_below (by kernel_rfl) (by kernel_rfl) ?_
  repeat (first | go_big_quiet_step (first | with_reducible exact c1 _ _ | with_reducible exact c2 _ _) | quiet_step (first | with_reducible exact c1 _ _ | with_reducible exact c2 _ _))
  refine wpQuiet_nil ?_
  intro _ hw'
  obtain ⟨⟨dq, osq⟩, hw''⟩ := hw'
  subst hw''
  have hY := below_regrown X dq osq
  first | (change Exit.then _ _ Exit.normal _ (Sort.grow (redrawn X dq) osq)) | skip
  generalize Sort.grow (redrawn X dq) osq = Y0 at hY ⊢
  clear c1 c2
  have HY0 : Hid (Below X.heap.size X Y0) := hY
  clear hY y1 y3 k1 k2
  go_wp2_with fail
  go_loopw [3, 4] (fun v i wr => ∃ (S : ByteArray) (j : Nat), v = .string S ∧ j ≤ c.ens.length ∧ i = .int .i64 (j : Int) ∧ Hid (∃ acc, S = YtcjnejdemfemfaaGreatDoor.bk acc ∧ acc ++ ((Es.drop j).flatMap (fun x => entB x.1) ++ (numB (c.txs.length : Int) 2 ++ R1)) = PR) ∧ Hid (Below X.heap.size X wr)) (fun _ i _ => c.ens.length - (intOf i).toNat)
  case atStart => exact ⟨S0, 0, rfl, Nat.zero_le _, rfl, H1, HY0⟩
  case round =>
    obtain ⟨S, j, rfl, hj, rfl, hI, hb⟩ := hrel
    clear H1 HY0
    obtain ⟨z0, z1, z2, z3⟩ := HC.out wr hb.out
    by_cases hlt : j < c.ens.length
    case pos =>
      have hlt' : j < Es.length := by rw [HL.out]; exact hlt
      have hm := HM.out wr hb.out
      obtain ⟨g, o, heq, hg, d0, d1, d2, d3, d4⟩ := hm.ent j hlt'
      have sr := (hm.sr Es[j] (List.getElem_mem hlt')).1
      obtain ⟨acc, hS, hP⟩ := hI.out
      rw [List.drop_eq_getElem_cons hlt', List.flatMap_cons] at hP
      have hmem : Es[j].1 ∈ c.ens := by
        rw [← hm.en]
        exact List.mem_map.2 ⟨Es[j], List.getElem_mem hlt', rfl⟩
      obtain ⟨hnm, hso⟩ := HSm.out.es _ hmem
      have hwz : B ≤ wr.heap.size := by have := (below2 HX.out.2 hb.out).size; omega
      rw [heq] at z1
      generalize Es[j] = x at *
      obtain ⟨⟨nm, st, pr, so, rs⟩, q, cp⟩ := x
      simp only at d0 d1 d2 d3 d4 sr hnm hso hP
      have hacc : acc.length ≤ 281474976710656 := by
        have h1 := congrArg List.length hP
        rw [List.length_append] at h1
        have := HPl.out
        omega
      have e1 : nm.data.toList.length = nm.size := Array.length_toList (xs := nm.data)
      have k1 := cat_bk acc [byteOf (nm.size : Int)] (by simp; omega)
      have k2 := cat_bk (acc ++ [byteOf (nm.size : Int)]) nm.data.toList (by simp; omega)
      have k3 := cat_bk (acc ++ [byteOf (nm.size : Int)] ++ nm.data.toList) (numB st 4) (by rw [numB_len]; simp; omega)
      have k4 := cat_bk (acc ++ [byteOf (nm.size : Int)] ++ nm.data.toList ++ numB st 4) [byteOf pr] (by simp [numB_len]; omega)
      have k5 := cat_bk (acc ++ [byteOf (nm.size : Int)] ++ nm.data.toList ++ numB st 4 ++ [byteOf pr]) [byteOf (so.length : Int)] (by simp [numB_len]; omega)
      rw [bk_all] at k2
      rw [← hS] at k1
      obtain ⟨A2, HA2⟩ : ∃ A2, Hid (A2 = acc ++ [byteOf (nm.size : Int)] ++ nm.data.toList ++ numB st 4 ++ [byteOf pr] ++ [byteOf (so.length : Int)]) := ⟨_, (rfl : acc ++ [byteOf (nm.size : Int)] ++ nm.data.toList ++ numB st 4 ++ [byteOf pr] ++ [byteOf (so.length : Int)] = _)⟩
      rw [← HA2.out] at k5
      have HP2 : Hid (A2 ++ (so.map byteOf ++ ([byteOf rs] ++ ((Es.drop (j + 1)).flatMap (fun x => entB x.1) ++ (numB (c.txs.length : Int) 2 ++ R1)))) = PR) := by
        show _ = PR
        rw [← hP, HA2.out]
        unfold entB txB
        simp only [List.append_assoc, List.cons_append, List.nil_append]
      have HA2l : Hid (A2.length ≤ 281474976710656) := by
        have h1 := congrArg List.length HP2.out
        rw [List.length_append] at h1
        have := HPl.out
        show _ ≤ _
        omega
      have HRow : Hid (Row wr wr.heap.size q so.length (sv so)) := sr.up hwz
      generalize YtcjnejdemfemfaaGreatDoor.bk (acc ++ [byteOf (nm.size : Int)] ++ nm.data.toList ++ numB st 4 ++ [byteOf pr]) = S4 at k4 k5
      generalize YtcjnejdemfemfaaGreatDoor.bk (acc ++ [byteOf (nm.size : Int)] ++ nm.data.toList ++ numB st 4) = S3 at k3 k4
      generalize YtcjnejdemfemfaaGreatDoor.bk (acc ++ [byteOf (nm.size : Int)] ++ nm.data.toList) = S2 at k2 k3
      generalize YtcjnejdemfemfaaGreatDoor.bk (acc ++ [byteOf (nm.size : Int)]) = S1 at k1 k2
      obtain ⟨S5, HS5⟩ : ∃ S5, Hid (S5 = YtcjnejdemfemfaaGreatDoor.bk A2) := ⟨_, (rfl : YtcjnejdemfemfaaGreatDoor.bk A2 = _)⟩
      rw [← HS5.out] at k5
      have u1 := fun W => wide1 (nm.size : Int) W
      have u3 := fun W => wide4 st W
      have u4 := fun W => wide1 pr W
      have u5 := fun W => wide1 (so.length : Int) W
      generalize YtcjnejdemfemfaaGreatDoor.bk [byteOf (nm.size : Int)] = T1' at k1 u1
      generalize YtcjnejdemfemfaaGreatDoor.bk (numB st 4) = T3' at k3 u3
      generalize YtcjnejdemfemfaaGreatDoor.bk [byteOf pr] = T4' at k4 u4
      generalize YtcjnejdemfemfaaGreatDoor.bk [byteOf (so.length : Int)] = T5' at k5 u5
      obtain ⟨Y, hY'⟩ : ∃ Y, Y = wr.alloc (.cells #[.string nm, .int .i64 st, .int .i64 pr, .slice q so.length cp, .int .i64 rs] 43) := ⟨_, rfl⟩
      have HFY : Hid (Full Y wr.heap.size 43 [.string nm, .int .i64 st, .int .i64 pr, .slice q so.length cp, .int .i64 rs] ∧ Below wr.heap.size wr Y) := by
        rw [hY']
        exact ⟨Full.new wr _ _, (Below.refl _ wr).alloc (Nat.le_refl _) _⟩
      have HE : Hid (∀ W, Below Y.heap.size Y W → W.cell? ⟨wr.heap.size, 0, none⟩ = some (.string nm) ∧ W.cell? ⟨wr.heap.size, 1, none⟩ = some (.int .i64 st) ∧ W.cell? ⟨wr.heap.size, 2, none⟩ = some (.int .i64 pr) ∧ W.cell? ⟨wr.heap.size, 3, none⟩ = some (.slice q so.length cp) ∧ W.cell? ⟨wr.heap.size, 4, none⟩ = some (.int .i64 rs)) := fun W hW => by
        have f := HFY.out.1.next hW
        exact ⟨(f.cell 0 _ rfl).1, (f.cell 1 _ rfl).1, (f.cell 2 _ rfl).1, (f.cell 3 _ rfl).1, (f.cell 4 _ rfl).1⟩
      obtain ⟨v0, v1, v2, v3, v4⟩ := HE.out Y (Below.refl _ _)
      have y0 := cell_regrown v0
      have y1 := cell_regrown v1
      have y2 := cell_regrown v2
      have y3 := cell_regrown v3
      have c1 : ∀ d os, Calls Tryz.prog 40 #[.int .i64 (nm.size : Int), .int .i64 1] (Sort.grow (redrawn Y d) os) fun e w'' => e = .returned (.string T1') ∧ ∃ z : Regrown, w'' = Sort.grow (redrawn Y z.d) z.os := fun d os => Calls.regrown_of (u1 _)
      have c3 : ∀ d os, Calls Tryz.prog 40 #[.int .i64 st, .int .i64 4] (Sort.grow (redrawn Y d) os) fun e w'' => e = .returned (.string T3') ∧ ∃ z : Regrown, w'' = Sort.grow (redrawn Y z.d) z.os := fun d os => Calls.regrown_of (u3 _)
      have c4 : ∀ d os, Calls Tryz.prog 40 #[.int .i64 pr, .int .i64 1] (Sort.grow (redrawn Y d) os) fun e w'' => e = .returned (.string T4') ∧ ∃ z : Regrown, w'' = Sort.grow (redrawn Y z.d) z.os := fun d os => Calls.regrown_of (u4 _)
      have c5 : ∀ d os, Calls Tryz.prog 40 #[.int .i64 (so.length : Int), .int .i64 1] (Sort.grow (redrawn Y d) os) fun e w'' => e = .returned (.string T5') ∧ ∃ z : Regrown, w'' = Sort.grow (redrawn Y z.d) z.os := fun d os => Calls.regrown_of (u5 _)
      have hnb : (nm.size : Int) ≤ 255 := by omega
      have hsb : (so.length : Int) ≤ 250 := by omega
      have j0 : (0 : Int) ≤ (j : Int) := by omega
      have j1 : (j : Int) < (c.ens.length : Int) := by omega
      clear hI hm sr hmem hnm hso hwz heq u1 u3 u4 u5 hP hS hacc e1 v0 v1 v2 v3 v4
      go_upto_region 6 with fail
      rw [← hY']
      clear hY' d0 d1 d2 d3 d4 z0 z1 z2 z3
      go_wp2_with fail
      refine wp_region_quiet_below (by kernel_rfl) (by kernel_rfl) ?_
      repeat (first | go_big_quiet_step (first | with_reducible exact c1 _ _ | with_reducible exact c3 _ _ | with_reducible exact c4 _ _ | with_reducible exact c5 _ _) | quiet_step (first | with_reducible exact c1 _ _ | with_reducible exact c3 _ _ | with_reducible exact c4 _ _ | with_reducible exact c5 _ _))
      refine wpQuiet_nil ?_
      intro _ hw'
      obtain ⟨⟨dq, osq⟩, hw''⟩ := hw'
      subst hw''
      have hY := below_regrown Y dq osq
      first | (change Exit.then _ _ Exit.normal _ (Sort.grow (redrawn Y dq) osq)) | skip
      generalize Sort.grow (redrawn Y dq) osq = Y1 at hY ⊢
      clear c1 c3 c4 c5
      have HY1 : Hid (Below Y.heap.size Y Y1) := hY
      have H3 : Hid (∃ ac, S5 = YtcjnejdemfemfaaGreatDoor.bk ac ∧ ac = A2 ++ (so.take 0).map byteOf) := ⟨A2, HS5.out, by simp⟩
      clear hY y0 y1 y2 y3 k1 k2 k3 k4 k5 HS5
      go_wp2_with fail
      go_loopw [3, 6] (fun v i wv => ∃ (S : ByteArray) (k : Nat), v = .string S ∧ k ≤ so.length ∧ i = .int .i64 (k : Int) ∧ Hid (∃ ac, S = YtcjnejdemfemfaaGreatDoor.bk ac ∧ ac = A2 ++ (so.take k).map byteOf) ∧ Hid (Below Y.heap.size Y wv)) (fun _ i _ => so.length - (intOf i).toNat)
      case atStart => exact ⟨S5, 0, rfl, Nat.zero_le _, rfl, H3, HY1⟩
      case round =>
        obtain ⟨S, k, rfl, hkk, rfl, hK, hw⟩ := hrel
        clear H3 HY1
        obtain ⟨v0, v1, v2, v3, v4⟩ := HE.out wr hw.out
        obtain ⟨ac, hS, hac⟩ := hK.out
        have hal : ac.length ≤ 281474976710906 := by
          rw [hac, List.length_append, List.length_map, List.length_take]
          have := HA2l.out
          omega
        have k0 : (0 : Int) ≤ (k : Int) := by omega
        by_cases hkn : k < so.length
        case pos =>
          have hc : ∃ g o, q = some ⟨g, o, none⟩ ∧ wr.cell? ⟨g, o + k, none⟩ = some (.int .i64 so[k]) := by
            obtain ⟨g, o, h1, h2, h3⟩ := row_get HRow.out k hkn
            refine ⟨g, o, h1, ?_⟩
            have e1 := h3 k (.int .i64 so[k]) (by unfold sv; rw [List.getElem?_map, List.getElem?_eq_getElem hkn]; rfl)
            have hzY := HFY.out.2.size
            exact (hw.out.cell (p := ⟨g, o + k, none⟩) (by show g < _; omega)).trans ((HFY.out.2.cell (p := ⟨g, o + k, none⟩) h2).trans e1)
          obtain ⟨gs, os', hq, hcell⟩ := hc
          rw [hq] at v3
          have kk := cat_bk ac [byteOf so[k]] (by simp; omega)
          rw [← hS] at kk
          have HN : Hid (∃ ac', YtcjnejdemfemfaaGreatDoor.bk (ac ++ [byteOf so[k]]) = YtcjnejdemfemfaaGreatDoor.bk ac' ∧ ac' = A2 ++ (so.take (k + 1)).map byteOf) := ⟨_, rfl, by rw [hac, List.take_succ_eq_append_getElem hkn, List.map_append, List.append_assoc]; rfl⟩
          have uw := wide1 so[k] wr
          generalize YtcjnejdemfemfaaGreatDoor.bk (ac ++ [byteOf so[k]]) = SN at kk HN
          generalize YtcjnejdemfemfaaGreatDoor.bk [byteOf so[k]] = TW at kk uw
          generalize so[k] = sk at *
          have k1 : (k : Int) < (so.length : Int) := by omega
          clear hK hac hS hal hq
          go_wp2_with (first | (go_at_call 40; refine uw.mono ?_; rintro e V ⟨rfl, hv⟩) | fail)
          exact ⟨⟨SN, k + 1, rfl, by omega, by go_num, HN, below2 hw.out hv⟩, by simp [intOf]; omega⟩
        obtain rfl : k = so.length := by omega
        have k1 : ¬ (so.length : Int) < (so.length : Int) := by omega
        have kk := cat_bk ac [byteOf rs] (by simp; omega)
        rw [← hS] at kk
        have HN : Hid (∃ acc, YtcjnejdemfemfaaGreatDoor.bk (ac ++ [byteOf rs]) = YtcjnejdemfemfaaGreatDoor.bk acc ∧ acc ++ ((Es.drop (j + 1)).flatMap (fun x => entB x.1) ++ (numB (c.txs.length : Int) 2 ++ R1)) = PR) := ⟨_, rfl, by
          rw [← HP2.out, hac, List.take_length]
          simp only [List.append_assoc]⟩
        have uw := wide1 rs wr
        generalize YtcjnejdemfemfaaGreatDoor.bk (ac ++ [byteOf rs]) = SN at kk HN
        generalize YtcjnejdemfemfaaGreatDoor.bk [byteOf rs] = TW at kk uw
        have HBb : Hid (∀ V, Below wr.heap.size wr V → Below X.heap.size X V) := fun V hV => below2 (below2 (below2 hb.out HFY.out.2) hw.out) hV
        clear hK hac hS hal
        go_wp2_with (first | (go_at_call 40; refine uw.mono ?_; rintro e V ⟨rfl, hv⟩) | fail)
        exact ⟨⟨SN, j + 1, rfl, by omega, by go_num, HN, HBb.out _ hv⟩, by simp [intOf]; omega⟩
    obtain rfl : j = c.ens.length := by omega
    have p1 : ¬ (c.ens.length : Int) < (c.ens.length : Int) := by omega
    obtain ⟨acc, hS, hP⟩ := hI.out
    have hacc : acc.length ≤ 281474976710656 := by
      have h1 := congrArg List.length hP
      rw [List.length_append] at h1
      have := HPl.out
      omega
    rw [List.drop_eq_nil_of_le (by rw [HL.out]; exact Nat.le_refl _), List.flatMap_nil, List.nil_append] at hP
    have kk := cat_bk acc (numB (c.txs.length : Int) 2) (by rw [numB_len]; omega)
    rw [← hS] at kk
    have H2 : Hid (∃ acc', YtcjnejdemfemfaaGreatDoor.bk (acc ++ numB (c.txs.length : Int) 2) = YtcjnejdemfemfaaGreatDoor.bk acc' ∧ acc' ++ ((c.txs.drop 0).flatMap txB ++ (numB (c.ins.length : Int) 4 ++ R2)) = PR) := ⟨_, rfl, by rw [← hP, HR1.out, List.drop_zero, List.append_assoc]⟩
    have uw := wide2 (c.txs.length : Int) wr
    generalize YtcjnejdemfemfaaGreatDoor.bk (acc ++ numB (c.txs.length : Int) 2) = SN at kk H2
    generalize YtcjnejdemfemfaaGreatDoor.bk (numB (c.txs.length : Int) 2) = TW at kk uw
    clear hI hS hP hacc hlt hj
    go_wp2_with (first | (go_at_call 40; refine uw.mono ?_; rintro e V ⟨rfl, hv⟩) | fail)
    have HV : Hid (Below X.heap.size X V) := below2 hb.out hv
    clear kk z0 z1 z2 z3 hv hb p1 uw
    go_loopw [3, 7] (fun v i wv => ∃ (S : ByteArray) (j : Nat), v = .string S ∧ j ≤ c.txs.length ∧ i = .int .i64 (j : Int) ∧ Hid (∃ acc, S = YtcjnejdemfemfaaGreatDoor.bk acc ∧ acc ++ ((c.txs.drop j).flatMap txB ++ (numB (c.ins.length : Int) 4 ++ R2)) = PR) ∧ Hid (Below X.heap.size X wv)) (fun _ i _ => c.txs.length - (intOf i).toNat)
    case atStart => exact ⟨SN, 0, rfl, Nat.zero_le _, rfl, H2, HV⟩
    case round =>
      obtain ⟨S, j, rfl, hj, rfl, hI, hb⟩ := hrel
      clear H2 HV
      obtain ⟨z0, z1, z2, z3⟩ := HC.out wr hb.out
      obtain ⟨acc, hS, hP⟩ := hI.out
      have hacc : acc.length ≤ 281474976710656 := by
        have h1 := congrArg List.length hP
        rw [List.length_append] at h1
        have := HPl.out
        omega
      by_cases hlt : j < c.txs.length
      case pos =>
        obtain ⟨g, o, htq, hg, d0⟩ := (HM.out wr hb.out).txt j hlt
        have hts := HSm.out.ts _ (List.getElem_mem hlt)
        rw [List.drop_eq_getElem_cons hlt, List.flatMap_cons] at hP
        rw [htq] at z2
        have e1 : c.txs[j].data.toList.length = c.txs[j].size := Array.length_toList (xs := c.txs[j].data)
        have k1 := cat_bk acc [byteOf (c.txs[j].size : Int)] (by simp; omega)
        have k2 := cat_bk (acc ++ [byteOf (c.txs[j].size : Int)]) c.txs[j].data.toList (by simp; omega)
        rw [bk_all] at k2
        rw [← hS] at k1
        have HN : Hid (∃ acc', YtcjnejdemfemfaaGreatDoor.bk (acc ++ [byteOf (c.txs[j].size : Int)] ++ c.txs[j].data.toList) = YtcjnejdemfemfaaGreatDoor.bk acc' ∧ acc' ++ ((c.txs.drop (j + 1)).flatMap txB ++ (numB (c.ins.length : Int) 4 ++ R2)) = PR) := ⟨_, rfl, by
          rw [← hP]
          unfold txB
          simp only [List.append_assoc, List.cons_append, List.nil_append]⟩
        generalize c.txs[j] = tx at *
        have u1 := fun W => wide1 (tx.size : Int) W
        generalize YtcjnejdemfemfaaGreatDoor.bk (acc ++ [byteOf (tx.size : Int)] ++ tx.data.toList) = SN at k2 HN
        generalize YtcjnejdemfemfaaGreatDoor.bk (acc ++ [byteOf (tx.size : Int)]) = S1 at k1 k2
        generalize YtcjnejdemfemfaaGreatDoor.bk [byteOf (tx.size : Int)] = T1' at k1 u1
        have c1 : ∀ d os, Calls Tryz.prog 40 #[.int .i64 (tx.size : Int), .int .i64 1] (Sort.grow (redrawn wr d) os) fun e w'' => e = .returned (.string T1') ∧ ∃ z : Regrown, w'' = Sort.grow (redrawn wr z.d) z.os := fun d os => Calls.regrown_of (u1 _)
        have y2 := cell_regrown z2
        have y0 := cell_regrown d0
        have htb : (tx.size : Int) ≤ 255 := by omega
        have j0 : (0 : Int) ≤ (j : Int) := by omega
        have j1 : (j : Int) < (c.txs.length : Int) := by omega
        clear hI hS hP hacc htq hts e1 u1
        go_wp2_with fail
        refine wp_region_quiet_below (by kernel_rfl) (by kernel_rfl) ?_
        repeat (first | go_big_quiet_step (first | with_reducible exact c1 _ _) | quiet_step (first | with_reducible exact c1 _ _))
        refine wpQuiet_nil ?_
        intro _ hw'
        obtain ⟨⟨dq, osq⟩, hw''⟩ := hw'
        subst hw''
        have hY := below_regrown wr dq osq
        first | (change Exit.then _ _ Exit.normal _ (Sort.grow (redrawn wr dq) osq)) | skip
        generalize Sort.grow (redrawn wr dq) osq = Y at hY ⊢
        clear c1
        go_wp2
        exact ⟨⟨SN, j + 1, rfl, by omega, by go_num, HN, below2 hb.out hY⟩, by simp [intOf]; omega⟩
      obtain rfl : j = c.txs.length := by omega
      have p1 : ¬ (c.txs.length : Int) < (c.txs.length : Int) := by omega
      rw [List.drop_eq_nil_of_le (Nat.le_refl _), List.flatMap_nil, List.nil_append] at hP
      have kk := cat_bk acc (numB (c.ins.length : Int) 4) (by rw [numB_len]; omega)
      rw [← hS] at kk
      have H2 : Hid (∃ acc', YtcjnejdemfemfaaGreatDoor.bk (acc ++ numB (c.ins.length : Int) 4) = YtcjnejdemfemfaaGreatDoor.bk acc' ∧ acc' ++ (c.ins.drop 0).flatMap insB = PR) := ⟨_, rfl, by rw [← hP, HR2.out, List.drop_zero, List.append_assoc]⟩
      have uw := wide4 (c.ins.length : Int) wr
      generalize YtcjnejdemfemfaaGreatDoor.bk (acc ++ numB (c.ins.length : Int) 4) = SN at kk H2
      generalize YtcjnejdemfemfaaGreatDoor.bk (numB (c.ins.length : Int) 4) = TW at kk uw
      clear hI hS hP hacc hlt hj
      go_wp2_with (first | (go_at_call 40; refine uw.mono ?_; rintro e V ⟨rfl, hv⟩) | fail)
      have HV : Hid (Below X.heap.size X V) := below2 hb.out hv
      clear kk z0 z1 z2 z3 hv hb p1 uw
      go_loopw [3, 8] (fun v i wv => ∃ (S : ByteArray) (j : Nat), v = .string S ∧ j ≤ c.ins.length ∧ i = .int .i64 (j : Int) ∧ Hid (∃ acc, S = YtcjnejdemfemfaaGreatDoor.bk acc ∧ acc ++ (c.ins.drop j).flatMap insB = PR) ∧ Hid (Below X.heap.size X wv)) (fun _ i _ => c.ins.length - (intOf i).toNat)
      case atStart => exact ⟨SN, 0, rfl, Nat.zero_le _, rfl, H2, HV⟩
      case round =>
        obtain ⟨S, j, rfl, hj, rfl, hI, hb⟩ := hrel
        clear H2 HV
        obtain ⟨z0, z1, z2, z3⟩ := HC.out wr hb.out
        obtain ⟨acc, hS, hP⟩ := hI.out
        by_cases hlt : j < c.ins.length
        case pos =>
          obtain ⟨g, o, hiq, hg, d0, d1, d2⟩ := (HM.out wr hb.out).ins j hlt
          have hin := HOk.out.is _ (List.getElem_mem hlt)
          rw [List.drop_eq_getElem_cons hlt, List.flatMap_cons] at hP
          rw [hiq] at z0
          have hacc : acc.length ≤ 281474976710656 := by
            have h1 := congrArg List.length hP
            rw [List.length_append] at h1
            have := HPl.out
            omega
          generalize c.ins[j] = x at *
          obtain ⟨op, a, b⟩ := x
          simp only at d0 d1 d2
          have hop : 0 ≤ op ∧ op < 24 := by
            unfold insS at hin
            simp only [Bool.and_eq_true, decide_eq_true_eq] at hin
            exact ⟨hin.1, hin.2.1⟩
          obtain ⟨ko, rfl⟩ : ∃ k : Nat, op = (k : Int) := ⟨op.toNat, by omega⟩
          have hko : ko < 24 := by omega
          obtain ⟨hA, hB'⟩ := opA_12 ⟨ko, hko⟩
          simp only at hA hB'
          have e8a := shWd8 (opA.getD ko 0)
          have e8b := shWd8 (opB.getD ko 0)
          have einsB : insB ((ko : Int), a, b) = [byteOf (ko : Int)] ++ (numB a (shWd.getD (opA.getD ko 0) 0) ++ numB b (shWd.getD (opB.getD ko 0) 0)) := rfl
          rw [einsB] at hP
          have k1 := cat_bk acc [byteOf (ko : Int)] (by simp; omega)
          have k2 := cat_bk (acc ++ [byteOf (ko : Int)]) (numB a (shWd.getD (opA.getD ko 0) 0)) (by rw [List.length_append, List.length_singleton, numB_len]; omega)
          have k3 := cat_bk (acc ++ [byteOf (ko : Int)] ++ numB a (shWd.getD (opA.getD ko 0) 0)) (numB b (shWd.getD (opB.getD ko 0) 0)) (by rw [List.length_append, List.length_append, List.length_singleton, numB_len, numB_len]; omega)
          rw [← hS] at k1
          have HN : Hid (∃ acc', YtcjnejdemfemfaaGreatDoor.bk (acc ++ [byteOf (ko : Int)] ++ numB a (shWd.getD (opA.getD ko 0) 0) ++ numB b (shWd.getD (opB.getD ko 0) 0)) = YtcjnejdemfemfaaGreatDoor.bk acc' ∧ acc' ++ (c.ins.drop (j + 1)).flatMap insB = PR) := ⟨_, rfl, by
            rw [← hP]
            simp only [List.append_assoc]⟩
          have u1 := fun W => wide1 (ko : Int) W
          have uA := fun W => rA_any ko W hko
          have uB := fun W => rB_b ko W hko
          have uw1 := fun W => rwidth_any (opA.getD ko 0) W hA
          have uw2 := fun W => rwidth_any (opB.getD ko 0) W hB'
          have u2 := fun W => wide_any a (shWd.getD (opA.getD ko 0) 0) e8a W
          have u3 := fun W => wide_any b (shWd.getD (opB.getD ko 0) 0) e8b W
          generalize YtcjnejdemfemfaaGreatDoor.bk (acc ++ [byteOf (ko : Int)] ++ numB a (shWd.getD (opA.getD ko 0) 0) ++ numB b (shWd.getD (opB.getD ko 0) 0)) = SN at k3 HN
          generalize YtcjnejdemfemfaaGreatDoor.bk (acc ++ [byteOf (ko : Int)] ++ numB a (shWd.getD (opA.getD ko 0) 0)) = S2 at k2 k3
          generalize YtcjnejdemfemfaaGreatDoor.bk (acc ++ [byteOf (ko : Int)]) = S1 at k1 k2
          generalize YtcjnejdemfemfaaGreatDoor.bk [byteOf (ko : Int)] = T1' at k1 u1
          generalize YtcjnejdemfemfaaGreatDoor.bk (numB a (shWd.getD (opA.getD ko 0) 0)) = T2' at k2 u2
          generalize YtcjnejdemfemfaaGreatDoor.bk (numB b (shWd.getD (opB.getD ko 0) 0)) = T3' at k3 u3
          clear hI hS hP hacc hiq hin hop einsB e8a e8b hA hB'
          generalize shWd.getD (opA.getD ko 0) 0 = wa at *
          generalize shWd.getD (opB.getD ko 0) 0 = wb at *
          generalize opA.getD ko 0 = oa at *
          generalize opB.getD ko 0 = ob at *
          obtain ⟨Y, hY'⟩ : ∃ Y, Y = wr.alloc (.cells #[.int .i64 (ko : Int), .int .i64 a, .int .i64 b] 48) := ⟨_, rfl⟩
          have nb : Below wr.heap.size wr Y := by rw [hY']; exact (Below.refl _ wr).alloc (Nat.le_refl _) _
          have fY : Full Y wr.heap.size 48 [.int .i64 (ko : Int), .int .i64 a, .int .i64 b] := by rw [hY']; exact Full.new wr _ _
          have y0 := cell_regrown (fY.cell 0 _ rfl).1
          have y1 := cell_regrown (fY.cell 1 _ rfl).1
          have y2 := cell_regrown (fY.cell 2 _ rfl).1
          have c1 : ∀ d os, Calls Tryz.prog 40 #[.int .i64 (ko : Int), .int .i64 1] (Sort.grow (redrawn Y d) os) fun e w'' => e = .returned (.string T1') ∧ ∃ z : Regrown, w'' = Sort.grow (redrawn Y z.d) z.os := fun d os => Calls.regrown_of (u1 _)
          have cA : ∀ d os, Calls Tryz.prog 21 #[.int .i64 (ko : Int)] (Sort.grow (redrawn Y d) os) fun e w'' => e = .returned (.int .i64 (oa : Int)) ∧ ∃ z : Regrown, w'' = Sort.grow (redrawn Y z.d) z.os := fun d os => Calls.regrown_of (uA _)
          have cB : ∀ d os, Calls Tryz.prog 22 #[.int .i64 (ko : Int)] (Sort.grow (redrawn Y d) os) fun e w'' => e = .returned (.int .i64 (ob : Int)) ∧ ∃ z : Regrown, w'' = Sort.grow (redrawn Y z.d) z.os := fun d os => Calls.regrown_of (uB _)
          have cw1 : ∀ d os, Calls Tryz.prog 41 #[.int .i64 (oa : Int)] (Sort.grow (redrawn Y d) os) fun e w'' => e = .returned (.int .i64 (wa : Int)) ∧ ∃ z : Regrown, w'' = Sort.grow (redrawn Y z.d) z.os := fun d os => Calls.regrown_of (uw1 _)
          have cw2 : ∀ d os, Calls Tryz.prog 41 #[.int .i64 (ob : Int)] (Sort.grow (redrawn Y d) os) fun e w'' => e = .returned (.int .i64 (wb : Int)) ∧ ∃ z : Regrown, w'' = Sort.grow (redrawn Y z.d) z.os := fun d os => Calls.regrown_of (uw2 _)
          have c2 : ∀ d os, Calls Tryz.prog 40 #[.int .i64 a, .int .i64 (wa : Int)] (Sort.grow (redrawn Y d) os) fun e w'' => e = .returned (.string T2') ∧ ∃ z : Regrown, w'' = Sort.grow (redrawn Y z.d) z.os := fun d os => Calls.regrown_of (u2 _)
          have c3 : ∀ d os, Calls Tryz.prog 40 #[.int .i64 b, .int .i64 (wb : Int)] (Sort.grow (redrawn Y d) os) fun e w'' => e = .returned (.string T3') ∧ ∃ z : Regrown, w'' = Sort.grow (redrawn Y z.d) z.os := fun d os => Calls.regrown_of (u3 _)
          have HBb : Hid (Below X.heap.size X Y) := below2 hb.out nb
          have j0 : (0 : Int) ≤ (j : Int) := by omega
          have j1 : (j : Int) < (c.ins.length : Int) := by omega
          clear u1 uA uB uw1 uw2 u2 u3 nb fY
          go_upto_region 22 with fail
          rw [← hY']
          clear hY' d0 d1 d2 z0 z1 z2 z3
          go_wp2_with fail
          refine wp_region_quiet_below (by kernel_rfl) (by kernel_rfl) ?_
          repeat (first | go_big_quiet_step (first | with_reducible exact c1 _ _ | with_reducible exact cA _ _ | with_reducible exact cB _ _ | with_reducible exact cw1 _ _ | with_reducible exact cw2 _ _ | with_reducible exact c2 _ _ | with_reducible exact c3 _ _) | quiet_step (first | with_reducible exact c1 _ _ | with_reducible exact cA _ _ | with_reducible exact cB _ _ | with_reducible exact cw1 _ _ | with_reducible exact cw2 _ _ | with_reducible exact c2 _ _ | with_reducible exact c3 _ _))
          refine wpQuiet_nil ?_
          intro _ hw'
          obtain ⟨⟨dq, osq⟩, hw''⟩ := hw'
          subst hw''
          have hY := below_regrown Y dq osq
          first | (change Exit.then _ _ Exit.normal _ (Sort.grow (redrawn Y dq) osq)) | skip
          generalize Sort.grow (redrawn Y dq) osq = Y1 at hY ⊢
          clear c1 cA cB cw1 cw2 c2 c3
          go_wp2
          exact ⟨⟨SN, j + 1, rfl, by omega, by go_num, HN, below2 HBb.out hY⟩, by simp [intOf]; omega⟩
        obtain rfl : j = c.ins.length := by omega
        have p1 : ¬ (c.ins.length : Int) < (c.ins.length : Int) := by omega
        have HF : Hid (S = YtcjnejdemfemfaaGreatDoor.bk PR) := by
          show S = _
          rw [hS, ← hP, List.drop_eq_nil_of_le (Nat.le_refl _), List.flatMap_nil, List.append_nil]
        clear hI hS hP hlt hj
        go_wp2
        first | (change bodyPost Tryz.prog Tryz.f15 _ Exit.ret _ _) | (simp only [Exit.noGoto])
        go_ret
        exact ⟨by rw [← HF.out]; rfl, below2 HX.out.2 hb.out⟩
end Go.Proofs.YtcjnejdemfemfaaGreatDoor

