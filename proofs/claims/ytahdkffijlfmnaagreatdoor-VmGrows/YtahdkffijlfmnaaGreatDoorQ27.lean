import Derived.Test.YtahdkffijlfmnaaGreatDoorQ26
namespace Go.Proofs.YtahdkffijlfmnaaGreatDoor
open Go.RowKit
open Hp (V vc vcs)
theorem lists_next {w Y : World} {g : Nat} {Ls : List (List V)} (h : Hp.ListsAt w g Ls) (hY : Below w.heap.size w Y) : Hp.ListsAt Y g Ls := fun n hn => by
  obtain ⟨q, c, e, r⟩ := h n hn
  refine ⟨q, c, (hY.cell (p := ⟨g, n, none⟩) (block_lt_of_cell e)).trans e, fun h0 => ?_⟩
  obtain ⟨b, e1, e2⟩ := r h0
  exact ⟨b, e1, fun j v hv => (hY.cell (p := ⟨b, 0 + j, none⟩) (block_lt_of_cell (e2 j v hv))).trans (e2 j v hv)⟩
theorem lsA_el {A : Hp.Hp} (h : Hp.usedS A ≤ 100000) : ∀ L ∈ Hp.lsA A, L.length ≤ 100000 := fun L hL => by
  rcases List.mem_cons.1 hL with rfl | hL
  · exact Nat.zero_le _
  · obtain ⟨x, hx, rfl⟩ := List.mem_map.1 hL
    have := Hp.used_mem hx
    omega
theorem lsA_le {A : Hp.Hp} (h : Hp.usedS A ≤ 100000) : (Hp.lsA A).length ≤ 100001 := by
  have := Hp.used_ge A
  rw [Hp.lsA_len]
  omega
theorem lsA_grown {A B : Hp.Hp} {l : List Nat} (h : lens B = lens A ++ l) : (Hp.lsA A).length ≤ (Hp.lsA B).length ∧ ∀ n (h1 : n < (Hp.lsA A).length) (h2 : n < (Hp.lsA B).length), (Hp.lsA A)[n].length = (Hp.lsA B)[n].length := by
  have hlen : B.length = A.length + l.length := by
    have := congrArg List.length h
    simpa [lens] using this
  refine ⟨by rw [Hp.lsA_len, Hp.lsA_len]; omega, fun n h1 h2 => ?_⟩
  match n with
  | 0 => rfl
  | k + 1 =>
    rw [Hp.lsA_len] at h1
    have hA : k < A.length := by omega
    have hB : k < B.length := by omega
    have q : (lens B)[k]? = (lens A)[k]? := by rw [h, List.getElem?_append_left (by simpa [lens] using hA)]
    unfold lens at q
    rw [List.getElem?_map, List.getElem?_map, List.getElem?_eq_getElem hA, List.getElem?_eq_getElem hB] at q
    simp only [Option.map_some, Option.some.injEq] at q
    simp only [Hp.lsA, List.getElem_cons_succ, List.getElem_map]
    exact q.symm
theorem out_cut (a l : List UInt8) : (⟨(a ++ l).toArray⟩ : ByteArray).extract 0 (⟨a.toArray⟩ : ByteArray).size = ⟨a.toArray⟩ := by
  apply ByteArray.ext
  rw [ByteArray.data_extract]
  apply Array.ext'
  show ((a ++ l).toArray.extract 0 a.toArray.size).toList = a
  simp
def setV (iq eq tq nq : Option Addr) (i ia e ea t ta n na : Nat) (mn d l : Int) : Value := .agg #[.slice iq i ia, .slice eq e ea, .slice tq t ta, .int .i64 mn, .slice nq n na, .int .i64 d, .int .i64 l]
theorem went_cells {w : World} {iq eq tq nq : Option Addr} {i ia e ea t ta n na : Nat} {mn d l : Int} {r0 r1 r2 r3 r4 r5 r6 s0 s1 s2 s3 s4 s5 s6 : Value} (X : World) (hX : ((w.alloc (.cells #[.slice iq i ia, .slice eq e ea, .slice tq t ta, .int .i64 mn, .slice nq n na, .int .i64 d, .int .i64 l] 31)).alloc (.cells #[r0, r1, r2, r3, r4, r5, r6] 46)).alloc (.cells #[s0, s1, s2, s3, s4, s5, s6] 46) = X) :
    Below w.heap.size w X ∧ ∀ Y, Below X.heap.size X Y → Y.cell? ⟨w.heap.size, 4, none⟩ = some (.slice nq n na) ∧ Y.cell? ⟨w.heap.size, 5, none⟩ = some (.int .i64 d) ∧ Y.cell? ⟨w.heap.size, 6, none⟩ = some (.int .i64 l) ∧ Y.cell? ⟨w.heap.size + 1, 2, none⟩ = some r2 ∧ Y.cell? ⟨w.heap.size + 1, 3, none⟩ = some r3 ∧ Y.cell? ⟨w.heap.size + 1, 4, none⟩ = some r4 ∧ Y.cell? ⟨w.heap.size + 1, 6, none⟩ = some r6 ∧ Y.cell? ⟨w.heap.size + 1 + 1, 0, none⟩ = some s0 ∧ Y.cell? ⟨w.heap.size + 1 + 1, 1, none⟩ = some s1 ∧ Y.cell? ⟨w.heap.size + 1 + 1, 2, none⟩ = some s2 ∧ Y.cell? ⟨w.heap.size + 1 + 1, 3, none⟩ = some s3 ∧ Y.cell? ⟨w.heap.size + 1 + 1, 4, none⟩ = some s4 ∧ Y.cell? ⟨w.heap.size + 1 + 1, 6, none⟩ = some s6 := by
  obtain ⟨A, hA⟩ : ∃ A, w.alloc (.cells #[.slice iq i ia, .slice eq e ea, .slice tq t ta, .int .i64 mn, .slice nq n na, .int .i64 d, .int .i64 l] 31) = A := ⟨_, rfl⟩
  rw [hA] at hX
  obtain ⟨B, hB⟩ : ∃ B, A.alloc (.cells #[r0, r1, r2, r3, r4, r5, r6] 46) = B := ⟨_, rfl⟩
  rw [hB] at hX
  have zA : A.heap.size = w.heap.size + 1 := by rw [← hA]; simp
  have zB : B.heap.size = w.heap.size + 1 + 1 := by rw [← hB]; simp [zA]
  have fA : Full A w.heap.size 31 [.slice iq i ia, .slice eq e ea, .slice tq t ta, .int .i64 mn, .slice nq n na, .int .i64 d, .int .i64 l] := by rw [← hA]; exact Full.new w _ _
  have fB : Full B A.heap.size 46 [r0, r1, r2, r3, r4, r5, r6] := by rw [← hB]; exact Full.new A _ _
  have fX : Full X B.heap.size 46 [s0, s1, s2, s3, s4, s5, s6] := by rw [← hX]; exact Full.new B _ _
  have bA : Below w.heap.size w A := by rw [← hA]; exact (Below.refl _ w).alloc (Nat.le_refl _) _
  have bB : Below A.heap.size A B := by rw [← hB]; exact (Below.refl _ A).alloc (Nat.le_refl _) _
  have bX : Below B.heap.size B X := by rw [← hX]; exact (Below.refl _ B).alloc (Nat.le_refl _) _
  rw [zA] at fB
  rw [zB] at fX
  refine ⟨below2 (below2 bA bB) bX, fun Y hY => ?_⟩
  have fA3 := ((fA.next bB).next bX).next hY
  have fB3 := (fB.next bX).next hY
  have fX3 := fX.next hY
  exact ⟨(fA3.cell 4 _ rfl).1, (fA3.cell 5 _ rfl).1, (fA3.cell 6 _ rfl).1, (fB3.cell 2 _ rfl).1, (fB3.cell 3 _ rfl).1, (fB3.cell 4 _ rfl).1, (fB3.cell 6 _ rfl).1, (fX3.cell 0 _ rfl).1, (fX3.cell 1 _ rfl).1, (fX3.cell 2 _ rfl).1, (fX3.cell 3 _ rfl).1, (fX3.cell 4 _ rfl).1, (fX3.cell 6 _ rfl).1⟩
set_option maxRecDepth 100000 in
set_option maxHeartbeats 2000000 in
theorem went_any {w : World} {K : Cg} {S S' : Ms} (hw : Wt K S S') (hc : Hp.usedS S'.hp ≤ K.lim) (hcS : Hp.usedS S.hp ≤ K.lim) (hlim : K.lim ≤ 100000) (hinp : K.inp.length ≤ 1000) (hdep : K.dep ≤ 1000) (hs0 : 0 ≤ S.steps) (hs1 : S.steps ≤ 4611686018427387904) {g1 g2 c1 c2 : Nat} (h1 : Hp.ListsAt w g1 (Hp.lsA S.hp)) (h2 : Hp.ListsAt w g2 (Hp.lsA S'.hp)) (iq eq tq nq : Option Addr) (i ia e ea t ta na : Nat) (mn : Int) :
    Calls Tryz.prog 14 #[setV iq eq tq nq i ia e ea t ta K.inp.length na mn K.dep (K.lim : Int), runV S (.slice (some ⟨g1, 0, none⟩) (S.hp.length + 1) c1), runV S' (.slice (some ⟨g2, 0, none⟩) (S'.hp.length + 1) c2), .int .i64 (S.fs.length : Int), .int .i64 (S'.fs.length : Int)] w fun z w' => z = .returned (.bool true) ∧ Below w.heap.size w w' := by
  obtain ⟨lg, hlg⟩ := hw.hp
  obtain ⟨hab, hel⟩ := lsA_grown hlg
  rw [← Hp.lsA_len S.hp, ← Hp.lsA_len S'.hp]
  have HG : Hid (∀ Y, Below w.heap.size w Y → Calls Tryz.prog 31 #[.slice (some ⟨g1, 0, none⟩) (Hp.lsA S.hp).length c1, .slice (some ⟨g2, 0, none⟩) (Hp.lsA S'.hp).length c2] Y fun z w' => z = .returned (.bool true) ∧ Below Y.heap.size Y w') := fun Y hY => grown_any (lists_next h1 hY) (lists_next h2 hY) hab hel (lsA_le (by omega))
  have HC : Hid (∀ Y, Below w.heap.size w Y → Calls Tryz.prog 32 #[.slice (some ⟨g2, 0, none⟩) (Hp.lsA S'.hp).length c2] Y fun z w' => z = .returned (.int .i64 (Hp.usedS S'.hp : Int)) ∧ Below Y.heap.size Y w') := fun Y hY => by
    have q := cells_any (c := c2) (lists_next h2 hY) (lsA_le (by omega)) (by rw [Hp.lsA_len]; omega) (lsA_el (by omega))
    rw [cel_used] at q
    exact q
  have HE : Hid (S'.hp = S.hp → ∀ Y, Below w.heap.size w Y → Calls Tryz.prog 30 #[.slice (some ⟨g1, 0, none⟩) (Hp.lsA S.hp).length c1, .slice (some ⟨g2, 0, none⟩) (Hp.lsA S'.hp).length c2] Y fun z w' => z = .returned (.bool true) ∧ Below Y.heap.size Y w') := fun hp Y hY => by
    have k2 := lists_next h2 hY
    rw [hp] at k2 ⊢
    exact Hp.same_any (lists_next h1 hY) k2 (lsA_le (by omega)) (lsA_el (by omega))
  have hc' : ¬ ((K.lim : Int) < (Hp.usedS S'.hp : Int)) := by omega
  clear h1 h2 hlg hab hel
  obtain ⟨ol, hol, -⟩ := hw.out
  have hst := hw.st
  have hsw : IntKind.i64.wrap (S.steps + 1) = S.steps + 1 := by rw [IntKind.wrap_i64]; omega
  have hcut : (⟨S'.out.toArray⟩ : ByteArray).extract 0 (⟨S.out.toArray⟩ : ByteArray).size = ⟨S.out.toArray⟩ := by rw [hol]; exact out_cut _ _
  have hsz : (⟨S.out.toArray⟩ : ByteArray).size ≤ (⟨S'.out.toArray⟩ : ByteArray).size := by
    rw [hol]
    show S.out.toArray.size ≤ (S.out ++ ol).toArray.size
    simp
  have hrd := hw.rd0
  have hrd1 := hw.rd1
  have hrdK := hw.rdK
  have hf0 := hw.f0
  have hf1 := hw.f1
  have hfd := hw.fd
  have hpe := hw.pe
  have htr := hw.tr
  have htp := hw.tp
  clear hw
  unfold setV runV
  rw [hst]
  have hba : S'.out = S.out → (⟨S'.out.toArray⟩ : ByteArray) = ⟨S.out.toArray⟩ := fun q => by rw [q]
  clear hol
  obtain ⟨sa, hsa⟩ : ∃ a : ByteArray, (⟨S.out.toArray⟩ : ByteArray) = a := ⟨_, rfl⟩
  obtain ⟨sb, hsb⟩ : ∃ a : ByteArray, (⟨S'.out.toArray⟩ : ByteArray) = a := ⟨_, rfl⟩
  rw [hsa, hsb] at hcut hsz
  rw [hsa, hsb] at hba
  rw [hsa, hsb]
  have FX := @went_cells w iq eq tq nq i ia e ea t ta K.inp.length na mn K.dep (K.lim : Int) (.int .i64 S.ph) (.int .i64 S.tr) (.string sa) (.int .i64 (S.rd : Int)) (.int .i64 S.steps) (.slice none 0 0) (.slice (some ⟨g1, 0, none⟩) (Hp.lsA S.hp).length c1) (.int .i64 S'.ph) (.int .i64 S'.tr) (.string sb) (.int .i64 (S'.rd : Int)) (.int .i64 (S.steps + 1)) (.slice none 0 0) (.slice (some ⟨g2, 0, none⟩) (Hp.lsA S'.hp).length c2)
  have n1 : ¬ ((S'.rd : Int) < (S.rd : Int)) := by omega
  have n2 : ¬ ((S.rd : Int) + 1 < (S'.rd : Int)) := by omega
  have n3 : ¬ ((K.inp.length : Int) < (S'.rd : Int)) := by omega
  have n4 : ¬ ((S'.fs.length : Int) < (S.fs.length : Int) - 1) := by omega
  have n5 : ¬ ((S.fs.length : Int) + 1 < (S'.fs.length : Int)) := by omega
  have n6 : ¬ (K.dep < (S'.fs.length : Int)) := by omega
  have w1 : IntKind.i64.wrap ((S.rd : Int) + 1) = (S.rd : Int) + 1 := by rw [IntKind.wrap_i64]; omega
  have w2 : IntKind.i64.wrap ((S.fs.length : Int) + 1) = (S.fs.length : Int) + 1 := by rw [IntKind.wrap_i64]; omega
  have w3 : IntKind.i64.wrap ((S.fs.length : Int) - 1) = (S.fs.length : Int) - 1 := by rw [IntKind.wrap_i64]; omega
  have w4 : ¬ ((sb.size : Int) < (sa.size : Int)) := by omega
  clear hsa hsb
  go_enter Tryz.func14, Tryz.ntmps14
  go_wp2_with fail
  generalize hX : ((w.alloc _).alloc _).alloc _ = X
  obtain ⟨bX, hXC⟩ := FX X hX
  clear FX hX
  have HBX : Hid (Below w.heap.size w X) := bX
  have HXC : Hid _ := hXC
  clear bX hXC
  obtain ⟨x4, x5, x6, r2, r3, r4, r6, s0, s1, s2, s3, s4, s6⟩ := HXC.out X (Below.refl _ X)
  replace r2 := cell_regrown r2
  replace r4 := cell_regrown r4
  replace s2 := cell_regrown s2
  replace s4 := cell_regrown s4
  clear x4 x5 x6 r3 r6 s0 s1 s3 s6
  refine wp_region_quiet_below (by kernel_rfl) (by kernel_rfl) ?_
  repeat (first | go_big_quiet_step (first | fail) | quiet_step (first | fail))
  refine wpQuiet_nil ?_
  intro _ hw'
  obtain ⟨⟨dq, osq⟩, hw''⟩ := hw'
  subst hw''
  have hY := below_regrown X dq osq
  first | (change Exit.then _ _ Exit.normal _ (Sort.grow (redrawn X dq) osq)) | skip
  generalize Sort.grow (redrawn X dq) osq = Y at hY ⊢
  have HXY : Hid (Below X.heap.size X Y) := hY
  clear hY r2 r4 s2 s4
  go_wp2_with fail
  obtain ⟨x4, x5, x6, r2, r3, r4, r6, s0, s1, s2, s3, s4, s6⟩ := HXC.out Y HXY.out
  have HBY : Hid (Below w.heap.size w Y) := below2 HBX.out HXY.out
  replace x4 := cell_regrown x4
  replace x6 := cell_regrown x6
  replace r3 := cell_regrown r3
  replace r6 := cell_regrown r6
  replace s3 := cell_regrown s3
  replace s6 := cell_regrown s6
  clear x5 r2 r4 s0 s1 s2 s4
  have d1 := fun d os => Calls.regrown_of (HG.out _ (below2 HBY.out (below_regrown Y d os)))
  have d2 := fun d os => Calls.regrown_of (HC.out _ (below2 HBY.out (below_regrown Y d os)))
  refine wp_region_quiet_below (by kernel_rfl) (by kernel_rfl) ?_
  repeat (first | go_big_quiet_step (first | with_reducible exact d1 _ _ | with_reducible exact d2 _ _) | quiet_step (first | with_reducible exact d1 _ _ | with_reducible exact d2 _ _))
  refine wpQuiet_nil ?_
  intro _ hw'
  obtain ⟨⟨dq, osq⟩, hw''⟩ := hw'
  subst hw''
  have hY := below_regrown Y dq osq
  first | (change Exit.then _ _ Exit.normal _ (Sort.grow (redrawn Y dq) osq)) | skip
  generalize Sort.grow (redrawn Y dq) osq = Z at hY ⊢
  clear d1 d2
  have HXZ : Hid (Below X.heap.size X Z) := below2 HXY.out hY
  clear hY x4 x6 r3 r6 s3 s6
  have HBZ : Hid (Below w.heap.size w Z) := below2 HBX.out HXZ.out
  obtain ⟨x4, x5, x6, r2, r3, r4, r6, s0, s1, s2, s3, s4, s6⟩ := HXC.out Z HXZ.out
  clear r4 s4 x6 n1 n2 n3 w1 w4
  by_cases hp2 : S'.ph = 2
  · obtain ⟨q1, q2, q3, q4, q5, q6, q7⟩ := htp hp2
    have hs := hba q1
    have HE2 := HE.out q4
    rw [q4] at HE2
    have HS : Hid (∀ Y, Below w.heap.size w Y → Calls Tryz.prog 30 #[.slice (some ⟨g1, 0, none⟩) (Hp.lsA S.hp).length c1, .slice (some ⟨g2, 0, none⟩) (Hp.lsA S.hp).length c2] Y fun z w' => z = .returned (.bool true) ∧ Below Y.heap.size Y w') := HE2
    clear HE2
    rw [q4] at s6 ⊢
    rw [hs] at s2
    rw [q2] at s3
    rw [hp2] at s0
    have hf : ¬ S'.fs.length = 0 := fun q => by have := hpe.1 q; omega
    rw [q3] at n4 n5 n6 hf q7 ⊢
    have hf1 : ((S.fs.length : Int) == 0) = false := by simpa using hf
    have ht5 : S'.tr = 5 → (S.rd : Int) = (K.inp.length : Int) := fun q => by have := q6 q; omega
    have hN : Hid (∀ z, Below Z.heap.size Z z → z.cell? ⟨w.heap.size, 4, none⟩ = some (.slice nq K.inp.length na) ∧ z.cell? ⟨w.heap.size, 5, none⟩ = some (.int .i64 K.dep) ∧ z.cell? ⟨w.heap.size + 1 + 1, 1, none⟩ = some (.int .i64 S'.tr) ∧ z.cell? ⟨w.heap.size + 1 + 1, 3, none⟩ = some (.int .i64 (S.rd : Int))) := fun z hz => ⟨(hz.cell (p := ⟨w.heap.size, 4, none⟩) (block_lt_of_cell x4)).trans x4, (hz.cell (p := ⟨w.heap.size, 5, none⟩) (block_lt_of_cell x5)).trans x5, (hz.cell (p := ⟨w.heap.size + 1 + 1, 1, none⟩) (block_lt_of_cell s1)).trans s1, (hz.cell (p := ⟨w.heap.size + 1 + 1, 3, none⟩) (block_lt_of_cell s3)).trans s3⟩
    clear hpe htr htp hba q1 q3 q4 q6 hf
    by_cases t5 : S'.tr = 5
    · rw [t5] at hN
      rw [ht5 t5] at hN s3
      have hkk : ((K.inp.length : Int) == (K.inp.length : Int)) = true := by simp
      go_wp2_with (first
        | (go_at_call 30; refine (HS.out _ HBZ.out).mono ?_; rintro z1 Z1 ⟨rfl, hb1⟩; obtain ⟨u4, u5, u1, u3⟩ := hN.out _ hb1; have HB1 : Hid (Below w.heap.size w Z1) := below2 HBZ.out hb1; clear hb1)
        | fail)
      go_ret
      exact ⟨rfl, HB1.out⟩
    have t5' : (S'.tr == 5) = false := by simpa using t5
    by_cases t3 : S'.tr = 3
    · rw [t3] at hN
      have hd := q7 t3
      rw [hd] at hf1 n4 n5 n6 w2 w3 ⊢
      have hkk : (K.dep == K.dep) = true := by simp
      clear q7 hd hfd
      go_wp2_with (first
        | (go_at_call 30; refine (HS.out _ HBZ.out).mono ?_; rintro z1 Z1 ⟨rfl, hb1⟩; obtain ⟨u4, u5, u1, u3⟩ := hN.out _ hb1; have HB1 : Hid (Below w.heap.size w Z1) := below2 HBZ.out hb1; clear hb1)
        | fail)
      go_ret
      exact ⟨rfl, HB1.out⟩
    have t3' : (S'.tr == 3) = false := by simpa using t3
    have t0' : (S'.tr != 0) = true := by simpa using q5
    go_wp2_with (first
      | (go_at_call 30; refine (HS.out _ HBZ.out).mono ?_; rintro z1 Z1 ⟨rfl, hb1⟩; obtain ⟨u4, u5, u1, u3⟩ := hN.out _ hb1; have HB1 : Hid (Below w.heap.size w Z1) := below2 HBZ.out hb1; clear hb1)
      | fail)
    go_ret
    exact ⟨rfl, HB1.out⟩
  · have hp2' : (S'.ph == 2) = false := by simpa using hp2
    have ht0 := htr hp2
    rw [ht0] at s1
    by_cases hp1 : S'.ph = 1
    · have hf := hpe.2 hp1
      rw [hp1] at s0
      have hf0 : (S'.fs.length : Int) = 0 := by omega
      rw [hf0] at n4 n5 n6 ⊢
      clear hpe htr htp hba
      go_wp2_with fail
      go_ret
      exact ⟨rfl, HBZ.out⟩
    · have hp1' : (S'.ph == 1) = false := by simpa using hp1
      have hf : ((S'.fs.length : Int) == 0) = false := by
        have : ¬ S'.fs.length = 0 := fun q => hp1 (hpe.1 q)
        simpa using this
      clear hpe htr htp hba
      go_wp2_with fail
      go_ret
      exact ⟨rfl, HBZ.out⟩
end Go.Proofs.YtahdkffijlfmnaaGreatDoor
