import Derived.Test.YtaeigpfcfodmdaaEVf
namespace Go.Proofs.Ytaeigpfcfodmdaa
open Go.RowKit

/-! EventsReads. -/
section
variable {w : World} {B : Nat} {tq yq : Option Addr} {tc ycp : Nat} {HT : List Hk} {YL : List Yd}
set_option maxRecDepth 100000 in
set_option maxHeartbeats 16000000 in
theorem reads_any (hT : Row w B tq HT.length (HT.flatMap hc)) (hY : Row w B yq YL.length (YL.flatMap yc)) (hTl : HT.length * 32 ≤ 140737488351232) (hYl : YL.length * 48 ≤ 140737488351232) (hTn : ∀ x ∈ HT, x.2.2.size ≤ 281474976710656) (hYn : ∀ y ∈ YL, y.2.2.2.2.size ≤ 281474976710656 ∧ -9223372036854775808 ≤ y.1) (hB : B ≤ w.heap.size) :
    Calls Try.prog 3 #[.agg #[.slice tq HT.length tc, .slice yq YL.length ycp]] w fun z w' => z = .returned (.bool true) ∧ Below w.heap.size w w' := by
  obtain ⟨n, Hn⟩ : ∃ n, Hid (HT.length = n) := ⟨_, (rfl : HT.length = _)⟩
  obtain ⟨m, Hm⟩ : ∃ m, Hid (YL.length = m) := ⟨_, (rfl : YL.length = _)⟩
  have HM : Hid (Row w B tq HT.length (HT.flatMap hc) ∧ Row w B yq YL.length (YL.flatMap yc) ∧ (∀ x ∈ HT, x.2.2.size ≤ 281474976710656) ∧ (∀ y ∈ YL, y.2.2.2.2.size ≤ 281474976710656 ∧ -9223372036854775808 ≤ y.1) ∧ B ≤ w.heap.size) := ⟨hT, hY, hTn, hYn, hB⟩
  have hnB : n ≤ 4398046510976 := by have := Hn.out; omega
  have hmB : m ≤ 2932031007317 := by have := Hm.out; omega
  have hnI : (n : Int) ≤ 4398046510976 := by omega
  have hmI : (m : Int) ≤ 2932031007317 := by omega
  obtain ⟨X, hX⟩ : ∃ X, w.alloc (.cells #[.slice tq n tc, .slice yq m ycp] 25) = X := ⟨_, rfl⟩
  have B1 : Below w.heap.size w X := by rw [← hX]; exact (Below.refl _ w).alloc (Nat.le_refl _) _
  have F1 : Full X w.heap.size 25 [.slice tq n tc, .slice yq m ycp] := by rw [← hX]; exact Full.new w _ _
  have sX : X.heap.size = w.heap.size + 1 := by rw [← hX]; simp
  have HX : Hid (Full X w.heap.size 25 [.slice tq n tc, .slice yq m ycp] ∧ Below w.heap.size w X ∧ X.heap.size = w.heap.size + 1) := ⟨F1, B1, sX⟩
  have x0 := (F1.cell 0 _ rfl).1
  -- the table with one row ahead
  obtain ⟨C1, hC1⟩ : ∃ C1, X.alloc (.cells #[.int .i64 7, .int .i64 8, .string ⟨#[120]⟩] 28) = C1 := ⟨_, rfl⟩
  have bC1 : Below X.heap.size X C1 := by rw [← hC1]; exact (Below.refl _ X).alloc (Nat.le_refl _) _
  have oC1 : C1.ownsRow X.heap.size 28 3 (.slice (some ⟨X.heap.size, 0, none⟩) 1 1) 1 (hc (7, 8, ⟨#[120]⟩)) := by
    rw [← hC1]
    exact ⟨rfl, .inr ⟨X.heap.size, 1, _, rfl, Nat.le_refl _, World.alloc_heap_new X _, Nat.le_refl _, by decide, rfl, rfl⟩⟩
  obtain ⟨G0, cp0, W1, rA, oA, gA⟩ := app_srcW oC1 tq n tc (HT.flatMap hc) (by rw [hc_len, Hn.out]) (by rw [← Hn.out]; exact row_nil hT) (fun h0 => by
    obtain ⟨g, o, e, hg, hr⟩ := (hT.below (below2 B1 bC1) hB) (by rw [Hn.out]; exact h0)
    exact ⟨g, o, e, hr⟩) (hc_one _) (by omega) bC1.size
  have bW1 : Below X.heap.size X W1 := bC1.trans ((Below.refl _ _).grown gA bC1.size fun x hx => by cases hx; exact Nat.le_refl _)
  have x0C := ((F1.next bC1).cell 0 _ rfl).1
  have HW1 : Hid (W1.ownsRow X.heap.size 28 3 (.slice (some ⟨G0, 0, none⟩) (1 + n) cp0) (1 + n) (((7, 8, ⟨#[120]⟩) :: HT : List Hk).flatMap hc) ∧ Below X.heap.size X W1) := ⟨oA, bW1⟩
  rw [Hn.out, Hm.out]
  clear hT hY hTl hYl hTn hYn hB B1 F1 sX bC1 oC1 oA gA bW1
  go_enter Try.func3, Try.ntmps3
  go_upto_region 2 with (first
    | (at_builtin; refine wpList_apr (v' := .slice (some ⟨G0, 0, none⟩) (1 + n) cp0) (w' := W1) (by rfl) (.tmp 21) (.tmp 23) 22 (by rfl) (by exact rA) ?_)
    | fail)
  clear x0 rA hC1 hX x0C
  -- the first reading
  obtain ⟨L1, HL1⟩ : ∃ L1 : List Hk, Hid (((7, 8, ⟨#[120]⟩) :: HT : List Hk) = L1) := ⟨_, (rfl : ((7, 8, ⟨#[120]⟩) :: HT : List Hk) = _)⟩
  have HL1l : Hid (L1.length = 1 + n) := by show L1.length = 1 + n; rw [← HL1.out, List.length_cons, Hn.out]; omega
  have HL1n : Hid (∀ x ∈ L1, x.2.2.size ≤ 281474976710656) := fun x hx => by
    rw [← HL1.out] at hx
    rcases List.mem_cons.1 hx with rfl | hx
    · decide
    · exact HM.out.2.2.1 x hx
  have HRd : Hid (rdS L1 1 true 1 5 e0 = .tuple #[.agg #[.int .i64 7, .int .i64 8, .string ⟨#[120]⟩, .int .i64 1, .int .i64 5, .string e0], .int .i64 0]) := by
    show rdS L1 1 true 1 5 e0 = _
    have e : rowS L1 1 = some (7, 8, ⟨#[120]⟩) := by unfold rowS; rw [if_pos ⟨by omega, by rw [HL1l.out]; omega⟩, ← HL1.out]; rfl
    have e2 : mcS true 1 5 e0 = true := by show (!((1 : Int) == 0) && okV 1 5 e0) = true; rw [show okV 1 5 e0 = (e0.toList == []) from rfl, e0_list]; rfl
    unfold rdS
    rw [e]
    simp only [show fitS 7 true = true from rfl, e2, Bool.and_self, if_true]
    rfl
  go_upto_region 3 with fail
  obtain ⟨V1, hV1⟩ : ∃ V1, V1 = W1.alloc (.cells #[.int .i64 1, .int .i64 5, .string e0] 31) := ⟨_, rfl⟩
  rw [← hV1]
  have bV1 : Below W1.heap.size W1 V1 := by rw [hV1]; exact (Below.refl _ W1).alloc (Nat.le_refl _) _
  have fV1 : Full V1 W1.heap.size 31 [.int .i64 1, .int .i64 5, .string e0] := by rw [hV1]; exact Full.new W1 _ _
  have HV1 : Hid (Full V1 W1.heap.size 31 [.int .i64 1, .int .i64 5, .string e0] ∧ Below X.heap.size X V1) := ⟨fV1, below2 HW1.out.2 bV1⟩
  have c1 := read_any (w := V1) (B := V1.heap.size) (q := some ⟨G0, 0, none⟩) (L := L1) (by
    have := own_next HW1.out.1 bV1
    rw [HL1.out, ← HL1l.out] at this
    exact row_of_own this) (Nat.le_refl _) (by rw [HL1l.out]; omega) HL1n.out cp0 1 (by omega) true 1 5 e0 (by decide)
  rw [HRd.out, HL1l.out] at c1
  have v0 := (fV1.cell 0 _ rfl).1
  have v1 := (fV1.cell 1 _ rfl).1
  have v2 := (fV1.cell 2 _ rfl).1
  clear bV1 fV1 hV1
  go_wp2_with fail
  refine c1.mono ?_
  rintro e W2 ⟨rfl, b2⟩
  have HV2 : Hid (Full W2 W1.heap.size 31 [.int .i64 1, .int .i64 5, .string e0] ∧ Below X.heap.size X W2) := ⟨HV1.out.1.next b2, below2 HV1.out.2 b2⟩
  clear c1 b2 v0 v1 v2 HV1
  generalize W1.heap.size = b4 at *
  go_upto_region 4 with fail
  obtain ⟨W3, hW3⟩ : ∃ W3, W3 = W2.alloc (.cells #[.int .i64 7, .int .i64 8, .string ⟨#[120]⟩, .int .i64 1, .int .i64 5, .string e0] 33) := ⟨_, rfl⟩
  rw [← hW3]
  have b3 : Below W2.heap.size W2 W3 := by rw [hW3]; exact (Below.refl _ W2).alloc (Nat.le_refl _) _
  have f3 : Full W3 W2.heap.size 33 [.int .i64 7, .int .i64 8, .string ⟨#[120]⟩, .int .i64 1, .int .i64 5, .string e0] := by rw [hW3]; exact Full.new W2 _ _
  have HW3 : Hid (Below X.heap.size X W3 ∧ Full W3 w.heap.size 25 [.slice tq n tc, .slice yq m ycp]) := ⟨below2 HV2.out.2 b3, (HX.out.1.next HV2.out.2).next b3⟩
  have u0 := ((HV2.out.1.next b3).cell 0 _ rfl).1
  have u1 := ((HV2.out.1.next b3).cell 1 _ rfl).1
  have u2 := ((HV2.out.1.next b3).cell 2 _ rfl).1
  have e0' := (f3.cell 0 _ rfl).1
  have e1' := (f3.cell 1 _ rfl).1
  have e2' := (f3.cell 2 _ rfl).1
  have e3' := (f3.cell 3 _ rfl).1
  have e4' := (f3.cell 4 _ rfl).1
  have e5' := (f3.cell 5 _ rfl).1
  have nS := neSameE 7 8 ⟨#[120]⟩ 1 5 e0
  clear hW3 b3 f3 HV2
  go_upto_region 6 with fail
  clear u0 u1 u2 e0' e1' e2' e3' e4' e5' nS
  -- the table's own copy, with a mark
  obtain ⟨E1, hE1⟩ : ∃ E1, W3.alloc (.cells #[] 28) = E1 := ⟨_, rfl⟩
  have bE1 : Below W3.heap.size W3 E1 := by rw [← hE1]; exact (Below.refl _ W3).alloc (Nat.le_refl _) _
  have oE1 : E1.ownsRow W3.heap.size 28 3 (.slice (some ⟨W3.heap.size, 0, none⟩) 0 0) 0 [] := by rw [← hE1]; exact own_empty W3
  have bwE : Below w.heap.size w E1 := below2 (below2 HX.out.2.1 HW3.out.1) bE1
  obtain ⟨G1, cp1, W4, rB, oB, gB⟩ := app_srcW oE1 tq n tc (HT.flatMap hc) (by rw [hc_len, Hn.out]) (by rw [← Hn.out]; exact row_nil HM.out.1) (fun h0 => by
    obtain ⟨g, o, e, hg, hr⟩ := (HM.out.1.below bwE HM.out.2.2.2.2) (by rw [Hn.out]; exact h0)
    exact ⟨g, o, e, hr⟩) (hc_one _) (by omega) bE1.size
  rw [Nat.zero_add] at rB oB
  rw [List.nil_append] at oB
  have bW4 : Below W3.heap.size W3 W4 := bE1.trans ((Below.refl _ _).grown gB bE1.size fun x hx => by cases hx; exact Nat.le_refl _)
  obtain ⟨D1, hD1⟩ : ∃ D1, W4.alloc (.cells #[.int .i64 0, .int .i64 0, .string spT] 28) = D1 := ⟨_, rfl⟩
  have bD1 : Below W4.heap.size W4 D1 := by rw [← hD1]; exact (Below.refl _ W4).alloc (Nat.le_refl _) _
  have fD1 : Full D1 W4.heap.size 28 [.int .i64 0, .int .i64 0, .string spT] := by rw [← hD1]; exact Full.new W4 _ _
  obtain ⟨G2, cp2, W5, rC, oC, gC⟩ := app_srcW (own_next oB bD1) (some ⟨W4.heap.size, 0, none⟩) 1 1 [.int .i64 0, .int .i64 0, .string spT] rfl (fun h => by cases h) (fun _ => ⟨W4.heap.size, 0, rfl, Full.range (d := []) (by rw [List.append_nil]; exact fD1)⟩) (by simp [Value.oneCell']) (by omega) (Nat.le_trans bW4.size bD1.size)
  have bW5 : Below W3.heap.size W3 W5 := (below2 bW4 bD1).trans ((Below.refl _ _).grown gC (below2 bW4 bD1).size fun x hx => by cases hx; exact (oB.lt _ rfl).1)
  have HL5 : Hid (Lw w W5 tq yq n tc m ycp G2 cp2 HT) := ⟨below2 (below2 HX.out.2.1 HW3.out.1) bW5, HW3.out.2.next bW5, own_down oC (by have := HX.out.2.2; have := HW3.out.1.size; omega), Hn.out, HM.out.2.2.1⟩
  have q0 := (HW3.out.2.cell 0 _ rfl).1
  have q0E := ((HW3.out.2.next bE1).cell 0 _ rfl).1
  clear bE1 oE1 bwE oB gB bW4 bD1 fD1 oC gC bW5
  go_upto_region 7 with (first
    | (at_builtin; refine wpList_apr (v' := .slice (some ⟨G1, 0, none⟩) n cp1) (w' := W4) (by rfl) (.tmp 41) (.tmp 43) 22 (by rfl) (by exact rB) ?_)
    | (at_builtin; refine wpList_apr (v' := .slice (some ⟨G2, 0, none⟩) (n + 1) cp2) (w' := W5) (by rfl) _ _ 22 (by rfl) (by exact rC) ?_)
    | fail)
  clear q0 q0E rB rC hE1 hD1 HW3 HL1 HL1l HL1n HRd HW1
  have HCP : Hid (n + 1 ≤ cp2) := HL5.out.le
  have x1 := (HL5.out.x.cell 1 _ rfl).1
  go_wp2_with fail
  clear x1
  go_loopw [51] (fun iv wr => ∃ (i : Nat), i ≤ m ∧ iv = .int .i64 (i : Int) ∧ Hid (Lw w wr tq yq n tc m ycp G2 cp2 HT)) (fun iv _ => m - (intOf iv).toNat)
  case atStart => exact ⟨0, Nat.zero_le _, rfl, HL5⟩
  case round =>
    obtain ⟨i, hi, rfl, HI⟩ := hrel
    clear HL5
    by_cases hlt : i < m
    · obtain ⟨gy, oy, hyq, hgy, hyr⟩ := yd_at HM.out.2.1 i (by rw [Hm.out]; exact hlt)
      have hym := HM.out.2.2.2.1 (YL[i]'(by rw [Hm.out]; exact hlt)) (List.getElem_mem _)
      generalize YL[i]'(by rw [Hm.out]; exact hlt) = y at hyr hym
      obtain ⟨yk, yh, yv, yn, ys⟩ := y
      have HY : Hid (gy < w.heap.size ∧ w.rangeAt gy (oy + i * 5) (yc (yk, yh, yv, yn, ys)) ∧ ys.size ≤ 281474976710656 ∧ -9223372036854775808 ≤ yk) := ⟨Nat.lt_of_lt_of_le hgy HM.out.2.2.2.2, hyr, hym⟩
      subst hyq
      clear hgy hyr hym
      obtain ⟨a, b, c, d, e, f, er, hrd⟩ := rdS_form HT yk yh yv yn ys
      have HRd : Hid (rdS HT yk yh yv yn ys = .tuple #[.agg #[.int .i64 a, .int .i64 b, .string c, .int .i64 d, .int .i64 e, .string f], .int .i64 er]) := hrd
      clear hrd
      have a0 : (0 : Int) ≤ (i : Int) := by omega
      have a1 : (i : Int) < (m : Int) := by omega
      have sl := cut_run (t := 22) Try.underlying22 sz_hk ⟨G2, 0, none⟩ (n + 1) cp2 n (by have := HCP.out; omega)
      go_upto_region 10 with fail
      go_cut [9, 10] (fun u v wx => ∃ p : Nat, u = .pointer (some ⟨p, 0, none⟩) ∧ v = .int .i64 er ∧ Hid (Full wx p 33 [.int .i64 a, .int .i64 b, .string c, .int .i64 d, .int .i64 e, .string f] ∧ Below wr.heap.size wr wx))
      case first =>
        have SV : Hid (∀ w' : World, Below wr.heap.size wr w' → w'.cell? ⟨w.heap.size, 0, none⟩ = some (.slice tq n tc) ∧ w'.cell? ⟨w.heap.size, 1, none⟩ = some (.slice (some ⟨gy, oy, none⟩) m ycp) ∧ w'.cell? ⟨gy, oy + i * 5, none⟩ = some (.int .i64 yk) ∧ w'.cell? ⟨gy, oy + i * 5 + 1, none⟩ = some (.bool yh) ∧ w'.cell? ⟨gy, oy + i * 5 + 2, none⟩ = some (.int .i64 yv) ∧ w'.cell? ⟨gy, oy + i * 5 + 3, none⟩ = some (.int .i64 yn) ∧ w'.cell? ⟨gy, oy + i * 5 + 4, none⟩ = some (.string ys) ∧ Below wr.heap.size wr w') := HI.out.sv HY.out.1 HY.out.2.1
        obtain ⟨x0, x1, y0, y1, y2, y3, y4, -⟩ := SV.out wr (Below.refl _ _)
        have HC0 : Hid (Below wr.heap.size wr wr.drew ∧ Below wr.heap.size wr (wr.alloc (.cells #[.int .i64 0, .int .i64 0, .string e0, .int .i64 0, .int .i64 0, .string e0] 33)).drew) := ⟨(Below.refl _ _).drew, ((Below.refl _ wr).alloc (Nat.le_refl _) _).drew⟩
        have cP : Hid (∀ w', Below wr.heap.size wr w' → Calls Try.prog 4 #[.slice (some ⟨G2, 0, none⟩) n cp2, .agg #[.int .i64 yk, .bool yh, .int .i64 yv, .int .i64 yn, .string ys]] w' fun z w'' => z = .returned (.tuple #[.agg #[.int .i64 a, .int .i64 b, .string c, .int .i64 d, .int .i64 e, .string f], .int .i64 er]) ∧ Below w'.heap.size w' w'') := fun w' hb => by
          have h := read_own (cp := cp2) (yk := yk) (yh := yh) (yv := yv) (yn := yn) (ys := ys) (own_cut (HI.out.next hb).own (by rw [hc_len, Hn.out])) Hn.out hnB HM.out.2.2.1 HY.out.2.2.2 HY.out.2.2.1
          rw [HRd.out] at h
          exact h
        have c0 : Calls Try.prog 4 #[.slice (some ⟨G2, 0, none⟩) n cp2, .agg #[.int .i64 yk, .bool yh, .int .i64 yv, .int .i64 yn, .string ys]] wr.drew fun z w'' => z = .returned (.tuple #[.agg #[.int .i64 a, .int .i64 b, .string c, .int .i64 d, .int .i64 e, .string f], .int .i64 er]) ∧ Hid (Below wr.heap.size wr w'') := (cP.out _ HC0.out.1).mono fun _ _ h => ⟨h.1, HC0.out.1.trans (h.2.mono HC0.out.1.size)⟩
        have c1 : Calls Try.prog 4 #[.slice (some ⟨G2, 0, none⟩) n cp2, .agg #[.int .i64 yk, .bool yh, .int .i64 yv, .int .i64 yn, .string ys]] (wr.alloc (.cells #[.int .i64 0, .int .i64 0, .string e0, .int .i64 0, .int .i64 0, .string e0] 33)).drew fun z w'' => z = .returned (.tuple #[.agg #[.int .i64 a, .int .i64 b, .string c, .int .i64 d, .int .i64 e, .string f], .int .i64 er]) ∧ Hid (Below wr.heap.size wr w'' ∧ Full w'' wr.heap.size 33 [.int .i64 0, .int .i64 0, .string e0, .int .i64 0, .int .i64 0, .string e0]) := (cP.out _ HC0.out.2).mono fun _ _ h => ⟨h.1, HC0.out.2.trans (h.2.mono HC0.out.2.size), ((Full.new wr _ _).next (Below.refl _ _).drew).next h.2⟩
        clear cP
        go_wp2_with fail
        go_region_held3 (fun w' => w'.cell? ⟨w.heap.size, 0, none⟩ = some (.slice tq n tc) ∧ w'.cell? ⟨w.heap.size, 1, none⟩ = some (.slice (some ⟨gy, oy, none⟩) m ycp) ∧ w'.cell? ⟨gy, oy + i * 5, none⟩ = some (.int .i64 yk) ∧ w'.cell? ⟨gy, oy + i * 5 + 1, none⟩ = some (.bool yh) ∧ w'.cell? ⟨gy, oy + i * 5 + 2, none⟩ = some (.int .i64 yv) ∧ w'.cell? ⟨gy, oy + i * 5 + 3, none⟩ = some (.int .i64 yn) ∧ w'.cell? ⟨gy, oy + i * 5 + 4, none⟩ = some (.string ys) ∧ Below wr.heap.size wr w') (exact SV.out _ (by first | with_reducible assumption | with_reducible exact HC0.out.1 | with_reducible exact HC0.out.2 | with_reducible exact Below.alloc (by with_reducible assumption) (Below.size (by with_reducible assumption)) _ | with_reducible exact below_six (by with_reducible assumption) (by first | (with_reducible exact Nat.le_refl _) | (with_reducible exact Below.size (by assumption))) _ _ _ _ _ _))
          (first
          | (go_at_call 4; (with_reducible refine c0.mono ?_); rintro ez w2 ⟨rfl, hb2⟩; have hcd2 : Below wr.heap.size wr w2 := hb2.out)
          | (go_at_call 4; (with_reducible refine c1.mono ?_); rintro ez w2 ⟨rfl, hb2⟩; have hcd2 : Below wr.heap.size wr w2 := hb2.out.1; have z1 : Full w2 wr.heap.size 33 [.int .i64 0, .int .i64 0, .string e0, .int .i64 0, .int .i64 0, .string e0] := hb2.out.2; obtain ⟨r0, r0'⟩ := z1.cell 0 (.int .i64 0) rfl; obtain ⟨r1, r1'⟩ := z1.cell 1 (.int .i64 0) rfl; obtain ⟨r2, r2'⟩ := z1.cell 2 (.string e0) rfl; obtain ⟨r3, r3'⟩ := z1.cell 3 (.int .i64 0) rfl; obtain ⟨r4, r4'⟩ := z1.cell 4 (.int .i64 0) rfl; obtain ⟨r5, r5'⟩ := z1.cell 5 (.string e0) rfl; have Z1 : Hid (Full w2 wr.heap.size 33 [.int .i64 0, .int .i64 0, .string e0, .int .i64 0, .int .i64 0, .string e0]) := z1; clear z1)
          | fail)
        all_goals
          have HE2 : Hid (Below wr.heap.size wr w2) := hcd2
          clear SV
          go_wp2
          go_meet
          case rel => first | exact ⟨_, rfl, rfl, full_six Z1.out _ _ _ _ _ _, below_six HE2.out (Nat.le_refl _) _ _ _ _ _ _⟩ | exact ⟨_, rfl, rfl, Full.new w2 _ _, below2 HE2.out ((Below.refl _ w2).alloc (Nat.le_refl _) _)⟩
      case rest =>
        obtain ⟨p9, rfl, rfl, hP⟩ := hcut
        have HIa : Hid (Lw w wc tq (some ⟨gy, oy, none⟩) n tc m ycp G2 cp2 HT ∧ Full wc p9 33 [.int .i64 a, .int .i64 b, .string c, .int .i64 d, .int .i64 e, .string f]) := ⟨HI.out.next hP.out.2, hP.out.1⟩
        have HIb : Hid (Lw w wc tq (some ⟨gy, oy, none⟩) n tc m ycp G2 cp2 HT) := HIa.out.1
        clear hP sl HI
        generalize wc = Wa at *
        go_upto_region 11 with fail
        go_cut [11, 12] (fun u v wx => ∃ p : Nat, u = .pointer (some ⟨p, 0, none⟩) ∧ v = .int .i64 er ∧ Hid (Full wx p 33 [.int .i64 a, .int .i64 b, .string c, .int .i64 d, .int .i64 e, .string f] ∧ Below Wa.heap.size Wa wx))
        case first =>
          have SV : Hid (∀ w' : World, Below Wa.heap.size Wa w' → w'.cell? ⟨w.heap.size, 0, none⟩ = some (.slice tq n tc) ∧ w'.cell? ⟨w.heap.size, 1, none⟩ = some (.slice (some ⟨gy, oy, none⟩) m ycp) ∧ w'.cell? ⟨gy, oy + i * 5, none⟩ = some (.int .i64 yk) ∧ w'.cell? ⟨gy, oy + i * 5 + 1, none⟩ = some (.bool yh) ∧ w'.cell? ⟨gy, oy + i * 5 + 2, none⟩ = some (.int .i64 yv) ∧ w'.cell? ⟨gy, oy + i * 5 + 3, none⟩ = some (.int .i64 yn) ∧ w'.cell? ⟨gy, oy + i * 5 + 4, none⟩ = some (.string ys) ∧ Below Wa.heap.size Wa w') := HIb.out.sv HY.out.1 HY.out.2.1
          obtain ⟨x0, x1, y0, y1, y2, y3, y4, -⟩ := SV.out Wa (Below.refl _ _)
          have HC0 : Hid (Below Wa.heap.size Wa Wa.drew ∧ Below Wa.heap.size Wa (Wa.alloc (.cells #[.int .i64 0, .int .i64 0, .string e0, .int .i64 0, .int .i64 0, .string e0] 33)).drew) := ⟨(Below.refl _ _).drew, ((Below.refl _ Wa).alloc (Nat.le_refl _) _).drew⟩
          have cP : Hid (∀ w', Below Wa.heap.size Wa w' → Calls Try.prog 5 #[.slice tq n tc, .agg #[.int .i64 yk, .bool yh, .int .i64 yv, .int .i64 yn, .string ys]] w' fun z w'' => z = .returned (.tuple #[.agg #[.int .i64 a, .int .i64 b, .string c, .int .i64 d, .int .i64 e, .string f], .int .i64 er]) ∧ Below w'.heap.size w' w'') := fun w' hb => by
            have h := rread_row (c := tc) (O := HT) (yk := yk) (yh := yh) (yv := yv) (yn := yn) (ys := ys) (by have := HM.out.1.below (below2 HIb.out.b hb) HM.out.2.2.2.2; rw [Hn.out] at this; exact this) (Nat.le_trans HM.out.2.2.2.2 (below2 HIb.out.b hb).size) Hn.out hnB HY.out.2.2.2 HY.out.2.2.1
            rw [HRd.out] at h
            exact h
          have c0 : Calls Try.prog 5 #[.slice tq n tc, .agg #[.int .i64 yk, .bool yh, .int .i64 yv, .int .i64 yn, .string ys]] Wa.drew fun z w'' => z = .returned (.tuple #[.agg #[.int .i64 a, .int .i64 b, .string c, .int .i64 d, .int .i64 e, .string f], .int .i64 er]) ∧ Hid (Below Wa.heap.size Wa w'') := (cP.out _ HC0.out.1).mono fun _ _ h => ⟨h.1, HC0.out.1.trans (h.2.mono HC0.out.1.size)⟩
          have c1 : Calls Try.prog 5 #[.slice tq n tc, .agg #[.int .i64 yk, .bool yh, .int .i64 yv, .int .i64 yn, .string ys]] (Wa.alloc (.cells #[.int .i64 0, .int .i64 0, .string e0, .int .i64 0, .int .i64 0, .string e0] 33)).drew fun z w'' => z = .returned (.tuple #[.agg #[.int .i64 a, .int .i64 b, .string c, .int .i64 d, .int .i64 e, .string f], .int .i64 er]) ∧ Hid (Below Wa.heap.size Wa w'' ∧ Full w'' Wa.heap.size 33 [.int .i64 0, .int .i64 0, .string e0, .int .i64 0, .int .i64 0, .string e0]) := (cP.out _ HC0.out.2).mono fun _ _ h => ⟨h.1, HC0.out.2.trans (h.2.mono HC0.out.2.size), ((Full.new Wa _ _).next (Below.refl _ _).drew).next h.2⟩
          clear cP
          go_wp2_with fail
          go_region_held3 (fun w' => w'.cell? ⟨w.heap.size, 0, none⟩ = some (.slice tq n tc) ∧ w'.cell? ⟨w.heap.size, 1, none⟩ = some (.slice (some ⟨gy, oy, none⟩) m ycp) ∧ w'.cell? ⟨gy, oy + i * 5, none⟩ = some (.int .i64 yk) ∧ w'.cell? ⟨gy, oy + i * 5 + 1, none⟩ = some (.bool yh) ∧ w'.cell? ⟨gy, oy + i * 5 + 2, none⟩ = some (.int .i64 yv) ∧ w'.cell? ⟨gy, oy + i * 5 + 3, none⟩ = some (.int .i64 yn) ∧ w'.cell? ⟨gy, oy + i * 5 + 4, none⟩ = some (.string ys) ∧ Below Wa.heap.size Wa w') (exact SV.out _ (by first | with_reducible assumption | with_reducible exact HC0.out.1 | with_reducible exact HC0.out.2 | with_reducible exact Below.alloc (by with_reducible assumption) (Below.size (by with_reducible assumption)) _ | with_reducible exact below_six (by with_reducible assumption) (by first | (with_reducible exact Nat.le_refl _) | (with_reducible exact Below.size (by assumption))) _ _ _ _ _ _))
            (first
            | (go_at_call 5; (with_reducible refine c0.mono ?_); rintro ez w2 ⟨rfl, hb2⟩; have hcd2 : Below Wa.heap.size Wa w2 := hb2.out)
            | (go_at_call 5; (with_reducible refine c1.mono ?_); rintro ez w2 ⟨rfl, hb2⟩; have hcd2 : Below Wa.heap.size Wa w2 := hb2.out.1; have z1 : Full w2 Wa.heap.size 33 [.int .i64 0, .int .i64 0, .string e0, .int .i64 0, .int .i64 0, .string e0] := hb2.out.2; obtain ⟨r0, r0'⟩ := z1.cell 0 (.int .i64 0) rfl; obtain ⟨r1, r1'⟩ := z1.cell 1 (.int .i64 0) rfl; obtain ⟨r2, r2'⟩ := z1.cell 2 (.string e0) rfl; obtain ⟨r3, r3'⟩ := z1.cell 3 (.int .i64 0) rfl; obtain ⟨r4, r4'⟩ := z1.cell 4 (.int .i64 0) rfl; obtain ⟨r5, r5'⟩ := z1.cell 5 (.string e0) rfl; have Z1 : Hid (Full w2 Wa.heap.size 33 [.int .i64 0, .int .i64 0, .string e0, .int .i64 0, .int .i64 0, .string e0]) := z1; clear z1)
            | fail)
          all_goals
            have HE2 : Hid (Below Wa.heap.size Wa w2) := hcd2
            clear SV
            go_wp2
            go_meet
            case rel => first | exact ⟨_, rfl, rfl, full_six Z1.out _ _ _ _ _ _, below_six HE2.out (Nat.le_refl _) _ _ _ _ _ _⟩ | exact ⟨_, rfl, rfl, Full.new w2 _ _, below2 HE2.out ((Below.refl _ w2).alloc (Nat.le_refl _) _)⟩

        case rest =>
          obtain ⟨p11, rfl, rfl, hP⟩ := hcut
          have HIc : Hid (Lw w wc tq (some ⟨gy, oy, none⟩) n tc m ycp G2 cp2 HT ∧ Full wc p9 33 [.int .i64 a, .int .i64 b, .string c, .int .i64 d, .int .i64 e, .string f] ∧ Full wc p11 33 [.int .i64 a, .int .i64 b, .string c, .int .i64 d, .int .i64 e, .string f]) := ⟨HIb.out.next hP.out.2, HIa.out.2.next hP.out.2, hP.out.1⟩
          have HId : Hid (Lw w wc tq (some ⟨gy, oy, none⟩) n tc m ycp G2 cp2 HT) := HIc.out.1
          clear hP HIa HIb
          have g0 := (HIc.out.2.1.cell 0 _ rfl).1
          have g1 := (HIc.out.2.1.cell 1 _ rfl).1
          have g2 := (HIc.out.2.1.cell 2 _ rfl).1
          have g3 := (HIc.out.2.1.cell 3 _ rfl).1
          have g4 := (HIc.out.2.1.cell 4 _ rfl).1
          have g5 := (HIc.out.2.1.cell 5 _ rfl).1
          have k0 := (HIc.out.2.2.cell 0 _ rfl).1
          have k1 := (HIc.out.2.2.cell 1 _ rfl).1
          have k2 := (HIc.out.2.2.cell 2 _ rfl).1
          have k3 := (HIc.out.2.2.cell 3 _ rfl).1
          have k4 := (HIc.out.2.2.cell 4 _ rfl).1
          have k5 := (HIc.out.2.2.cell 5 _ rfl).1
          have nS := neSameE a b c d e f

          clear HIc
          go_wp2
          exact ⟨⟨i + 1, by omega, by go_num, HId⟩, by simp [intOf]; omega⟩
    · obtain rfl : m = i := by omega
      have i1 : ¬ ((m : Int) < (m : Int)) := by omega
      have x0 := (HI.out.x.cell 0 _ rfl).1
      go_wp2_with fail
      clear x0 i1 hlt hi
      have HL6 : Hid (∃ O, Lw w wr tq yq n tc m ycp G2 cp2 O ∧ ∀ j, 0 ≤ j → O.getD j hk0 = HT.getD j hk0) := ⟨HT, HI.out, fun _ _ => rfl⟩
      clear HI
      generalize wr = W6 at *
      go_loopw [91] (fun iv wr => ∃ (i : Nat), i ≤ n ∧ iv = .int .i64 (i : Int) ∧ Hid (∃ O, Lw w wr tq yq n tc m ycp G2 cp2 O ∧ ∀ j, i ≤ j → O.getD j hk0 = HT.getD j hk0)) (fun iv _ => n - (intOf iv).toNat)
      case atStart => exact ⟨0, Nat.zero_le _, rfl, HL6⟩
      case round =>
        obtain ⟨i, hi, rfl, HI⟩ := hrel
        clear HL6
        by_cases hlt : i < n
        · obtain ⟨O, hL, hO⟩ := HI.out
          have HL : Hid (Lw w wr tq yq n tc m ycp G2 cp2 O ∧ ∀ j, i ≤ j → O.getD j hk0 = HT.getD j hk0) := ⟨hL, hO⟩
          obtain ⟨t0, t1, t2, t3⟩ := hL.at i hlt
          obtain ⟨gt, ot, htq, hgt, htr⟩ := hk_at HM.out.1 i (by rw [Hn.out]; exact hlt)
          have htr' := range_same htr (hL.b.block gt (Nat.lt_of_lt_of_le hgt HM.out.2.2.2.2))
          rw [← show O.getD i hk0 = HT.getD i (0, 0, e0) from hO i (Nat.le_refl _)] at htr'
          generalize hx : O.getD i hk0 = x at *
          obtain ⟨xa, xb, xc⟩ := x
          have HXg : Hid (O.getD i hk0 = (xa, xb, xc)) := hx
          have s0 := cell_regrown (show wr.cell? ⟨gt, ot + i * 3, none⟩ = some (.int .i64 xa) from htr' 0 _ rfl)
          have s1 := cell_regrown (show wr.cell? ⟨gt, ot + i * 3 + 1, none⟩ = some (.int .i64 xb) from htr' 1 _ rfl)
          have s2 := cell_regrown (show wr.cell? ⟨gt, ot + i * 3 + 2, none⟩ = some (.string xc) from htr' 2 _ rfl)
          have o0 := cell_regrown (show wr.cell? ⟨G2, i * 3, none⟩ = some (.int .i64 xa) from t0)
          have o1 := cell_regrown (show wr.cell? ⟨G2, i * 3 + 1, none⟩ = some (.int .i64 xb) from t1)
          have o2 := cell_regrown (show wr.cell? ⟨G2, i * 3 + 2, none⟩ = some (.string xc) from t2)
          subst htq
          have x0 := cell_regrown (hL.x.cell 0 _ rfl).1
          have nS := neSameH xa xb xc
          have a0 : (0 : Int) ≤ (i : Int) := by omega
          have a1 : (i : Int) < (n : Int) := by omega
          have a2 : (i : Int) < ((n + 1 : Nat) : Int) := by omega
          clear hL hO htr htr' hgt hx t0 t1 t2 t3 HI
          go_upto_region 18 with fail
          go_wp2_with fail
          refine wp_region_quiet_below (by kernel_rfl) (by kernel_rfl) ?_
          repeat (first | go_big_quiet_step (first | fail) | quiet_step (first | fail))
          refine wpQuiet_nil ?_
          intro _ hw'
          obtain ⟨⟨dq, osq⟩, hw''⟩ := hw'
          subst hw''
          have hY := below_regrown wr dq osq
          first | (change Exit.then _ _ Exit.normal _ (Sort.grow (redrawn wr dq) osq)) | skip
          generalize Sort.grow (redrawn wr dq) osq = W7 at hY ⊢
          clear s0 s1 s2 o0 o1 o2 x0 nS
          have HL7 : Hid (Lw w W7 (some ⟨gt, ot, none⟩) yq n tc m ycp G2 cp2 O ∧ ∀ j, i ≤ j → O.getD j hk0 = HT.getD j hk0) := ⟨HL.out.1.next hY, HL.out.2⟩
          clear hY HL
          obtain ⟨t0, t1, t2, t3⟩ := HL7.out.1.at i hlt
          rw [HXg.out] at t1
          simp only at t1
          have HL8 : Hid (∀ xn : Int, Lw w (W7.setCell ⟨G2, i * 3 + 1, none⟩ (.int .i64 xn)) (some ⟨gt, ot, none⟩) yq n tc m ycp G2 cp2 (O.set i ((O.getD i hk0).1, xn, (O.getD i hk0).2.2)) ∧ ∀ j, i + 1 ≤ j → (O.set i ((O.getD i hk0).1, xn, (O.getD i hk0).2.2)).getD j hk0 = HT.getD j hk0) := fun xn => ⟨HL7.out.1.put i hlt xn, fun j hj => by
            rw [← HL7.out.2 j (by omega), List.getD_eq_getElem?_getD, List.getElem?_set_ne (by omega), ← List.getD_eq_getElem?_getD]⟩
          clear t0 t2 HL7
          go_wp2
          exact ⟨⟨i + 1, by omega, by go_num, _, HL8.out _⟩, by simp [intOf]; omega⟩
        · obtain rfl : n = i := by omega
          obtain ⟨O, hL, -⟩ := HI.out
          have HLo : Hid (Lw w wr tq yq n tc m ycp G2 cp2 O) := hL
          have i1 : ¬ ((n : Int) < (n : Int)) := by omega
          clear hL HI hlt hi
          have sl := cut_run (t := 22) Try.underlying22 sz_hk ⟨G2, 0, none⟩ (n + 1) cp2 n (by have := HCP.out; omega)
          obtain ⟨E2, hE2⟩ : ∃ E2, wr.alloc (.cells #[] 28) = E2 := ⟨_, rfl⟩
          have bE2 : Below wr.heap.size wr E2 := by rw [← hE2]; exact (Below.refl _ wr).alloc (Nat.le_refl _) _
          have oE2 : E2.ownsRow wr.heap.size 28 3 (.slice (some ⟨wr.heap.size, 0, none⟩) 0 0) 0 [] := by rw [← hE2]; exact own_empty wr
          obtain ⟨G3, cp3, W8, rD, oD, gD⟩ := app_srcW oE2 (some ⟨G2, 0, none⟩) n cp2 (O.flatMap hc) (by rw [hc_len, HLo.out.len]) (fun h => by cases h) (fun h0 => by
            obtain ⟨g, o, e, -, hr⟩ := (HLo.out.next bE2).row (by rw [HLo.out.len]; exact h0)
            cases e
            exact ⟨G2, 0, rfl, hr⟩) (hc_one _) (by omega) bE2.size
          rw [Nat.zero_add] at rD oD
          rw [List.nil_append] at oD
          have bW8 : Below wr.heap.size wr W8 := bE2.trans ((Below.refl _ _).grown gD bE2.size fun x hx => by cases hx; exact Nat.le_refl _)
          have HL9 : Hid (Lw w W8 tq yq n tc m ycp G2 cp2 O ∧ W8.ownsRow (w.heap.size + 1) 28 3 (.slice (some ⟨G3, 0, none⟩) n cp3) n (O.flatMap hc)) := ⟨HLo.out.next bW8, own_down oD (by have := HLo.out.x.lt; omega)⟩
          have HLn : Hid (O.length = n ∧ ∀ x ∈ O, x.2.2.size ≤ 281474976710656) := ⟨HLo.out.len, HLo.out.nm⟩
          have q0E := ((HLo.out.x.next bE2).cell 0 _ rfl).1
          clear bE2 oE2 oD gD bW8 HLo
          go_upto_region 23 with (first
            | (at_builtin; refine wpList_apr (v' := .slice (some ⟨G3, 0, none⟩) n cp3) (w' := W8) (by rfl) (.tmp 115) (.tmp 120) 22 (by rfl) (by exact rD) ?_)
            | fail)
          clear q0E rD hE2 sl i1
          generalize wr = W7 at *
          have x1 := (HL9.out.1.x.cell 1 _ rfl).1
          go_wp2_with fail
          clear x1
          go_loopw [125] (fun iv wr => ∃ (i : Nat), i ≤ m ∧ iv = .int .i64 (i : Int) ∧ Hid (Lw w wr tq yq n tc m ycp G2 cp2 O ∧ wr.ownsRow (w.heap.size + 1) 28 3 (.slice (some ⟨G3, 0, none⟩) n cp3) n (O.flatMap hc))) (fun iv _ => m - (intOf iv).toNat)
          case atStart => exact ⟨0, Nat.zero_le _, rfl, HL9⟩
          case round =>
            obtain ⟨i, hi, rfl, HI⟩ := hrel
            clear HL9
            by_cases hlt : i < m
            · obtain ⟨gy, oy, hyq, hgy, hyr⟩ := yd_at HM.out.2.1 i (by rw [Hm.out]; exact hlt)
              have hym := HM.out.2.2.2.1 (YL[i]'(by rw [Hm.out]; exact hlt)) (List.getElem_mem _)
              generalize YL[i]'(by rw [Hm.out]; exact hlt) = y at hyr hym
              obtain ⟨yk, yh, yv, yn, ys⟩ := y
              have HY : Hid (gy < w.heap.size ∧ w.rangeAt gy (oy + i * 5) (yc (yk, yh, yv, yn, ys)) ∧ ys.size ≤ 281474976710656 ∧ -9223372036854775808 ≤ yk) := ⟨Nat.lt_of_lt_of_le hgy HM.out.2.2.2.2, hyr, hym⟩
              subst hyq
              clear hgy hyr hym
              obtain ⟨a, b, c, d, e, f, er, hrd⟩ := rdS_form O yk yh yv yn ys
              have HRd : Hid (rdS O yk yh yv yn ys = .tuple #[.agg #[.int .i64 a, .int .i64 b, .string c, .int .i64 d, .int .i64 e, .string f], .int .i64 er]) := hrd
              clear hrd
              have a0 : (0 : Int) ≤ (i : Int) := by omega
              have a1 : (i : Int) < (m : Int) := by omega
              have sl := cut_run (t := 22) Try.underlying22 sz_hk ⟨G2, 0, none⟩ (n + 1) cp2 n (by have := HCP.out; omega)
              have HIx : Hid (Lw w wr tq (some ⟨gy, oy, none⟩) n tc m ycp G2 cp2 O) := HI.out.1
              go_upto_region 26 with fail
              go_cut [16, 17] (fun u v wx => ∃ p : Nat, u = .pointer (some ⟨p, 0, none⟩) ∧ v = .int .i64 er ∧ Hid (Full wx p 33 [.int .i64 a, .int .i64 b, .string c, .int .i64 d, .int .i64 e, .string f] ∧ Below wr.heap.size wr wx))
              case first =>
                have SV : Hid (∀ w' : World, Below wr.heap.size wr w' → w'.cell? ⟨w.heap.size, 0, none⟩ = some (.slice tq n tc) ∧ w'.cell? ⟨w.heap.size, 1, none⟩ = some (.slice (some ⟨gy, oy, none⟩) m ycp) ∧ w'.cell? ⟨gy, oy + i * 5, none⟩ = some (.int .i64 yk) ∧ w'.cell? ⟨gy, oy + i * 5 + 1, none⟩ = some (.bool yh) ∧ w'.cell? ⟨gy, oy + i * 5 + 2, none⟩ = some (.int .i64 yv) ∧ w'.cell? ⟨gy, oy + i * 5 + 3, none⟩ = some (.int .i64 yn) ∧ w'.cell? ⟨gy, oy + i * 5 + 4, none⟩ = some (.string ys) ∧ Below wr.heap.size wr w') := HIx.out.sv HY.out.1 HY.out.2.1
                obtain ⟨x0, x1, y0, y1, y2, y3, y4, -⟩ := SV.out wr (Below.refl _ _)
                have HC0 : Hid (Below wr.heap.size wr wr.drew ∧ Below wr.heap.size wr (wr.alloc (.cells #[.int .i64 0, .int .i64 0, .string e0, .int .i64 0, .int .i64 0, .string e0] 33)).drew) := ⟨(Below.refl _ _).drew, ((Below.refl _ wr).alloc (Nat.le_refl _) _).drew⟩
                have cP : Hid (∀ w', Below wr.heap.size wr w' → Calls Try.prog 4 #[.slice (some ⟨G2, 0, none⟩) n cp2, .agg #[.int .i64 yk, .bool yh, .int .i64 yv, .int .i64 yn, .string ys]] w' fun z w'' => z = .returned (.tuple #[.agg #[.int .i64 a, .int .i64 b, .string c, .int .i64 d, .int .i64 e, .string f], .int .i64 er]) ∧ Below w'.heap.size w' w'') := fun w' hb => by
                  have h := read_own (cp := cp2) (yk := yk) (yh := yh) (yv := yv) (yn := yn) (ys := ys) (own_cut (HIx.out.next hb).own (by rw [hc_len, HLn.out.1])) HLn.out.1 hnB HLn.out.2 HY.out.2.2.2 HY.out.2.2.1
                  rw [HRd.out] at h
                  exact h
                have c0 : Calls Try.prog 4 #[.slice (some ⟨G2, 0, none⟩) n cp2, .agg #[.int .i64 yk, .bool yh, .int .i64 yv, .int .i64 yn, .string ys]] wr.drew fun z w'' => z = .returned (.tuple #[.agg #[.int .i64 a, .int .i64 b, .string c, .int .i64 d, .int .i64 e, .string f], .int .i64 er]) ∧ Hid (Below wr.heap.size wr w'') := (cP.out _ HC0.out.1).mono fun _ _ h => ⟨h.1, HC0.out.1.trans (h.2.mono HC0.out.1.size)⟩
                have c1 : Calls Try.prog 4 #[.slice (some ⟨G2, 0, none⟩) n cp2, .agg #[.int .i64 yk, .bool yh, .int .i64 yv, .int .i64 yn, .string ys]] (wr.alloc (.cells #[.int .i64 0, .int .i64 0, .string e0, .int .i64 0, .int .i64 0, .string e0] 33)).drew fun z w'' => z = .returned (.tuple #[.agg #[.int .i64 a, .int .i64 b, .string c, .int .i64 d, .int .i64 e, .string f], .int .i64 er]) ∧ Hid (Below wr.heap.size wr w'' ∧ Full w'' wr.heap.size 33 [.int .i64 0, .int .i64 0, .string e0, .int .i64 0, .int .i64 0, .string e0]) := (cP.out _ HC0.out.2).mono fun _ _ h => ⟨h.1, HC0.out.2.trans (h.2.mono HC0.out.2.size), ((Full.new wr _ _).next (Below.refl _ _).drew).next h.2⟩
                clear cP
                go_wp2_with fail
                go_region_held3 (fun w' => w'.cell? ⟨w.heap.size, 0, none⟩ = some (.slice tq n tc) ∧ w'.cell? ⟨w.heap.size, 1, none⟩ = some (.slice (some ⟨gy, oy, none⟩) m ycp) ∧ w'.cell? ⟨gy, oy + i * 5, none⟩ = some (.int .i64 yk) ∧ w'.cell? ⟨gy, oy + i * 5 + 1, none⟩ = some (.bool yh) ∧ w'.cell? ⟨gy, oy + i * 5 + 2, none⟩ = some (.int .i64 yv) ∧ w'.cell? ⟨gy, oy + i * 5 + 3, none⟩ = some (.int .i64 yn) ∧ w'.cell? ⟨gy, oy + i * 5 + 4, none⟩ = some (.string ys) ∧ Below wr.heap.size wr w') (exact SV.out _ (by first | with_reducible assumption | with_reducible exact HC0.out.1 | with_reducible exact HC0.out.2 | with_reducible exact Below.alloc (by with_reducible assumption) (Below.size (by with_reducible assumption)) _ | with_reducible exact below_six (by with_reducible assumption) (by first | (with_reducible exact Nat.le_refl _) | (with_reducible exact Below.size (by assumption))) _ _ _ _ _ _))
                  (first
                  | (go_at_call 4; (with_reducible refine c0.mono ?_); rintro ez w2 ⟨rfl, hb2⟩; have hcd2 : Below wr.heap.size wr w2 := hb2.out)
                  | (go_at_call 4; (with_reducible refine c1.mono ?_); rintro ez w2 ⟨rfl, hb2⟩; have hcd2 : Below wr.heap.size wr w2 := hb2.out.1; have z1 : Full w2 wr.heap.size 33 [.int .i64 0, .int .i64 0, .string e0, .int .i64 0, .int .i64 0, .string e0] := hb2.out.2; obtain ⟨r0, r0'⟩ := z1.cell 0 (.int .i64 0) rfl; obtain ⟨r1, r1'⟩ := z1.cell 1 (.int .i64 0) rfl; obtain ⟨r2, r2'⟩ := z1.cell 2 (.string e0) rfl; obtain ⟨r3, r3'⟩ := z1.cell 3 (.int .i64 0) rfl; obtain ⟨r4, r4'⟩ := z1.cell 4 (.int .i64 0) rfl; obtain ⟨r5, r5'⟩ := z1.cell 5 (.string e0) rfl; have Z1 : Hid (Full w2 wr.heap.size 33 [.int .i64 0, .int .i64 0, .string e0, .int .i64 0, .int .i64 0, .string e0]) := z1; clear z1)
                  | fail)
                all_goals
                  have HE2 : Hid (Below wr.heap.size wr w2) := hcd2
                  clear SV
                  go_wp2
                  go_meet
                  case rel => first | exact ⟨_, rfl, rfl, full_six Z1.out _ _ _ _ _ _, below_six HE2.out (Nat.le_refl _) _ _ _ _ _ _⟩ | exact ⟨_, rfl, rfl, Full.new w2 _ _, below2 HE2.out ((Below.refl _ w2).alloc (Nat.le_refl _) _)⟩
              case rest =>
                obtain ⟨p9, rfl, rfl, hP⟩ := hcut
                have HIa : Hid (Lw w wc tq (some ⟨gy, oy, none⟩) n tc m ycp G2 cp2 O ∧ Full wc p9 33 [.int .i64 a, .int .i64 b, .string c, .int .i64 d, .int .i64 e, .string f] ∧ wc.ownsRow (w.heap.size + 1) 28 3 (.slice (some ⟨G3, 0, none⟩) n cp3) n (O.flatMap hc)) := ⟨HIx.out.next hP.out.2, hP.out.1, own_next HI.out.2 hP.out.2⟩
                clear hP sl HI HIx
                generalize wc = Wa at *
                obtain ⟨x0, x1, y0, y1, y2, y3, y4, -⟩ := HIa.out.1.sv HY.out.1 HY.out.2.1 Wa (Below.refl _ _)
                have cR := rread_row (c := cp3) (O := O) (yk := yk) (yh := yh) (yv := yv) (yn := yn) (ys := ys) (by have := row_of_own HIa.out.2.2; exact this) (Nat.le_refl _) HLn.out.1 hnB HY.out.2.2.2 HY.out.2.2.1
                rw [HRd.out] at cR
                go_wp2_with fail
                refine cR.mono ?_
                rintro ez Wb ⟨rfl, bb⟩
                have HIb : Hid (Lw w Wb tq (some ⟨gy, oy, none⟩) n tc m ycp G2 cp2 O ∧ Full Wb p9 33 [.int .i64 a, .int .i64 b, .string c, .int .i64 d, .int .i64 e, .string f] ∧ Wb.ownsRow (w.heap.size + 1) 28 3 (.slice (some ⟨G3, 0, none⟩) n cp3) n (O.flatMap hc)) := ⟨HIa.out.1.next bb, HIa.out.2.1.next bb, own_next HIa.out.2.2 bb⟩
                clear cR bb x0 x1 y0 y1 y2 y3 y4 HIa
                go_upto_region 28 with fail
                obtain ⟨Wc, hWc⟩ : ∃ Wc, Wc = Wb.alloc (.cells #[.int .i64 a, .int .i64 b, .string c, .int .i64 d, .int .i64 e, .string f] 33) := ⟨_, rfl⟩
                rw [← hWc]
                have bc : Below Wb.heap.size Wb Wc := by rw [hWc]; exact (Below.refl _ Wb).alloc (Nat.le_refl _) _
                have fc : Full Wc Wb.heap.size 33 [.int .i64 a, .int .i64 b, .string c, .int .i64 d, .int .i64 e, .string f] := by rw [hWc]; exact Full.new Wb _ _
                have HIc : Hid (Lw w Wc tq (some ⟨gy, oy, none⟩) n tc m ycp G2 cp2 O ∧ Wc.ownsRow (w.heap.size + 1) 28 3 (.slice (some ⟨G3, 0, none⟩) n cp3) n (O.flatMap hc)) := ⟨HIb.out.1.next bc, own_next HIb.out.2.2 bc⟩
                have g0 := ((HIb.out.2.1.next bc).cell 0 _ rfl).1
                have g1 := ((HIb.out.2.1.next bc).cell 1 _ rfl).1
                have g2 := ((HIb.out.2.1.next bc).cell 2 _ rfl).1
                have g3 := ((HIb.out.2.1.next bc).cell 3 _ rfl).1
                have g4 := ((HIb.out.2.1.next bc).cell 4 _ rfl).1
                have g5 := ((HIb.out.2.1.next bc).cell 5 _ rfl).1
                have k0 := (fc.cell 0 _ rfl).1
                have k1 := (fc.cell 1 _ rfl).1
                have k2 := (fc.cell 2 _ rfl).1
                have k3 := (fc.cell 3 _ rfl).1
                have k4 := (fc.cell 4 _ rfl).1
                have k5 := (fc.cell 5 _ rfl).1
                have nS := neSameE a b c d e f

                clear hWc bc fc HIb
                go_wp2
                exact ⟨⟨i + 1, by omega, by go_num, HIc⟩, by simp [intOf]; omega⟩
            · obtain rfl : m = i := by omega
              have i1 : ¬ ((m : Int) < (m : Int)) := by omega
              have x0 := (HI.out.1.x.cell 0 _ rfl).1
              have k2 := HI.out.1.mark
              have HB : Hid (Below w.heap.size w wr) := HI.out.1.b
              have a0 : (0 : Int) ≤ (n : Int) := by omega
              have a2 : (n : Int) < ((n + 1 : Nat) : Int) := by omega
              go_wp2
              go_ret
              exact ⟨rfl, HB.out⟩

end
end Go.Proofs.Ytaeigpfcfodmdaa
