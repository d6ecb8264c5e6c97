import Derived.Test.YtichbejmelkjeaaDoorcPw
namespace Go.Proofs.YtichbejmelkjeaaDoor
open Go.RowKit

/-- A command's words. -/
def wrS (c : Cm) : List (List UInt8) := if c.kind < 0 ∨ 23 ≤ c.kind then [] else (rws.getD c.kind.toNat ([], 0)).1 :: (if tks c.kind.toNat = 2 ∨ tks c.kind.toNat = 3 then pwS c else if tks c.kind.toNat = 4 ∨ tks c.kind.toNat = 5 then [Lib.itoa c.n] else if tks c.kind.toNat = 6 then [c.text] else [])
def WrP (w : World) (c : Cm) (e : Ending) (w' : World) : Prop :=
  ∃ q cap, e = .returned (.slice q (wrS c).length cap) ∧ Hid (((wrS c = [] ∧ q = none) ∨ ∃ G, q = some ⟨G, 0, none⟩ ∧ w'.rangeAt G 0 ((wrS c).map sV) ∧ (wrS c).length ≤ cap ∧ G < w'.heap.size) ∧ Below w.heap.size w w')
theorem WrP.own {w w' : World} {c : Cm} {G n cap : Nat} (h : w'.ownsRow w.heap.size 9 1 (.slice (some ⟨G, 0, none⟩) n cap) n ((wrS c).map sV)) (hn : n = (wrS c).length) (hb : Below w.heap.size w w') : WrP w c (.returned (.slice (some ⟨G, 0, none⟩) n cap)) w' := by
  subst hn
  have hlt := (h.lt _ rfl).2
  obtain ⟨q, cp, e, hc, hr⟩ := own_slice h
  simp only [Value.slice.injEq] at e
  obtain ⟨rfl, -, rfl⟩ := e
  by_cases h0 : 0 < (wrS c).length
  · obtain ⟨g, hq, hr⟩ := hr h0
    cases hq
    exact ⟨_, _, rfl, .inr ⟨G, rfl, hr, hc, hlt⟩, hb⟩
  · have hz : wrS c = [] := List.eq_nil_of_length_eq_zero (by omega)
    exact ⟨_, _, rfl, .inr ⟨G, rfl, by rw [hz]; intro j v hv; simp at hv, hc, hlt⟩, hb⟩

set_option maxRecDepth 100000 in
set_option maxHeartbeats 4000000 in
theorem written_any (kd pk ln nn : Int) (nm cd tx : ByteArray) (off : Bool) (w : World) (hT : Tb w) (hl : -9223372036854775808 ≤ ln ∧ ln ≤ 9223372036854775807) (hn : -9223372036854775808 ≤ nn ∧ nn ≤ 9223372036854775807) :
    Calls Tryd.prog 14 #[.agg #[.int .i64 kd, .int .i64 pk, .int .i64 ln, .string nm, .string cd, .bool off, .int .i64 nn, .string tx]] w (WrP w ⟨kd, pk, ln, nm.data.toList, cd.data.toList, off, nn, tx.data.toList⟩) := by
  obtain ⟨c, hc⟩ : ∃ c : Cm, c = ⟨kd, pk, ln, nm.data.toList, cd.data.toList, off, nn, tx.data.toList⟩ := ⟨_, rfl⟩
  rw [← hc]
  obtain ⟨X1, hX1⟩ : ∃ X1, w.alloc (.cells #[.int .i64 kd, .int .i64 pk, .int .i64 ln, .string nm, .string cd, .bool off, .int .i64 nn, .string tx] 39) = X1 := ⟨_, rfl⟩
  have b1 : Below w.heap.size w X1 := by rw [← hX1]; exact (Below.refl _ w).alloc (Nat.le_refl _) _
  have f1 : Full X1 w.heap.size 39 [.int .i64 kd, .int .i64 pk, .int .i64 ln, .string nm, .string cd, .bool off, .int .i64 nn, .string tx] := by rw [← hX1]; exact Full.new w _ _
  have z1 : X1.heap.size = w.heap.size + 1 := by rw [← hX1]; simp
  obtain ⟨⟨e0, -⟩, ⟨e1, -⟩, ⟨e2, -⟩, ⟨e3, -⟩, ⟨e4, -⟩, ⟨e5, -⟩, ⟨e6, -⟩, ⟨e7, -⟩⟩ := f1.cell8
  by_cases hbad : kd < 0 ∨ 23 ≤ kd
  · have HW : Hid (wrS c = []) := by
      show wrS c = []
      unfold wrS; rw [hc]; exact if_pos hbad
    have hB : Hid (Below w.heap.size w X1) := b1
    have hq : kd < 0 ∨ (¬ kd < 0 ∧ 23 ≤ kd) := by omega
    clear hc f1 b1 z1 hbad hT
    rcases hq with h | ⟨h, h'⟩
    all_goals
      go_enter Tryd.func14, Tryd.ntmps14
      go_wp2
      go_ret
      unfold WrP
      rw [HW.out]
      exact ⟨none, 0, rfl, .inl ⟨rfl, rfl⟩, hB.out⟩
  · obtain ⟨kn, rfl⟩ : ∃ kn : Nat, kd = (kn : Int) := ⟨kd.toNat, by omega⟩
    have hkl : kn < 23 := by omega
    have hk0 : ¬ (kn : Int) < 0 := by omega
    have hk1 : ¬ (23 : Int) ≤ (kn : Int) := by omega
    have hk2 : (0 : Int) ≤ (kn : Int) := by omega
    have hk3 : (kn : Int) < 23 := by omega
    obtain ⟨tn, htn⟩ : ∃ tn, tks kn = tn := ⟨_, rfl⟩
    obtain ⟨wd, hwd⟩ : ∃ wd : ByteArray, wd.data.toList = (rws.getD kn ([], 0)).1 := ⟨⟨(rws.getD kn ([], 0)).1.toArray⟩, rfl⟩
    have hwdA : (⟨(rws.getD kn ([], 0)).1.toArray⟩ : ByteArray) = wd := by rw [← hwd]
    have hWr : wrS c = wd.data.toList :: (if tn = 2 ∨ tn = 3 then pwS c else if tn = 4 ∨ tn = 5 then [Lib.itoa nn] else if tn = 6 then [tx.data.toList] else []) := by
      unfold wrS
      have e1 : c.kind = (kn : Int) := by rw [hc]
      have e2 : c.n = nn := by rw [hc]
      have e3 : c.text = tx.data.toList := by rw [hc]
      rw [e1, e2, e3, if_neg hbad, Int.toNat_natCast, htn, ← hwd]
    have hTX := hT.next b1
    have cw : X1.cell? ⟨0, kn * 2, none⟩ = some (.string wd) := by rw [← hwdA]; exact hTX.word kn hkl
    have ct1 : X1.cell? ⟨0, kn * 2 + 1, none⟩ = some (.int .i64 (tn : Int)) := by rw [← htn]; exact hTX.takes kn hkl
    obtain ⟨X2, hX2⟩ : ∃ X2, X1.alloc (.cells #[.string wd] 9) = X2 := ⟨_, rfl⟩
    have n2 : Below X1.heap.size X1 X2 := by rw [← hX2]; exact (Below.refl _ X1).alloc (Nat.le_refl _) _
    have b2 : Below w.heap.size w X2 := b1.trans (n2.mono b1.size)
    have f2 : Full X2 (w.heap.size + 1) 9 [.string wd] := by rw [← hX2, ← z1]; exact Full.new X1 _ _
    obtain ⟨⟨c0, -⟩, ⟨c1, -⟩, ⟨c2, -⟩, ⟨c3, -⟩, ⟨c4, -⟩, ⟨c5, -⟩, ⟨c6, -⟩, ⟨c7, -⟩⟩ := (f1.next n2).cell8
    have hT2 := hT.next b2
    have ct2 : X2.cell? ⟨0, kn * 2 + 1, none⟩ = some (.int .i64 (tn : Int)) := by rw [← htn]; exact hT2.takes kn hkl
    have HB : ∀ i : Nat, (tn = i → ((tn : Int) == (i : Int)) = true) ∧ (tn ≠ i → ((tn : Int) == (i : Int)) = false) := fun i => ⟨fun h => by rw [h]; exact beq_self_eq_true _, fun h => by rw [beq_eq_false_iff_ne]; omega⟩
    -- an append of m words that lie at g
    have happ : ∀ (W : World) (g m cp : Nat) (ys : List (List UInt8)), Below X2.heap.size X2 W → W.rangeAt g 0 (ys.map sV) → ys.length = m → m ≤ 10 → wrS c = wd.data.toList :: ys → ∃ G cap w9, (Builtin.append_ #[26, 26] 26 #[.slice (some ⟨w.heap.size + 1, 0, none⟩) 1 1, .slice (some ⟨g, 0, none⟩) m cp]).run Tryd.prog W = .ok (.slice (some ⟨G, 0, none⟩) (1 + m) cap) w9 ∧ Hid (WrP w c (.returned (.slice (some ⟨G, 0, none⟩) (1 + m) cap)) w9) := by
      intro W g m cp ys hb hr hm hm10 hw
      have hBW := b2.trans (hb.mono b2.size)
      have oW := own_full (base := w.heap.size) (f2.next hb) (by omega) (by simp)
      obtain ⟨G, cap, w9, r9, o9, g9⟩ := app_src (P := Tryd.prog) 26 26 _ 16 Tryd.underlying26 info_S rfl (by decide) (by decide) oW (some ⟨g, 0, none⟩) m cp (ys.map sV) (by rw [List.length_map, Nat.mul_one]; exact hm) (by simp) (fun _ => ⟨_, _, rfl, hr⟩) (by intro u hu; obtain ⟨y, -, rfl⟩ := List.mem_map.1 hu; rfl) (by simp; omega) hBW.size
      refine ⟨G, cap, w9, r9, WrP.own ?_ (by rw [hw, List.length_cons, hm]; omega) (hBW.grown g9 hBW.size (fun k e => by cases e; omega))⟩
      rw [hw, List.map_cons, sV_at (x := wd) rfl]
      exact o9
    have HApp : Hid _ := happ
    have HTb : Hid (∀ W, Below X2.heap.size X2 W → Tb W) := fun W h => hT2.next h
    clear happ
    by_cases h2 : tn = 2
    · have HWr : Hid (wrS c = wd.data.toList :: pwS c) := by
        show wrS c = _
        rw [hWr, if_pos (by omega)]
      have HC := pointWords_any c nm cd (by rw [hc]) (by rw [hc]) X2 hT2 (by rw [hc]; exact hl)
      have hpl : (pwS c).length ≤ 10 := by unfold pwS; rw [List.length_cons]; by_cases h : c.cond = [] <;> simp [h]
      have ee : c.pk = pk ∧ c.line = ln ∧ c.off = off := by rw [hc]; exact ⟨rfl, rfl, rfl⟩
      rw [ee.1, ee.2.1, ee.2.2] at HC
      have q2 := (HB 2).1 h2
      have q3 := (HB 3).2 (by omega)
      have q4 := (HB 4).2 (by omega)
      have q5 := (HB 5).2 (by omega)
      have q6 := (HB 6).2 (by omega)
      clear HB hWr hc f1 n2 b1 hT hTX hT2 hwd hwdA htn hl hn hkl hbad f2 ee h2 b2
      go_enter Tryd.func14, Tryd.ntmps14
      go_wp2_with fail
      refine HC.mono ?_
      rintro e w3 ⟨G3, cap3, rfl, hq⟩
      clear HC
      have hr3 : w3.rangeAt G3 0 ((pwS c).map sV) := by
        obtain ⟨q, cp, e, -, hr⟩ := own_slice hq.out.1
        simp only [Value.slice.injEq] at e
        obtain ⟨rfl, -, -⟩ := e
        obtain ⟨g, hg, hr⟩ := hr (by unfold pwS; simp)
        cases hg; exact hr
      obtain ⟨G, cap, w9, r9, HD⟩ := HApp.out w3 G3 (pwS c).length cap3 (pwS c) hq.out.2 hr3 rfl hpl HWr.out
      clear hr3 HApp hq
      obtain ⟨m, hm⟩ : ∃ m, (pwS c).length = m := ⟨_, rfl⟩
      rw [hm] at r9 HD ⊢
      clear hm hpl
      go_wp2_with (first
        | (at_builtin; refine wpList_apr (by rfl) _ _ 26 (by rfl) (by exact r9) ?_)
        | go_in)
      go_ret
      exact HD.out
    by_cases h3 : tn = 3
    · have HWr : Hid (wrS c = wd.data.toList :: pwS c) := by
        show wrS c = _
        rw [hWr, if_pos (by omega)]
      have HC := pointWords_any c nm cd (by rw [hc]) (by rw [hc]) X2 hT2 (by rw [hc]; exact hl)
      have hpl : (pwS c).length ≤ 10 := by unfold pwS; rw [List.length_cons]; by_cases h : c.cond = [] <;> simp [h]
      have ee : c.pk = pk ∧ c.line = ln ∧ c.off = off := by rw [hc]; exact ⟨rfl, rfl, rfl⟩
      rw [ee.1, ee.2.1, ee.2.2] at HC
      have q2 := (HB 2).2 (by omega)
      have q3 := (HB 3).1 h3
      have q4 := (HB 4).2 (by omega)
      have q5 := (HB 5).2 (by omega)
      have q6 := (HB 6).2 (by omega)
      clear HB hWr hc f1 n2 b1 hT hTX hT2 hwd hwdA htn hl hn hkl hbad f2 ee h3 b2
      go_enter Tryd.func14, Tryd.ntmps14
      go_wp2_with fail
      refine HC.mono ?_
      rintro e w3 ⟨G3, cap3, rfl, hq⟩
      clear HC
      have hr3 : w3.rangeAt G3 0 ((pwS c).map sV) := by
        obtain ⟨q, cp, e, -, hr⟩ := own_slice hq.out.1
        simp only [Value.slice.injEq] at e
        obtain ⟨rfl, -, -⟩ := e
        obtain ⟨g, hg, hr⟩ := hr (by unfold pwS; simp)
        cases hg; exact hr
      obtain ⟨G, cap, w9, r9, HD⟩ := HApp.out w3 G3 (pwS c).length cap3 (pwS c) hq.out.2 hr3 rfl hpl HWr.out
      clear hr3 HApp hq
      obtain ⟨m, hm⟩ : ∃ m, (pwS c).length = m := ⟨_, rfl⟩
      rw [hm] at r9 HD ⊢
      clear hm hpl
      go_wp2_with (first
        | (at_builtin; refine wpList_apr (by rfl) _ _ 26 (by rfl) (by exact r9) ?_)
        | go_in)
      go_ret
      exact HD.out
    by_cases h4 : tn = 4
    · have HWr : Hid (wrS c = wd.data.toList :: [Lib.itoa nn]) := by
        show wrS c = _
        rw [hWr, if_neg (by omega), if_pos (by omega)]
      have HC := itoa_any nn X2 hn hT2.p10
      have q2 := (HB 2).2 (by omega)
      have q3 := (HB 3).2 (by omega)
      have q4 := (HB 4).1 h4
      have q5 := (HB 5).2 (by omega)
      have q6 := (HB 6).2 (by omega)
      clear HB hWr hc f1 n2 b1 hT hTX hT2 hwd hwdA htn hl hn hkl hbad f2 h4 b2
      go_enter Tryd.func14, Tryd.ntmps14
      go_wp2_with fail
      refine HC.mono ?_
      rintro e w3 ⟨s, rfl, hs, hb3⟩
      clear HC
      obtain ⟨Z, hZ⟩ : ∃ Z, w3.alloc (.cells #[.string s] 9) = Z := ⟨_, rfl⟩
      have bZ : Below X2.heap.size X2 Z := by rw [← hZ]; exact hb3.alloc hb3.size _
      have fZ : Full Z w3.heap.size 9 [.string s] := by rw [← hZ]; exact Full.new w3 _ _
      obtain ⟨G, cap, w9, r9, HD⟩ := HApp.out Z w3.heap.size 1 1 [Lib.itoa nn] bZ (by rw [List.map_cons, List.map_nil, sV_at hs]; exact fZ.range) rfl (by omega) HWr.out
      clear bZ fZ hb3 HApp hs
      go_wp2_with (first
        | (at_builtin; refine wpList_apr (by rfl) _ _ 26 (by rfl) (by exact r9) ?_)
        | go_in)
      go_ret
      exact HD.out
    by_cases h5 : tn = 5
    · have HWr : Hid (wrS c = wd.data.toList :: [Lib.itoa nn]) := by
        show wrS c = _
        rw [hWr, if_neg (by omega), if_pos (by omega)]
      have HC := itoa_any nn X2 hn hT2.p10
      have q2 := (HB 2).2 (by omega)
      have q3 := (HB 3).2 (by omega)
      have q4 := (HB 4).2 (by omega)
      have q5 := (HB 5).1 h5
      have q6 := (HB 6).2 (by omega)
      clear HB hWr hc f1 n2 b1 hT hTX hT2 hwd hwdA htn hl hn hkl hbad f2 h5 b2
      go_enter Tryd.func14, Tryd.ntmps14
      go_wp2_with fail
      refine HC.mono ?_
      rintro e w3 ⟨s, rfl, hs, hb3⟩
      clear HC
      obtain ⟨Z, hZ⟩ : ∃ Z, w3.alloc (.cells #[.string s] 9) = Z := ⟨_, rfl⟩
      have bZ : Below X2.heap.size X2 Z := by rw [← hZ]; exact hb3.alloc hb3.size _
      have fZ : Full Z w3.heap.size 9 [.string s] := by rw [← hZ]; exact Full.new w3 _ _
      obtain ⟨G, cap, w9, r9, HD⟩ := HApp.out Z w3.heap.size 1 1 [Lib.itoa nn] bZ (by rw [List.map_cons, List.map_nil, sV_at hs]; exact fZ.range) rfl (by omega) HWr.out
      clear bZ fZ hb3 HApp hs
      go_wp2_with (first
        | (at_builtin; refine wpList_apr (by rfl) _ _ 26 (by rfl) (by exact r9) ?_)
        | go_in)
      go_ret
      exact HD.out
    by_cases h6 : tn = 6
    · have HWr : Hid (wrS c = wd.data.toList :: [tx.data.toList]) := by
        show wrS c = _
        rw [hWr, if_neg (by omega), if_neg (by omega), if_pos h6]
      have q2 := (HB 2).2 (by omega)
      have q3 := (HB 3).2 (by omega)
      have q4 := (HB 4).2 (by omega)
      have q5 := (HB 5).2 (by omega)
      have q6 := (HB 6).1 h6
      obtain ⟨Z, hZ⟩ : ∃ Z, X2.alloc (.cells #[.string tx] 9) = Z := ⟨_, rfl⟩
      have bZ : Below X2.heap.size X2 Z := by rw [← hZ]; exact (Below.refl _ X2).alloc (Nat.le_refl _) _
      have fZ : Full Z X2.heap.size 9 [.string tx] := by rw [← hZ]; exact Full.new X2 _ _
      obtain ⟨G, cap, w9, r9, HD⟩ := HApp.out Z X2.heap.size 1 1 [tx.data.toList] bZ (by rw [List.map_cons, List.map_nil, sV_at (x := tx) rfl]; exact fZ.range) rfl (by omega) HWr.out
      clear HB hWr hc f1 n2 b1 hT hTX hT2 hwd hwdA htn hl hn hkl hbad f2 h6 b2 bZ fZ HApp
      go_enter Tryd.func14, Tryd.ntmps14
      go_wp2_with (first
        | (at_builtin; refine wpList_apr (by rfl) _ _ 26 (by rfl) (by exact r9) ?_)
        | go_in)
      go_ret
      exact HD.out
    have HWr : Hid (wrS c = [wd.data.toList]) := by
      show wrS c = _
      rw [hWr, if_neg (by omega), if_neg (by omega), if_neg h6]
    have q2 := (HB 2).2 (by omega)
    have q3 := (HB 3).2 (by omega)
    have q4 := (HB 4).2 (by omega)
    have q5 := (HB 5).2 (by omega)
    have q6 := (HB 6).2 (by omega)
    have HD : Hid (WrP w c (.returned (.slice (some ⟨w.heap.size + 1, 0, none⟩) 1 1)) X2) := by
      refine WrP.own ?_ (by rw [HWr.out]; rfl) b2
      rw [HWr.out, List.map_cons, List.map_nil, sV_at (x := wd) rfl]
      exact own_full (base := w.heap.size) f2 (by omega) (by simp)
    clear HB hWr hc f1 n2 b1 hT hTX hT2 hwd hwdA htn hl hn hkl hbad f2 h2 h3 h4 h5 h6 b2 HApp
    go_enter Tryd.func14, Tryd.ntmps14
    go_wp2
    go_ret
    exact HD.out
end Go.Proofs.YtichbejmelkjeaaDoor
