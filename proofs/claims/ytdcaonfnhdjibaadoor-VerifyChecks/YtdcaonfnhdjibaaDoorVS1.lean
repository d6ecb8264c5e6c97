import Derived.Test.YtdcaonfnhdjibaaDoorVH1
import Derived.Lib.AppendZeros
namespace Go.Proofs.YtdcaonfnhdjibaaDoor
open Go.RowKit

/-! Lists of sorts: compared, joined. -/
theorem row_atI {w : World} {B : Nat} {q : Option Addr} {n : Nat} {A : List Int} (hl : A.length = n) (h : Row w B q n (sv A)) (i : Nat) (hi : i < n) : ∃ g o, q = some ⟨g, o, none⟩ ∧ g < B ∧ w.cell? ⟨g, o + i, none⟩ = some (.int .i64 (A.getD i 0)) := by
  obtain ⟨g, o, h1, h2, h3⟩ := h (by omega)
  refine ⟨g, o, h1, h2, h3 i _ ?_⟩
  unfold sv
  rw [List.getElem?_map, List.getD_eq_getElem?_getD, List.getElem?_eq_getElem (by omega)]
  rfl
theorem take_eq_succ {A B : List Int} {i : Nat} (ha : i < A.length) (hb : i < B.length) (h : A.take i = B.take i) (e : A.getD i 0 = B.getD i 0) : A.take (i + 1) = B.take (i + 1) := by
  rw [List.getD_eq_getElem?_getD, List.getD_eq_getElem?_getD, List.getElem?_eq_getElem ha, List.getElem?_eq_getElem hb] at e
  rw [List.take_add_one, List.take_add_one, h, List.getElem?_eq_getElem ha, List.getElem?_eq_getElem hb]
  simp only [Option.getD_some] at e
  rw [e]
set_option maxRecDepth 100000 in
set_option maxHeartbeats 2000000 in
theorem sequal_any {w : World} {q q' : Option Addr} {n n' : Nat} {A B : List Int} (cap cap' : Nat) (hn : A.length = n) (hn' : B.length = n') (h : Row w w.heap.size q n (sv A)) (h' : Row w w.heap.size q' n' (sv B)) (h63 : n ≤ 1000000) :
    Calls Tryd.prog 85 #[.slice q n cap, .slice q' n' cap'] w fun e w' => e = .returned (.bool (decide (A = B))) ∧ Below w.heap.size w w' := by
  have HA : Hid (∀ W, Below w.heap.size w W → Row W w.heap.size q n (sv A) ∧ Row W w.heap.size q' n' (sv B)) := fun W hW => ⟨h.below hW (Nat.le_refl _), h'.below hW (Nat.le_refl _)⟩
  have HL : Hid (A.length = n ∧ B.length = n') := ⟨hn, hn'⟩
  clear h h'
  by_cases hne : n = n'
  · subst hne
    obtain ⟨R, HR⟩ : ∃ R : Bool, Hid (R = decide (A = B)) := ⟨_, (rfl : decide (A = B) = _)⟩
    rw [← HR.out]
    clear hn hn'
    go_enter Tryd.func85, Tryd.ntmps85
    go_wp2_with fail
    go_loopw [13] (fun s wr => ∃ i : Nat, i ≤ n ∧ s = .int .i64 (i : Int) ∧ Hid (A.take i = B.take i ∧ Below w.heap.size w wr)) (fun s _ => n - (intOf s).toNat)
    case atStart => exact ⟨0, Nat.zero_le _, rfl, rfl, Below.refl _ w⟩
    case round =>
      obtain ⟨i, hi, rfl, HI⟩ := hrel
      by_cases hlt : i < n
      · obtain ⟨r1, r2⟩ := HA.out wr HI.out.2
        obtain ⟨g, o, e1, -, c1⟩ := row_atI HL.out.1 r1 i hlt
        obtain ⟨g', o', e2, -, c2⟩ := row_atI HL.out.2 r2 i hlt
        subst e1
        subst e2
        have i0 : (0 : Int) ≤ (i : Int) := by omega
        have i1 : (i : Int) < (n : Int) := by omega
        have HB : Hid (Below w.heap.size w wr.drew) := HI.out.2.trans ((Below.refl _ wr).drew.mono HI.out.2.size)
        by_cases he : A.getD i 0 = B.getD i 0
        · have HT : Hid (A.take (i + 1) = B.take (i + 1)) := take_eq_succ (by rw [HL.out.1]; exact hlt) (by rw [HL.out.2]; exact hlt) HI.out.1 he
          rw [← he] at c2
          generalize A.getD i 0 = a at *
          clear r1 r2 he
          have hneq : (a != a) = false := by simp
          go_wp2_with fail
          go_region
          go_wp2
          exact ⟨⟨i + 1, by omega, by go_num, HT.out, HB.out⟩, by simp [intOf]; omega⟩
        · have HF : Hid (R = false) := by
            show R = false
            rw [HR.out, decide_eq_false_iff_not]
            intro e
            exact he (by rw [e])
          have hneq : (A.getD i 0 != B.getD i 0) = true := by rw [bne_iff_ne]; exact he
          generalize A.getD i 0 = a at *
          generalize B.getD i 0 = b at *
          clear r1 r2
          go_wp2_with fail
          go_region
          go_wp2
          go_ret
          exact ⟨by rw [HF.out]; rfl, HB.out⟩
      · obtain rfl : i = n := by omega
        have HT : Hid (R = true) := by
          show R = true
          rw [HR.out, decide_eq_true_eq]
          have := HI.out.1
          rw [List.take_of_length_le (by rw [HL.out.1]; exact Nat.le_refl _), List.take_of_length_le (by rw [HL.out.2]; exact Nat.le_refl _)] at this
          exact this
        have i1 : ¬ ((i : Int) < (i : Int)) := by omega
        go_wp2
        go_ret
        exact ⟨by rw [HT.out]; rfl, HI.out.2⟩
  · have h1 : ((n : Int) != (n' : Int)) = true := by rw [bne_iff_ne]; omega
    have h2 : ¬ ((n : Int) = (n' : Int)) := by omega
    have hd : decide (A = B) = false := by
      rw [decide_eq_false_iff_not]
      intro e
      exact hne (by rw [← hn, ← hn', e])
    rw [hd]
    clear hn hn' hd hne
    go_enter Tryd.func85, Tryd.ntmps85
    go_wp2
    go_ret
    exact ⟨rfl, Below.refl _ w⟩
end Go.Proofs.YtdcaonfnhdjibaaDoor
namespace Go.Proofs.YtdcaonfnhdjibaaDoor
open Go.RowKit

theorem infoSt : (Tryd.prog.info? 45).map (fun i => (i.zero, i.size, i.bytes)) = some (some (.int .i64 0), 1, 8) := by kernel_rfl
theorem sz_st : ∀ w : World, (sizeOf 45).run Tryd.prog w = .ok 1 w := fun w => by kernel_rfl
/-- A new row with room for n. -/
theorem grow_row (w : World) (n : Nat) (h0 : 0 < n) (hn : n ≤ 1000000) : ∃ cap w', (∀ ty, (Builtin.append_ #[72, 3] ty #[.slice none 0 0, .int .i64 (n : Int)]).run Tryd.prog w = .ok (.slice (some ⟨w.heap.size, 0, none⟩) n cap) w') ∧ n ≤ cap ∧ w'.ownsRow w.heap.size 45 1 (.slice (some ⟨w.heap.size, 0, none⟩) 0 cap) 0 [] ∧ Below w.heap.size w w' := by
  obtain ⟨i, hi, hz, hs, hb⟩ := info_parts infoSt
  refine ⟨grownCap w n 0 45, _, fun ty => Lib.run_append_nil_zeros w 72 3 ty 45 i _ .i64 .i64 Tryd.underlying72 Tryd.underlying3 hi hz n h0 (by rw [hs]; decide) (by omega) (by rw [hb]; omega), grownCap_ge w n 0 _, ?_, ?_⟩
  · refine ⟨rfl, .inr ⟨w.heap.size, _, _, rfl, Nat.le_refl _, heap_alloc_new w.drew _, Nat.zero_le _, grownCap_le_maxLen w n 0 _ (by unfold maxLen; omega), ?_, rfl⟩⟩
    have hge := grownCap_ge w n 0 45
    have hz1 : (Value.int IntKind.i64 0).cells.size = 1 := rfl
    simp only [Array.size_append, size_zeroCells, hz1]
    omega
  · exact (Below.refl _ w).drew.alloc (by simp) _
set_option maxRecDepth 100000 in
set_option maxHeartbeats 2000000 in
theorem grow_any (w : World) (n : Nat) (h0 : 0 < n) (hn : n ≤ 1000000) :
    Calls Tryd.prog 90 #[.slice none 0 0, .int .i64 (n : Int)] w fun e w' => ∃ g cap, e = .returned (.slice (some ⟨g, 0, none⟩) 0 cap) ∧ Hid (w'.ownsRow w.heap.size 45 1 (.slice (some ⟨g, 0, none⟩) 0 cap) 0 [] ∧ Below w.heap.size w w') := by
  obtain ⟨cap, W, hr, hc, ho, hb⟩ := grow_row w n h0 hn
  have HE : Hid (W.ownsRow w.heap.size 45 1 (.slice (some ⟨w.heap.size, 0, none⟩) 0 cap) 0 [] ∧ Below w.heap.size w W) := ⟨ho, hb⟩
  have h1 : ¬ ((n : Int) < 0) := by omega
  have h2 : (0 : Int) < (n : Int) := by omega
  have hcu : ∀ w : World, (Instr.slice 72 (.slice (some ⟨w.heap.size, 0, none⟩) n cap) none (some (.int .i64 0)) none).run Tryd.prog w = .ok (.slice (some ⟨w.heap.size, 0, none⟩) 0 cap) w := fun w => cut_run (t := 72) Tryd.underlying72 sz_st ⟨w.heap.size, 0, none⟩ n cap 0 (Nat.zero_le _) w
  have hcu2 := cut_run (t := 72) Tryd.underlying72 sz_st ⟨w.heap.size, 0, none⟩ n cap 0 (Nat.zero_le _)
  simp only [Int.cast_ofNat_Int] at hcu2
  generalize w.heap.size = g at hr hcu2 HE ⊢
  clear ho hb hcu
  go_enter Tryd.func90, Tryd.ntmps90
  go_wp2_with (at_builtin; refine Lib.wpList_append_run _ rfl _ _ _ _ rfl _ _ rfl rfl _ _ (hr _) ?_)
  go_ret
  exact ⟨g, cap, rfl, HE⟩
theorem app_sorts {w : World} {b G k cap : Nat} {L : List Int} (ho : w.ownsRow b 45 1 (.slice (some ⟨G, 0, none⟩) k cap) k (sv L)) (g o m c : Nat) (M : List Int) (hm : M.length = m) (hr : w.rangeAt g o (sv M)) (hb : b ≤ w.heap.size) (hs : k + m ≤ 1000000) :
    ∃ G' cap' w', (∀ ty, (Builtin.append_ #[72, 72] ty #[.slice (some ⟨G, 0, none⟩) k cap, .slice (some ⟨g, o, none⟩) m c]).run Tryd.prog w = .ok (.slice (some ⟨G', 0, none⟩) (k + m) cap') w') ∧ w'.ownsRow b 45 1 (.slice (some ⟨G', 0, none⟩) (k + m) cap') (k + m) (sv (L ++ M)) ∧ Below b w w' := by
  obtain ⟨i, hi, hz, hsz, hby⟩ := info_parts infoSt
  have key := fun ty => run_append_own (P := Tryd.prog) (w := w) b 72 ty 45 i _ 1 8 Tryd.underlying72 hi hz hsz hby rfl (by decide) (.slice (some ⟨G, 0, none⟩) k cap) k (sv L) ho ⟨g, o, none⟩ m c (sv M) (by rw [sv_len, Nat.mul_one]; exact hm) (fun j u hu => by rw [Addr.add_mid]; exact hr j u hu) (fun u hu => by
    unfold sv at hu
    obtain ⟨x, -, rfl⟩ := List.mem_map.1 hu
    rfl) (by unfold maxLen; omega) (by omega) hb
  obtain ⟨v', w', e1, e2, e3, e4⟩ := key 0
  have hne : v' ≠ .slice none 0 0 := fun e => by
    have := (e4.1 e).1
    cases this
  rcases e2.2 with ⟨q, -⟩ | ⟨G', cap', cur, rfl, -⟩
  · exact absurd q hne
  · refine ⟨G', cap', w', fun ty => ?_, by unfold sv at e2 ⊢; rw [List.map_append]; exact e2, ?_⟩
    · obtain ⟨v2, w2, f1, -⟩ := key ty
      have : (Builtin.append_ #[72, 72] ty #[.slice (some ⟨G, 0, none⟩) k cap, .slice (some ⟨g, o, none⟩) m c]).run Tryd.prog w = (Builtin.append_ #[72, 72] 0 #[.slice (some ⟨G, 0, none⟩) k cap, .slice (some ⟨g, o, none⟩) m c]).run Tryd.prog w := rfl
      rw [this]
      exact e1
    · have k1 : Kp (fun x => x = G) w w' := (Kp.refl _ w).grown e3 fun x hx => .inl (Option.some.inj hx).symm
      exact k1.below (fun x hx => by subst hx; exact (ho.lt _ rfl).1) hb
set_option maxRecDepth 100000 in
set_option maxHeartbeats 4000000 in
theorem concat_any {w : World} {P g o n c T : Nat} {S : List Int} {top : Int} (hn : S.length = n) (hn2 : n ≤ 1000) (hP : Full w P 72 [.slice (some ⟨g, o, none⟩) n c, .slice (some ⟨T, 0, none⟩) 1 1]) (hr : w.rangeAt g o (sv S)) (hT : w.rangeAt T 0 [.int .i64 top]) (hg : g < w.heap.size) (hTl : T < w.heap.size) :
    Calls Tryd.prog 89 #[.slice (some ⟨P, 0, none⟩) 2 2] w fun e w' => ∃ G cap, e = .returned (.slice (some ⟨G, 0, none⟩) (n + 1) cap) ∧ Hid (w'.ownsRow w.heap.size 45 1 (.slice (some ⟨G, 0, none⟩) (n + 1) cap) (n + 1) (sv (S ++ [top])) ∧ Below w.heap.size w w') := by
  have HW : Hid (∀ W, Below w.heap.size w W → (W.cell? ⟨P, 0, none⟩ = some (.slice (some ⟨g, o, none⟩) n c) ∧ W.cell? ⟨P, 1, none⟩ = some (.slice (some ⟨T, 0, none⟩) 1 1)) ∧ W.rangeAt g o (sv S) ∧ W.rangeAt T 0 (sv [top])) := fun W hW =>
    ⟨⟨((hP.next hW).cell 0 _ rfl).1, ((hP.next hW).cell 1 _ rfl).1⟩, range_same hr (hW.block g hg), range_same hT (hW.block T hTl)⟩
  obtain ⟨⟨x0, x1⟩, -, -⟩ := HW.out w (Below.refl _ w)
  have hg2 := grow_any w (n + 1) (Nat.succ_pos n) (by omega)
  rw [show ((n + 1 : Nat) : Int) = (n : Int) + 1 by omega] at hg2
  have HS : Hid (S.length = n) := hn
  clear hP hr hT hn hg hTl
  go_enter Tryd.func89, Tryd.ntmps89
  go_wp2_with fail
  go_loopw [3, 11] (fun s3 s11 wr => ((s3 = .int .i64 0 ∧ s11 = .int .i64 0) ∨ (s3 = .int .i64 (n : Int) ∧ s11 = .int .i64 1) ∨ (s3 = .int .i64 ((n + 1 : Nat) : Int) ∧ s11 = .int .i64 2)) ∧ wr = w) (fun _ s11 _ => 2 - (intOf s11).toNat)
  case atStart => exact ⟨.inl ⟨rfl, rfl⟩, rfl⟩
  case round =>
    obtain ⟨hs, hwr⟩ := hrel
    replace hwr := hwr.symm
    subst hwr
    have n0 : ¬ ((n : Int) < 0) := by omega
    have n1 : ¬ ((n : Int) + 1 < 0) := by omega
    rcases hs with ⟨rfl, rfl⟩ | ⟨rfl, rfl⟩ | ⟨rfl, rfl⟩
    · go_wp2
      exact ⟨⟨.inr (.inl ⟨by go_num, by go_num⟩), trivial⟩, by simp [intOf]⟩
    · go_wp2
      exact ⟨⟨.inr (.inr ⟨by go_num, by go_num⟩), trivial⟩, by simp [intOf]⟩
    · clear n0 n1
      go_wp2_with fail
      refine hg2.mono ?_
      rintro e W1 ⟨G1, cap1, rfl, hw1⟩
      have H1 : Hid (W1.ownsRow w.heap.size 45 1 (.slice (some ⟨G1, 0, none⟩) 0 cap1) 0 (sv []) ∧ Below w.heap.size w W1) := hw1
      clear hg2 hw1 x0 x1
      go_wp2_with fail
      go_loopw [6, 27] (fun s6 s27 wx => ∃ (G cap : Nat) (L : List Int), s6 = .slice (some ⟨G, 0, none⟩) L.length cap ∧ ((s27 = .int .i64 0 ∧ L = []) ∨ (s27 = .int .i64 1 ∧ L = S) ∨ (s27 = .int .i64 2 ∧ L = S ++ [top])) ∧ Hid (wx.ownsRow w.heap.size 45 1 (.slice (some ⟨G, 0, none⟩) L.length cap) L.length (sv L) ∧ Below w.heap.size w wx)) (fun _ s27 _ => 2 - (intOf s27).toNat)
      case atStart => exact ⟨G1, cap1, [], rfl, .inl ⟨rfl, rfl⟩, H1⟩
      case round =>
        obtain ⟨G, cap, L, rfl, hs, HI⟩ := hrel
        obtain ⟨⟨x0, x1⟩, r0, r1⟩ := HW.out wr HI.out.2
        rcases hs with ⟨rfl, rfl⟩ | ⟨rfl, rfl⟩ | ⟨rfl, rfl⟩
        · obtain ⟨G', cap', w', hrun, ho', hb'⟩ := app_sorts HI.out.1 g o n c S HS.out r0 HI.out.2.size (by simp; omega)
          have HN : Hid (w'.ownsRow w.heap.size 45 1 (.slice (some ⟨G', 0, none⟩) S.length cap') S.length (sv S) ∧ Below w.heap.size w w') := by
            have e : ([] : List Int).length + n = S.length := by rw [HS.out]; simp
            rw [e, List.nil_append] at ho'
            exact ⟨ho', HI.out.2.trans hb'⟩
          have hrun2 : ∀ ty, _ := hrun
          rw [show ([] : List Int).length + n = S.length by rw [HS.out]; simp] at hrun2
          clear hrun r0 r1 ho' hb' HI H1
          go_wp2_with (at_builtin; refine Lib.wpList_append_run _ rfl _ _ _ _ rfl _ _ rfl rfl _ _ (hrun2 _) ?_)
          exact ⟨⟨G', cap', S, rfl, .inr (.inl ⟨by go_num, rfl⟩), HN⟩, by simp [intOf]⟩
        · obtain ⟨G', cap', w', hrun, ho', hb'⟩ := app_sorts HI.out.1 T 0 1 1 [top] rfl r1 HI.out.2.size (by rw [HS.out]; omega)
          have HN : Hid (w'.ownsRow w.heap.size 45 1 (.slice (some ⟨G', 0, none⟩) (L ++ [top]).length cap') (L ++ [top]).length (sv (L ++ [top])) ∧ Below w.heap.size w w') := by
            rw [List.length_append]
            exact ⟨ho', HI.out.2.trans hb'⟩
          have hrun2 : ∀ ty, _ := hrun
          rw [show L.length + 1 = (L ++ [top]).length by simp] at hrun2
          clear hrun r0 r1 ho' hb' HI H1
          go_wp2_with (at_builtin; refine Lib.wpList_append_run _ rfl _ _ _ _ rfl _ _ rfl rfl _ _ (hrun2 _) ?_)
          exact ⟨⟨G', cap', L ++ [top], by simp, .inr (.inr ⟨by go_num, rfl⟩), HN⟩, by simp [intOf]⟩
        · have HE : Hid ((S ++ [top]).length = n + 1) := by show _ = _; rw [List.length_append, HS.out]; rfl
          clear r0 r1 x0 x1 H1
          go_wp2
          go_ret
          refine ⟨G, cap, ?_, ?_⟩
          · rw [← HE.out]; rfl
          · have := HI.out
            rw [HE.out] at this
            exact this
end Go.Proofs.YtdcaonfnhdjibaaDoor
