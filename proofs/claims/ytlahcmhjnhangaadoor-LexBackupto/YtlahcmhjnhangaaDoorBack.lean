import Derived.BigGuard
import Derived.BigCall
import Derived.Test.YtlahcmhjnhangaaDoorBetween
import Derived.Test.YtlahcmhjnhangaaDoorOff
namespace Go.Proofs.YtlahcmhjnhangaaDoor
open Go.RowKit Go.Shelf

theorem Lies.next {w w' : World} {p : Option Addr} {n i : Nat} {v : Value} {B : Nat} (h : Lies w p n i v) (hb : Below B w w') (hB : w.heap.size ≤ B) : Lies w' p n i v := by
  intro hi
  obtain ⟨g, o, e, hg, hc⟩ := h hi
  exact ⟨g, o, e, Nat.lt_of_lt_of_le hg (Nat.le_trans (Nat.le_refl _) (by have := hb.size; omega)), (hb.cell (p := ⟨g, o + i, none⟩) (by show g < B; omega)).trans hc⟩

/-- What is known of a token that Text accepts. -/
theorem tx_ok {k : Int} {s : ByteArray} {n : Int} (h0 : -9223372036854775808 ≤ n) (h1 : n ≤ 9223372036854775807) (hk : k ≠ 0) (h : (txS k s n).2 = 0) :
    ∃ x : Tk, tokS (txS k s n).1.data.toList = .inr x ∧ x.len = (txS k s n).1.size ∧ (x.kind : Int) = k ∧ x.text = s.data.toList ∧ x.int = n ∧ (txS k s n).1.size ≤ 802 := by
  unfold txS at h ⊢
  rw [if_neg hk] at h ⊢
  by_cases hz : (wrS k s n).size = 0
  · rw [if_pos hz] at h; cases h
  · rw [if_neg hz] at h ⊢
    by_cases hm : tokM k s n (wrS k s n) = true
    · rw [if_pos hm]
      have hm2 := hm
      unfold tokM at hm2
      cases ht : tokS (wrS k s n).data.toList with
      | inl e => rw [ht] at hm2; cases hm2
      | inr x =>
        rw [ht] at hm2
        obtain ⟨q1, q2, q3, q4⟩ := of_decide_eq_true hm2
        refine ⟨x, rfl, q2, q1, q3, q4, ?_⟩
        obtain ⟨o1, o2, o3, o4⟩ := tok_ok ht
        by_cases k2 : x.kind = 2
        · have hl := Lib.itoa_length_le n h0 h1
          have : (wrS k s n).size ≤ 21 := by
            unfold wrS
            rw [if_neg (by omega), if_pos (by omega), Lib.size_eq]
            exact hl
          simp only
          omega
        · by_cases k3 : x.kind = 3
          · unfold wrS
            rw [if_neg (by omega), if_neg (by omega)]
            split
            · rename_i h
              have := pcs_len s.data.toList
              have h2 := h.2
              rw [Lib.size_eq] at h2
              rw [qt_size]
              simp only [qt]
              simp
              omega
            · simp [ByteArray.size]
          · have := o3 k2 k3
            simp only
            omega
    · rw [if_neg hm] at h; cases h

theorem more {i a : Nat} (h : a ≤ i * 1050000) : a ≤ (i + 1) * 1050000 := by rw [Nat.succ_mul]; exact Nat.le_add_right_of_le h
theorem more2 {i a b c : Nat} (h : a ≤ i * 1050000) (hb : b ≤ 1048579) (hc : c ≤ 802) : a + b + c ≤ (i + 1) * 1050000 := by
  rw [Nat.succ_mul, Nat.add_assoc]
  exact Nat.add_le_add h (Nat.le_trans (Nat.add_le_add hb hc) (by decide))
theorem bound {i n a : Nat} (h : a ≤ i * 1050000) (hi : i ≤ n) (hn : n ≤ 1048576) : a ≤ 1101004800000 :=
  Nat.le_trans h (Nat.le_trans (Nat.mul_le_mul_right _ (Nat.le_trans hi hn)) (by decide))

theorem tk_eq {r s : ByteArray} {x : Tk} {k m : Int} {a b : Nat} (h : tokS r.data.toList = .inr x ∧ x.len = r.size ∧ (x.kind : Int) = k ∧ x.text = s.data.toList ∧ x.int = m) (hz : b = a + r.size) :
    #[.int .i64 k, .int .i64 (a : Int), .int .i64 (b : Int), .string s, .int .i64 m] = (tkCells a x).toArray := by
  obtain ⟨_, h2, h3, h4, h5⟩ := h
  unfold tkCells
  rw [h3, h4, h5, h2, hz]
  simp

/-- A row's token, as its five cells. -/
structure TokAt (w : World) (pt : Option Addr) (i : Nat) (k a z m : Int) (s : ByteArray) : Prop where
  at_ : ∃ g o, pt = some ⟨g, o, none⟩ ∧ g < w.heap.size ∧ w.cell? ⟨g, o + i * 5, none⟩ = some (.int .i64 k) ∧ w.cell? ⟨g, o + i * 5 + 1, none⟩ = some (.int .i64 a) ∧ w.cell? ⟨g, o + i * 5 + 2, none⟩ = some (.int .i64 z) ∧ w.cell? ⟨g, o + i * 5 + 3, none⟩ = some (.string s) ∧ w.cell? ⟨g, o + i * 5 + 4, none⟩ = some (.int .i64 m)
  lo : -9223372036854775808 ≤ m
  hi : m ≤ 9223372036854775807
  size : s.size ≤ 1048576

set_option maxRecDepth 100000 in
set_option maxHeartbeats 4000000 in
theorem lexBack_any (pt pb pn : Option Addr) (n ct lb cb ln cn : Nat) (w : World) (hn : n ≤ 1048576)
    (HT : Hid (∀ i, i < n → ∃ k a z m s, TokAt w pt i k a z m s)) (HB : Hid (∀ i, ∃ z, Lies w pb lb i (.int .i64 z))) (HN : Hid (∀ i, ∃ s : ByteArray, s.size ≤ 1048576 ∧ Lies w pn ln i (.string s)))
    (ht : Hid (Tab10 w)) (hT : Hid (Tabs w)) :
    Calls Tryd.prog 7 #[.agg #[.slice pt n ct, .slice pb lb cb, .slice pn ln cn]] w fun e w' => e = .returned (.bool true) ∧ Below w.heap.size w w' := by
  have HB0 : Hid (Below w.heap.size w (w.alloc (.cells #[.slice pt n ct, .slice pb lb cb, .slice pn ln cn] 42))) := (Below.refl _ w).alloc (Nat.le_refl _) _
  have H1 : Hid (Calls Tryd.prog 13 #[] (w.alloc (.cells #[.slice pt n ct, .slice pb lb cb, .slice pn ln cn] 42)) fun e w' => e = .returned (.bool true) ∧ Below (w.alloc (.cells #[.slice pt n ct, .slice pb lb cb, .slice pn ln cn] 42)).heap.size (w.alloc (.cells #[.slice pt n ct, .slice pb lb cb, .slice pn ln cn] 42)) w') := one_any _ (hT.out.next HB0.out)
  have C0 : Hid ((w.alloc (.cells #[.slice pt n ct, .slice pb lb cb, .slice pn ln cn] 42)).cell? ⟨w.heap.size, 0, none⟩ = some (.slice pt n ct) ∧ (w.alloc (.cells #[.slice pt n ct, .slice pb lb cb, .slice pn ln cn] 42)).cell? ⟨w.heap.size, 1, none⟩ = some (.slice pb lb cb) ∧ (w.alloc (.cells #[.slice pt n ct, .slice pb lb cb, .slice pn ln cn] 42)).cell? ⟨w.heap.size, 2, none⟩ = some (.slice pn ln cn)) := by
    have h := heap_alloc_new w (.cells #[.slice pt n ct, .slice pb lb cb, .slice pn ln cn] 42)
    refine ⟨?_, ?_, ?_⟩ <;> (simp only [World.cell?, h]; rfl)
  have hl0 : w.heap.size < (w.alloc (.cells #[.slice pt n ct, .slice pb lb cb, .slice pn ln cn] 42)).heap.size := by simp
  go_enter Tryd.func7, Tryd.ntmps7
  go_wp2_with (first
    | (go_at_call 13; refine H1.out.mono ?_; rintro e w1 ⟨rfl, hb1⟩; have c0 := (hb1.cell (p := ⟨w.heap.size, 0, none⟩) hl0).trans C0.out.1; have c1 := (hb1.cell (p := ⟨w.heap.size, 1, none⟩) hl0).trans C0.out.2.1; have c2 := (hb1.cell (p := ⟨w.heap.size, 2, none⟩) hl0).trans C0.out.2.2)
    | go_in)
  have HBw1 : Hid (Below w.heap.size w w1) := HB0.out.trans (hb1.mono HB0.out.size)
  have hw1 : w.heap.size < w1.heap.size := Nat.lt_of_lt_of_le hl0 hb1.size
  have CC : Hid (w1.cell? ⟨w.heap.size, 0, none⟩ = some (.slice pt n ct) ∧ w1.cell? ⟨w.heap.size, 1, none⟩ = some (.slice pb lb cb) ∧ w1.cell? ⟨w.heap.size, 2, none⟩ = some (.slice pn ln cn)) := ⟨c0, c1, c2⟩
  clear HB0 H1 C0 hl0 hb1 c0 c1 c2
  go_loopw [3, 4, 16] (fun v3 v4 j wr => ∃ (i : Nat) (T : ByteArray) (W : List (Nat × Tk)), i ≤ n ∧ v3 = .string T ∧ j = .int .i64 (i : Int) ∧ T.size ≤ i * 1050000 ∧ W.length ≤ i ∧ Hid (Sc T.data.toList W) ∧ Hid (wr.ownsRow w1.heap.size 35 5 v4 W.length (toksV W)) ∧ Hid (Below w1.heap.size w1 wr)) (fun _ _ j _ => n - (intOf j).toNat)
  case atStart => exact ⟨0, _, [], by omega, rfl, rfl, by decide, by simp, back_nil, World.ownsRow_nil _ _ _ _, Below.refl _ _⟩
  case round =>
    obtain ⟨i, T, W, hi, rfl, rfl, hTs, hWl, hSc, ho, hB⟩ := hrel
    have HBr : Hid (Below w.heap.size w wr) := HBw1.out.trans (hB.out.mono (by omega))
    have hwr : w.heap.size < wr.heap.size := Nat.lt_of_lt_of_le hw1 hB.out.size
    have c0 := (hB.out.cell (p := ⟨w.heap.size, 0, none⟩) hw1).trans CC.out.1
    have c1 := (hB.out.cell (p := ⟨w.heap.size, 1, none⟩) hw1).trans CC.out.2.1
    have c2 := (hB.out.cell (p := ⟨w.heap.size, 2, none⟩) hw1).trans CC.out.2.2
    by_cases hlt : i < n
    · have i0 : (0 : Int) ≤ (i : Int) := by omega
      have i1 : (i : Int) < (n : Int) := by omega
      obtain ⟨k, a, z, m, s, ⟨g, o, rfl, hg, d0, d1, d2, d3, d4⟩, hlo, hhi, hss⟩ := HT.out i hlt
      have hgr : g < wr.heap.size := by omega
      have d0 := (HBr.out.cell (p := ⟨g, o + i * 5, none⟩) hg).trans d0
      have d1 := (HBr.out.cell (p := ⟨g, o + i * 5 + 1, none⟩) hg).trans d1
      have d2 := (HBr.out.cell (p := ⟨g, o + i * 5 + 2, none⟩) hg).trans d2
      have d3 := (HBr.out.cell (p := ⟨g, o + i * 5 + 3, none⟩) hg).trans d3
      have d4 := (HBr.out.cell (p := ⟨g, o + i * 5 + 4, none⟩) hg).trans d4
      have HBa : Hid (Below wr.heap.size wr (wr.alloc (.cells #[.int .i64 k, .int .i64 a, .int .i64 z, .string s, .int .i64 m] 35))) := (Below.refl _ wr).alloc (Nat.le_refl _) _
      have F0 : Hid (Five (wr.alloc (.cells #[.int .i64 k, .int .i64 a, .int .i64 z, .string s, .int .i64 m] 35)) wr.heap.size (.int .i64 k) (.int .i64 a) (.int .i64 z) (.string s) (.int .i64 m)) := five_new wr _ _ _ _ _ 35
      have hla : wr.heap.size < (wr.alloc (.cells #[.int .i64 k, .int .i64 a, .int .i64 z, .string s, .int .i64 m] 35)).heap.size := World.block_lt_of_cell? _ _ F0.out.c0
      have HX0 := text_any k a z m s _ hlo hhi (by omega) ((ht.out.next HBr.out).next HBa.out) ((hT.out.next HBr.out).next HBa.out)
      have HOK : Hid (k ≠ 0 → (txS k s m).2 = 0 → ∃ x : Tk, tokS (txS k s m).1.data.toList = .inr x ∧ x.len = (txS k s m).1.size ∧ (x.kind : Int) = k ∧ x.text = s.data.toList ∧ x.int = m ∧ (txS k s m).1.size ≤ 802) := fun h1 h2 => tx_ok hlo hhi h1 h2
      obtain ⟨r, hr⟩ : ∃ r, (txS k s m).1 = r := ⟨_, rfl⟩
      obtain ⟨y, hy⟩ : ∃ y, (txS k s m).2 = y := ⟨_, rfl⟩
      rw [hr, hy] at HX0 HOK
      have HX : Hid (Calls Tryd.prog 17 #[.agg #[.int .i64 k, .int .i64 a, .int .i64 z, .string s, .int .i64 m]] (wr.alloc (.cells #[.int .i64 k, .int .i64 a, .int .i64 z, .string s, .int .i64 m] 35)) fun e w' => e = .returned (.tuple #[.string r, .int .i64 y]) ∧ Below (wr.alloc (.cells #[.int .i64 k, .int .i64 a, .int .i64 z, .string s, .int .i64 m] 35)).heap.size (wr.alloc (.cells #[.int .i64 k, .int .i64 a, .int .i64 z, .string s, .int .i64 m] 35)) w') := HX0
      clear HX0 hr hy
      by_cases hgo : k ≠ 0 ∧ y = 0
      · obtain ⟨hk0, rfl⟩ := hgo
        obtain ⟨x, x1, x2, x3, x4, x5, x6⟩ := HOK.out hk0 rfl
        have hkf : (k == 0) = false := by simpa using hk0
        have HXX : Hid (tokS r.data.toList = .inr x ∧ x.len = r.size ∧ (x.kind : Int) = k ∧ x.text = s.data.toList ∧ x.int = m) := ⟨x1, x2, x3, x4, x5⟩
        have hTb := bound hTs hi hn
        obtain ⟨zz, hzz⟩ := HB.out i
        obtain ⟨sn, hsn, hln⟩ := HN.out i
        have HLz : Hid (Lies w pb lb i (.int .i64 zz)) := hzz
        have HLn : Hid (Lies w pn ln i (.string sn)) := hln
        have HTs : Hid (T.size ≤ i * 1050000) := hTs
        clear hzz hln x1 x2 x3 x4 x5 HOK hTs
        go_wp2_with (first
          | (go_at_call 17; refine HX.out.mono ?_; rintro e w2 ⟨rfl, hb2⟩; obtain ⟨f0, f1, f2, f3, f4, fz⟩ := F0.out.below hb2 hla; have fz0 := fz 0 (by omega); have fz1 := fz 1 (by omega); have fz2 := fz 2 (by omega); clear fz; have HB2 : Hid (Below wr.heap.size wr w2) := HBa.out.trans (hb2.mono HBa.out.size); have hw2 : wr.heap.size < w2.heap.size := Nat.lt_of_lt_of_le hla hb2.size; have e0 := (HB2.out.cell (p := ⟨w.heap.size, 0, none⟩) hwr).trans c0; have e1 := (HB2.out.cell (p := ⟨w.heap.size, 1, none⟩) hwr).trans c1; have e2 := (HB2.out.cell (p := ⟨w.heap.size, 2, none⟩) hwr).trans c2)
          | (go_at_call 18; refine (between_any _ pb pn lb cb ln cn i w2 zz sn ((HLz.out.next HBr.out (Nat.le_refl _)).next HB2.out (Nat.le_refl _)) ((HLn.out.next HBr.out (Nat.le_refl _)).next HB2.out (Nat.le_refl _)) hsn).mono ?_; rintro e w3 ⟨S, hgp, hSz, rfl, hb3⟩; have F3 : Hid (Five w3 wr.heap.size _ _ _ _ _) := (F0.out.below hb2 hla).below hb3 hw2; obtain ⟨g0, g1, g2, g3, g4, gz⟩ := F3.out; have gz0 := gz 0 (by omega); have gz1 := gz 1 (by omega); have gz2 := gz 2 (by omega); have gz3 := gz 3 (by omega); have gz4 := gz 4 (by omega); clear gz; obtain ⟨T1, hT1⟩ : ∃ T1, T ++ S = T1 := ⟨_, rfl⟩; obtain ⟨T2, hT2⟩ : ∃ T2, T1 ++ r = T2 := ⟨_, rfl⟩; have z1 : T1.size = T.size + S.size := (by rw [← hT1, ByteArray.size_append]); have z2 : T2.size = T1.size + r.size := (by rw [← hT2, ByteArray.size_append]); have HZ1 : Hid (T1.size = T.size + S.size) := z1; have HZ2 : Hid (T2.size = T1.size + r.size) := z2; have y1 : T1.size ≤ 1101005900000 := (by omega); have y2 : T2.size ≤ 1101005900000 := (by omega); clear z1 z2; have HGP : Hid (gpOk S.data.toList) := hgp; clear hgp; have HT12 : Hid (T2.data.toList = T.data.toList ++ S.data.toList ++ r.data.toList) := (by show _ = _; rw [← hT2, ← hT1, app_list, app_list]); have HB4 : Hid (Below wr.heap.size wr ((w3.setCell ⟨wr.heap.size, 1, none⟩ (.int .i64 (T1.size : Int))).setCell ⟨wr.heap.size, 2, none⟩ (.int .i64 (T2.size : Int)))) := ((HB2.out.trans (hb3.mono HB2.out.size)).setCell (p := ⟨wr.heap.size, 1, none⟩) (Nat.le_refl _) _).setCell (p := ⟨wr.heap.size, 2, none⟩) (Nat.le_refl _) _; have HTk : Hid (#[.int .i64 k, .int .i64 (T1.size : Int), .int .i64 (T2.size : Int), .string s, .int .i64 m] = (tkCells T1.size x).toArray) := tk_eq HXX.out HZ2.out)
          | (at_builtin; refine wpList_appT (w0 := w1) (w := (w3.setCell ⟨wr.heap.size, 1, none⟩ (.int .i64 (T1.size : Int))).setCell ⟨wr.heap.size, 2, none⟩ (.int .i64 (T2.size : Int))) (by rfl) _ _ (by rfl) _ W.length W rfl (by rfl) (own_stays ho.out HB4.out) (hB.out.trans (HB4.out.mono hB.out.size)) T1.size x _ HTk.out w3.heap.size (by simp) (by rfl) (by omega) ?_; intro v5 w5 ho5 hb5 _)
          | go_in)
        have hbs := back_step hSc.out HGP.out HXX.out.1 (by rw [HXX.out.2.1, Lib.size_eq])
        refine ⟨⟨i + 1, T2, W ++ [(T1.size, x)], by omega, rfl, by go_num, ?_, by simp; omega, ?_, by rw [List.length_append]; exact ho5, hb5⟩, by simp [intOf]; omega⟩
        · rw [HZ2.out, HZ1.out]
          exact more2 HTs.out hSz x6
        · show Sc _ _
          rw [HT12.out, HZ1.out, Lib.size_eq, Lib.size_eq]
          exact hbs
      · have hgo' : y ≠ 0 ∨ (y = 0 ∧ k = 0) := by
          by_cases q : y = 0
          · right; refine ⟨q, ?_⟩; by_cases q2 : k = 0
            · exact q2
            · exact absurd ⟨q2, q⟩ hgo
          · left; exact q
        clear hgo HOK
        rcases hgo' with hy | ⟨rfl, rfl⟩
        · have hyf : (y == 0) = false := by simpa using hy
          go_wp2_with (first
            | (go_at_call 17; refine HX.out.mono ?_; rintro e w2 ⟨rfl, hb2⟩; obtain ⟨f0, f1, f2, f3, f4, _⟩ := F0.out.below hb2 hla)
            | go_in)
          have hb3 := HBa.out.trans (hb2.mono HBa.out.size)
          exact ⟨⟨i + 1, T, W, by omega, rfl, by go_num, more hTs, by omega, hSc, own_stays ho.out hb3, hB.out.trans (hb3.mono hB.out.size)⟩, by simp [intOf]; omega⟩
        · go_wp2_with (first
            | (go_at_call 17; refine HX.out.mono ?_; rintro e w2 ⟨rfl, hb2⟩; obtain ⟨f0, f1, f2, f3, f4, _⟩ := F0.out.below hb2 hla)
            | go_in)
          have hb3 := HBa.out.trans (hb2.mono HBa.out.size)
          exact ⟨⟨i + 1, T, W, by omega, rfl, by go_num, more hTs, by omega, hSc, own_stays ho.out hb3, hB.out.trans (hb3.mono hB.out.size)⟩, by simp [intOf]; omega⟩
    · obtain rfl : i = n := by omega
      have hTb := bound hTs (Nat.le_refl _) hn
      obtain ⟨zz, hzz⟩ := HB.out i
      obtain ⟨sn, hsn, hln⟩ := HN.out i
      have HLz : Hid (Lies w pb lb i (.int .i64 zz)) := hzz
      have HLn : Hid (Lies w pn ln i (.string sn)) := hln
      clear hzz hln
      go_upto_region 18 with (first
        | (go_at_call 18; refine (between_any _ pb pn lb cb ln cn i wr zz sn (HLz.out.next HBr.out (Nat.le_refl _)) (HLn.out.next HBr.out (Nat.le_refl _)) hsn).mono ?_; rintro e w3 ⟨S, hgp, hSz, rfl, hb3⟩; obtain ⟨T1, hT1⟩ : ∃ T1, T ++ S = T1 := ⟨_, rfl⟩; have y1 : T1.size ≤ 1101005900000 := (by rw [← hT1, ByteArray.size_append]; omega); have HGP : Hid (gpOk S.data.toList) := hgp; clear hgp; have HT12 : Hid (T1.data.toList = T.data.toList ++ S.data.toList) := (by show _ = _; rw [← hT1, app_list]))
        | go_in)
      by_cases hbig : 4194304 < T1.size
      · have q1 : (4194304 : Int) < (T1.size : Int) := by omega
        go_wp2
        go_ret
        exact ⟨rfl, HBr.out.trans (hb3.mono (by omega))⟩
      · have q1 : ¬ (4194304 : Int) < (T1.size : Int) := by omega
        have hbe := back_end hSc.out HGP.out
        rw [← HT12.out, ← Lib.size_eq] at hbe
        obtain ⟨l, hl⟩ : ∃ l, W ++ [(T1.size, (⟨0, 0, [], 0⟩ : Tk))] = l := ⟨_, rfl⟩
        have hll : l.length = W.length + 1 := by rw [← hl, List.length_append]; rfl
        have HS := scan_yes T1 (by omega) _ hbe
        rw [hl] at HS
        have HL : Hid (W ++ [(T1.size, (⟨0, 0, [], 0⟩ : Tk))] = l) := hl
        have HLL : Hid (l.length = W.length + 1) := hll
        clear hbe hl hll
        go_upto_region 22 with (first
          | (at_builtin; refine wpList_appT (w0 := w1) (w := w3) (by rfl) _ _ (by rfl) _ W.length W rfl (by rfl) (own_stays ho.out hb3) (hB.out.trans (hb3.mono hB.out.size)) T1.size ⟨0, 0, [], 0⟩ _ (by simp [tkCells]) w3.heap.size (by rfl) (by rfl) (by omega) ?_; intro v5 w5 ho5 hb5 _; have HTb5 : Hid (Tabs w5) := hT.out.next (HBw1.out.trans (hb5.out.mono (by omega))))
          | (go_at_call 14; refine (HS.out w5 HTb5.out).mono ?_; rintro y w6 ⟨v6, rfl, ho6, hb6⟩)
          | go_in)
        have HR6 : Hid (Reads (w6.alloc (.cells #[.int .i64 0, .int .i64 0] 28)) v6 l) := reads_own (ho6.alloc _)
        have HR5 : Hid (Reads (w6.alloc (.cells #[.int .i64 0, .int .i64 0] 28)) v5 l) := by
          have h := ho5.out
          rw [HL.out, ← HLL.out] at h
          exact reads_own ((own_stays h hb6).alloc _)
        have HB7 : Hid (Below w.heap.size w (w6.alloc (.cells #[.int .i64 0, .int .i64 0] 28))) := by
          have h5 := HBw1.out.trans (hb5.out.mono (by omega))
          have h6 := h5.trans (hb6.mono h5.size)
          exact h6.alloc h6.size _
        have hl4 : l.length ≤ 4194400 := by rw [HLL.out]; omega
        clear ho5 ho6 HS HTb5
        go_wp2_with (first
          | (go_at_call 19; refine (same_any v6 v5 l _ hl4 HR6.out HR5.out).mono ?_; rintro e w8 ⟨rfl, hb8⟩)
          | go_in)
        go_ret
        exact ⟨rfl, HB7.out.trans (hb8.mono HB7.out.size)⟩
end Go.Proofs.YtlahcmhjnhangaaDoor
