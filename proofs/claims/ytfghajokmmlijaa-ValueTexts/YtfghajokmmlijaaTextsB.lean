import Derived.Test.YtfghajokmmlijaaTextsA
namespace Go.Proofs.Ytfghajokmmlijaa
open Go.RowKit

set_option maxRecDepth 100000 in
set_option maxHeartbeats 4000000 in
theorem texts_b (op kd k n : Int) (s : ByteArray) (k' n' : Int) (s' : ByteArray) (k2 n2 : Int) (s2 : ByteArray) (w : World) (hs : s.size ≤ 9223372036854775807) (hs' : s'.size ≤ 9223372036854775807) (hs2 : s2.size ≤ 9223372036854775807) (a b c : ByteArray) (ha : cutS s = a) (hb0 : cutS s' = b) (hc : cutS s2 = c) (hab : a.size + b.size ≤ 256) (hbc : 256 < b.size + c.size) :
    Calls Try.prog 3 #[.agg #[.int .i64 op, .int .i64 kd, .int .i64 k, .int .i64 n, .string s, .int .i64 k', .int .i64 n', .string s', .int .i64 k2, .int .i64 n2, .string s2]] w fun e w' => e = .returned (.bool true) ∧ Below w.heap.size w w' := by
  have za : a.size ≤ 256 := by rw [← ha]; exact cut_size s
  have zb0 : b.size ≤ 256 := by rw [← hb0]; exact cut_size s'
  have zc : c.size ≤ 256 := by rw [← hc]; exact cut_size s2
  have Ca : Hid (∀ W : World, Calls Try.prog 8 #[.string s] W fun e w' => e = .returned (.string a) ∧ w' = W) := fun W => by have h := cut_any s W hs; rw [ha] at h; exact h
  have Cb : Hid (∀ W : World, Calls Try.prog 8 #[.string s'] W fun e w' => e = .returned (.string b) ∧ w' = W) := fun W => by have h := cut_any s' W hs'; rw [hb0] at h; exact h
  have Cc : Hid (∀ W : World, Calls Try.prog 8 #[.string s2] W fun e w' => e = .returned (.string c) ∧ w' = W) := fun W => by have h := cut_any s2 W hs2; rw [hc] at h; exact h
  clear ha hb0 hc hs hs' hs2
  have m := AskAt.new w op kd k n s k' n' s' k2 n2 s2 27
  have B : Below w.heap.size w (w.alloc (.cells #[.int .i64 op, .int .i64 kd, .int .i64 k, .int .i64 n, .string s, .int .i64 k', .int .i64 n', .string s', .int .i64 k2, .int .i64 n2, .string s2] 27)) := (Below.refl _ w).alloc (Nat.le_refl _) _
  have l : w.heap.size < (w.alloc (.cells #[.int .i64 op, .int .i64 kd, .int .i64 k, .int .i64 n, .string s, .int .i64 k', .int .i64 n', .string s', .int .i64 k2, .int .i64 n2, .string s2] 27)).heap.size := by simp
  have zab : (a ++ b).size ≤ 256 := by rw [ByteArray.size_append]; exact hab
  have C1 : Hid (∀ W : World, Calls Try.prog 9 #[.int .i64 3, .agg #[.int .i64 3, .int .i64 0, .string a], .agg #[.int .i64 3, .int .i64 0, .string b]] W fun e w' => e = .returned (.tuple #[.agg #[.int .i64 3, .int .i64 0, .string (a ++ b)], .int .i64 0]) ∧ Below W.heap.size W w') := fun W => by have h := binary_any 3 3 0 a 3 0 b W (by omega) (by omega); rw [binText _ _ _ za zb0, show textsS 3 a b = (3, 0, a ++ b, 0) by unfold textsS; rw [if_pos rfl, if_neg (by omega)]] at h; exact h
  obtain ⟨KL, NL, SL, TL, hL⟩ : ∃ K N S T, textsS 3 (a ++ b) c = (K, N, S, T) := ⟨_, _, _, _, rfl⟩
  have C2 : Hid (∀ W : World, Calls Try.prog 9 #[.int .i64 3, .agg #[.int .i64 3, .int .i64 0, .string (a ++ b)], .agg #[.int .i64 3, .int .i64 0, .string c]] W fun e w' => e = .returned (.tuple #[.agg #[.int .i64 KL, .int .i64 NL, .string SL], .int .i64 TL]) ∧ Below W.heap.size W w') := fun W => by have h := binary_any 3 3 0 (a ++ b) 3 0 c W (by omega) (by omega); rw [binText _ _ _ zab zc, hL] at h; exact h
  have C3 : Hid (∀ W : World, Calls Try.prog 9 #[.int .i64 3, .agg #[.int .i64 3, .int .i64 0, .string b], .agg #[.int .i64 3, .int .i64 0, .string c]] W fun e w' => e = .returned (.tuple #[.agg #[.int .i64 0, .int .i64 0, .string e0], .int .i64 6]) ∧ Below W.heap.size W w') := fun W => by have h := binary_any 3 3 0 b 3 0 c W (by omega) (by omega); rw [binText _ _ _ zb0 zc, show textsS 3 b c = (0, 0, e0, 6) by unfold textsS; rw [if_pos rfl, if_pos hbc]] at h; exact h
  go_enter Try.func3, Try.ntmps3
  go_wp2_with fail
  refine (works_any _).mono ?_
  rintro e w1 ⟨rfl, hb⟩
  replace m := m.below hb l
  replace l := Nat.lt_of_lt_of_le l hb.size
  replace B := B.trans (hb.mono B.size)
  clear hb
  obtain ⟨x0, x1, x2, x3, x4, x5, x6, x7, x8, x9, x10⟩ := id m
  go_wp2_with fail
  refine (Ca.out _).mono ?_
  rintro e _ ⟨rfl, rfl⟩
  go_wp2_with fail
  refine (Cb.out _).mono ?_
  rintro e _ ⟨rfl, rfl⟩
  go_wp2_with fail
  refine (Cc.out _).mono ?_
  rintro e _ ⟨rfl, rfl⟩
  go_wp2_with fail
  clear x0 x1 x2 x3 x4 x5 x6 x7 x8 x9 x10
  refine (text_any a _).mono ?_
  rintro e v1 ⟨rfl, hb⟩
  replace m := m.below hb l
  replace l := Nat.lt_of_lt_of_le l hb.size
  replace B := B.trans (hb.mono B.size)
  clear hb
  go_wp2_with fail
  refine (text_any b _).mono ?_
  rintro e v2 ⟨rfl, hb⟩
  replace m := m.below hb l
  replace l := Nat.lt_of_lt_of_le l hb.size
  replace B := B.trans (hb.mono B.size)
  clear hb
  go_wp2_with fail
  refine (C1.out _).mono ?_
  rintro e v3 ⟨rfl, hb⟩
  replace m := m.below hb l
  replace l := Nat.lt_of_lt_of_le l hb.size
  replace B := B.trans (hb.mono B.size)
  clear hb
  replace m := m.alloc (.cells #[.int .i64 3, .int .i64 0, .string (a ++ b)] 25)
  have pab := Box3.new v3 3 0 (a ++ b) 25
  have lpab : v3.heap.size < (v3.alloc (.cells #[.int .i64 3, .int .i64 0, .string (a ++ b)] 25)).heap.size := by simp
  replace l := Nat.lt_trans l lpab
  replace B := B.alloc B.size (.cells #[.int .i64 3, .int .i64 0, .string (a ++ b)] 25)
  have hi : ¬ (256 : Int) < (a.size : Int) + b.size := by omega
  go_wp2_with fail
  generalize v3.alloc (.cells #[.int .i64 3, .int .i64 0, .string (a ++ b)] 25) = X1 at m l B pab lpab ⊢
  generalize v3.heap.size = xab at pab lpab ⊢
  have q1 := neSame 3 0 (a ++ b)
  have paby0 := cell_regrown pab.1.1.1
  have paby1 := cell_regrown pab.1.2.1
  have paby2 := cell_regrown pab.2.1
  have d1 : ∀ d os, Calls Try.prog 10 #[.string (a ++ b)] (Sort.grow (redrawn X1 d) os) fun e w'' => e = .returned (.agg #[.int .i64 3, .int .i64 0, .string (a ++ b)]) ∧ ∃ p : Regrown, w'' = Sort.grow (redrawn X1 p.d) p.os := fun d os => Calls.regrown_of (text_any (a ++ b) _)
  refine wp_region_quiet_below (by kernel_rfl) (by kernel_rfl) ?_
  repeat (first | go_big_quiet_step (with_reducible exact d1 _ _) | quiet_step (with_reducible exact d1 _ _))
  refine wpQuiet_nil ?_
  intro _ hw'
  obtain ⟨⟨dq, osq⟩, hw''⟩ := hw'
  subst hw''
  have hY := below_regrown X1 dq osq
  change Exit.then _ _ Exit.normal _ (Sort.grow (redrawn X1 dq) osq)
  generalize Sort.grow (redrawn X1 dq) osq = X2 at hY ⊢
  clear paby0 paby1 paby2 d1
  replace m := m.below hY l
  replace pab := pab.below hY lpab
  replace l := Nat.lt_of_lt_of_le l hY.size
  replace lpab := Nat.lt_of_lt_of_le lpab hY.size
  replace B := B.trans (hY.mono B.size)
  clear hY
  clear q1
  obtain ⟨x0, x1, x2, x3, x4, x5, x6, x7, x8, x9, x10⟩ := id m
  obtain ⟨⟨⟨pab0, pabf0⟩, ⟨pab1, pabf1⟩⟩, pab2, pabf2⟩ := id pab
  go_wp2_with fail
  clear x0 x1 x2 x3 x4 x5 x6 x7 x8 x9 x10 pab0 pabf0 pab1 pabf1 pab2 pabf2
  go_cut [8, 9] from 165 (fun u1 u2 wx => ∃ zq : Nat, u1 = .pointer (some ⟨zq, 0, none⟩) ∧ u2 = .int .i64 TL ∧ Hid (Box3 wx zq KL NL SL ∧ zq < wx.heap.size ∧ AskAt wx w.heap.size op kd k n s k' n' s' k2 n2 s2 ∧ Below w.heap.size w wx ∧ w.heap.size < wx.heap.size ∧ Box3 wx xab 3 0 (a ++ b) ∧ xab < wx.heap.size))
  case first =>
    have SV : Hid (∀ w' : World, Below X2.heap.size X2 w' → w'.cell? ⟨xab, 0, none⟩ = some (.int .i64 3) ∧ w'.cell? ⟨xab, 1, none⟩ = some (.int .i64 0) ∧ w'.cell? ⟨xab, 2, none⟩ = some (.string (a ++ b)) ∧ Below X2.heap.size X2 w') := fun w' hb => ⟨(pab.below hb lpab).1.1.1, (pab.below hb lpab).1.2.1, (pab.below hb lpab).2.1, hb⟩
    have hcd : Below X2.heap.size X2 X2.drew := (Below.refl _ X2).drew
    go_region_held3 (fun w' => w'.cell? ⟨xab, 0, none⟩ = some (.int .i64 3) ∧ w'.cell? ⟨xab, 1, none⟩ = some (.int .i64 0) ∧ w'.cell? ⟨xab, 2, none⟩ = some (.string (a ++ b)) ∧ Below X2.heap.size X2 w') (exact SV.out _ (by first | assumption | exact Below.alloc (by assumption) (Below.size (by assumption)) _ | exact below_put3 (by assumption) (by first | (with_reducible exact Nat.le_refl _) | (with_reducible exact Below.size (by assumption))) _ _ _))
      (first
      | (go_at_call 10; refine (text_any c _).mono ?_; rintro e w1 ⟨rfl, hb1⟩; (first
          | (have z1 : Box3 w1 X2.heap.size 0 0 e0 := (Box3.new X2.drew 0 0 e0 25).below hb1 (by simp); have lz1 : X2.heap.size < w1.heap.size := Nat.lt_of_lt_of_le (by simp) hb1.size; have hcd1 : Below X2.heap.size X2 w1 := (hcd.alloc hcd.size _).trans (hb1.mono (hcd.alloc hcd.size _).size))
          | have hcd1 : Below X2.heap.size X2 w1 := hcd.trans (hb1.mono hcd.size)))
      | (go_at_call 9; refine (C2.out _).mono ?_; rintro e w2 ⟨rfl, hb2⟩; (first
          | (have z2 : Box3 w2 w1.heap.size 0 0 e0 := (Box3.new w1 0 0 e0 25).below hb2 (by simp); have lz2 : w1.heap.size < w2.heap.size := Nat.lt_of_lt_of_le (by simp) hb2.size; have hcd2 : Below X2.heap.size X2 w2 := (hcd1.alloc hcd1.size _).trans (hb2.mono (hcd1.alloc hcd1.size _).size); obtain ⟨⟨⟨z20, zf0⟩, ⟨z21, zf1⟩⟩, z22, zf2⟩ := id z2)
          | (have z2 : Box3 w2 X2.heap.size 0 0 e0 := z1.below hb2 lz1; have lz2 : X2.heap.size < w2.heap.size := Nat.lt_of_lt_of_le lz1 hb2.size; have hcd2 : Below X2.heap.size X2 w2 := hcd1.trans (hb2.mono hcd1.size); obtain ⟨⟨⟨z20, zf0⟩, ⟨z21, zf1⟩⟩, z22, zf2⟩ := id z2)
          | have hcd2 : Below X2.heap.size X2 w2 := hcd1.trans (hb2.mono hcd1.size))))
    · rename_i hH
      have hB : Below X2.heap.size X2 (w2.alloc (.cells #[.int .i64 KL, .int .i64 NL, .string SL] 25)) := hH.2.2.2
      have zb : Box3 (w2.alloc (.cells #[.int .i64 KL, .int .i64 NL, .string SL] 25)) (w2.heap.size) KL NL SL := Box3.new w2 KL NL SL 25
      have lz : w2.heap.size < (w2.alloc (.cells #[.int .i64 KL, .int .i64 NL, .string SL] 25)).heap.size := by simp
      change Exit.then _ _ Exit.normal _ (w2.alloc (.cells #[.int .i64 KL, .int .i64 NL, .string SL] 25))
      generalize w2.alloc (.cells #[.int .i64 KL, .int .i64 NL, .string SL] 25) = Y at hB zb lz ⊢
      clear hH
      have HH : Hid (Box3 Y (w2.heap.size) KL NL SL ∧ w2.heap.size < Y.heap.size ∧ AskAt Y w.heap.size op kd k n s k' n' s' k2 n2 s2 ∧ Below w.heap.size w Y ∧ w.heap.size < Y.heap.size ∧ Box3 Y xab 3 0 (a ++ b) ∧ xab < Y.heap.size) := ⟨zb, lz, m.below hB l, B.trans (hB.mono B.size), Nat.lt_of_lt_of_le l hB.size, pab.below hB lpab, Nat.lt_of_lt_of_le lpab hB.size⟩
      go_wp2
      go_meet
      case rel => exact ⟨w2.heap.size, rfl, rfl, HH⟩
    · rename_i hH
      have hB : Below X2.heap.size X2 (put3 w2 w1.heap.size KL NL SL) := hH.2.2.2
      have zb : Box3 (put3 w2 w1.heap.size KL NL SL) (w1.heap.size) KL NL SL := z2.put KL NL SL
      have lz : w1.heap.size < (put3 w2 w1.heap.size KL NL SL).heap.size := lt_put3 lz2
      change Exit.then _ _ Exit.normal _ (put3 w2 w1.heap.size KL NL SL)
      generalize put3 w2 w1.heap.size KL NL SL = Y at hB zb lz ⊢
      clear hH
      have HH : Hid (Box3 Y (w1.heap.size) KL NL SL ∧ w1.heap.size < Y.heap.size ∧ AskAt Y w.heap.size op kd k n s k' n' s' k2 n2 s2 ∧ Below w.heap.size w Y ∧ w.heap.size < Y.heap.size ∧ Box3 Y xab 3 0 (a ++ b) ∧ xab < Y.heap.size) := ⟨zb, lz, m.below hB l, B.trans (hB.mono B.size), Nat.lt_of_lt_of_le l hB.size, pab.below hB lpab, Nat.lt_of_lt_of_le lpab hB.size⟩
      go_wp2
      go_meet
      case rel => exact ⟨w1.heap.size, rfl, rfl, HH⟩
    · rename_i hH
      have hB : Below X2.heap.size X2 (put3 w2 X2.heap.size KL NL SL) := hH.2.2.2
      have zb : Box3 (put3 w2 X2.heap.size KL NL SL) (X2.heap.size) KL NL SL := z2.put KL NL SL
      have lz : X2.heap.size < (put3 w2 X2.heap.size KL NL SL).heap.size := lt_put3 lz2
      change Exit.then _ _ Exit.normal _ (put3 w2 X2.heap.size KL NL SL)
      generalize put3 w2 X2.heap.size KL NL SL = Y at hB zb lz ⊢
      clear hH
      have HH : Hid (Box3 Y (X2.heap.size) KL NL SL ∧ X2.heap.size < Y.heap.size ∧ AskAt Y w.heap.size op kd k n s k' n' s' k2 n2 s2 ∧ Below w.heap.size w Y ∧ w.heap.size < Y.heap.size ∧ Box3 Y xab 3 0 (a ++ b) ∧ xab < Y.heap.size) := ⟨zb, lz, m.below hB l, B.trans (hB.mono B.size), Nat.lt_of_lt_of_le l hB.size, pab.below hB lpab, Nat.lt_of_lt_of_le lpab hB.size⟩
      go_wp2
      go_meet
      case rel => exact ⟨X2.heap.size, rfl, rfl, HH⟩
  case rest =>
  clear m B l pab lpab
  obtain ⟨xl, rfl, rfl, HC⟩ := hcut
  obtain ⟨pl, lpl, m, B, l, pab, lpab⟩ := HC.out
  clear HC
  go_wp2_with fail
  refine (text_any b _).mono ?_
  rintro e s1 ⟨rfl, hb⟩
  replace m := m.below hb l
  replace pab := pab.below hb lpab
  replace pl := pl.below hb lpl
  replace l := Nat.lt_of_lt_of_le l hb.size
  replace lpab := Nat.lt_of_lt_of_le lpab hb.size
  replace lpl := Nat.lt_of_lt_of_le lpl hb.size
  replace B := B.trans (hb.mono B.size)
  clear hb
  go_wp2_with fail
  refine (text_any c _).mono ?_
  rintro e s2w ⟨rfl, hb⟩
  replace m := m.below hb l
  replace pab := pab.below hb lpab
  replace pl := pl.below hb lpl
  replace l := Nat.lt_of_lt_of_le l hb.size
  replace lpab := Nat.lt_of_lt_of_le lpab hb.size
  replace lpl := Nat.lt_of_lt_of_le lpl hb.size
  replace B := B.trans (hb.mono B.size)
  clear hb
  go_wp2_with fail
  refine (C3.out _).mono ?_
  rintro e s3 ⟨rfl, hb⟩
  replace m := m.below hb l
  replace pab := pab.below hb lpab
  replace pl := pl.below hb lpl
  replace l := Nat.lt_of_lt_of_le l hb.size
  replace lpab := Nat.lt_of_lt_of_le lpab hb.size
  replace lpl := Nat.lt_of_lt_of_le lpl hb.size
  replace B := B.trans (hb.mono B.size)
  clear hb
  replace m := m.alloc (.cells #[.int .i64 0, .int .i64 0, .string e0] 25)
  replace pab := pab.alloc (.cells #[.int .i64 0, .int .i64 0, .string e0] 25)
  replace pl := pl.alloc (.cells #[.int .i64 0, .int .i64 0, .string e0] 25)
  have pbc := Box3.new s3 0 0 e0 25
  have lpbc : s3.heap.size < (s3.alloc (.cells #[.int .i64 0, .int .i64 0, .string e0] 25)).heap.size := by simp
  replace l := Nat.lt_trans l lpbc
  replace lpab := Nat.lt_trans lpab lpbc
  replace lpl := Nat.lt_trans lpl lpbc
  replace B := B.alloc B.size (.cells #[.int .i64 0, .int .i64 0, .string e0] 25)
  obtain ⟨x0, x1, x2, x3, x4, x5, x6, x7, x8, x9, x10⟩ := id m
  obtain ⟨⟨⟨pab0, pabf0⟩, ⟨pab1, pabf1⟩⟩, pab2, pabf2⟩ := id pab
  obtain ⟨⟨⟨pl0, plf0⟩, ⟨pl1, plf1⟩⟩, pl2, plf2⟩ := id pl
  obtain ⟨⟨⟨pbc0, pbcf0⟩, ⟨pbc1, pbcf1⟩⟩, pbc2, pbcf2⟩ := id pbc
  go_wp2_with fail
  clear x0 x1 x2 x3 x4 x5 x6 x7 x8 x9 x10 pab0 pabf0 pab1 pabf1 pab2 pabf2 pl0 plf0 pl1 plf1 pl2 plf2 pbc0 pbcf0 pbc1 pbcf1 pbc2 pbcf2
  generalize s3.alloc (.cells #[.int .i64 0, .int .i64 0, .string e0] 25) = X4 at m l B pab lpab pl lpl pbc lpbc ⊢
  generalize s3.heap.size = xbc at pbc lpbc ⊢
  clear C1 C2 C3 Ca Cb Cc
  obtain ⟨KA, NA, SA, TA, hA⟩ : ∃ K N S T, atS 3 0 (a ++ b) 1 n2 e0 = (K, N, S, T) := ⟨_, _, _, _, rfl⟩
  have CA : Hid (∀ W : World, Calls Try.prog 11 #[.agg #[.int .i64 3, .int .i64 0, .string (a ++ b)], .agg #[.int .i64 1, .int .i64 n2, .string e0]] W fun e w' => e = .returned (.tuple #[.agg #[.int .i64 KA, .int .i64 NA, .string SA], .int .i64 TA]) ∧ Below W.heap.size W w') := fun W => by have h := at_any 3 0 (a ++ b) 1 n2 e0 W (by omega) (by decide); rw [hA] at h; exact h
  have HA : Hid (atS 3 0 (a ++ b) 1 n2 e0 = (KA, NA, SA, TA)) := hA
  clear hA
  have zz := zab
  clear pl lpl
  clear pbc lpbc
  go_cut [15, 16] from 165 (fun u1 u2 wx => ∃ zq : Nat, u1 = .pointer (some ⟨zq, 0, none⟩) ∧ u2 = .int .i64 TA ∧ Hid (Box3 wx zq KA NA SA ∧ zq < wx.heap.size ∧ AskAt wx w.heap.size op kd k n s k' n' s' k2 n2 s2 ∧ Below w.heap.size w wx ∧ w.heap.size < wx.heap.size ∧ Box3 wx xab 3 0 (a ++ b) ∧ xab < wx.heap.size))
  case first =>
    have SV : Hid (∀ w' : World, Below X4.heap.size X4 w' → w'.cell? ⟨xab, 0, none⟩ = some (.int .i64 3) ∧ w'.cell? ⟨xab, 1, none⟩ = some (.int .i64 0) ∧ w'.cell? ⟨xab, 2, none⟩ = some (.string (a ++ b)) ∧ Below X4.heap.size X4 w') := fun w' hb => ⟨(pab.below hb lpab).1.1.1, (pab.below hb lpab).1.2.1, (pab.below hb lpab).2.1, hb⟩
    have hcd : Below X4.heap.size X4 X4.drew := (Below.refl _ X4).drew
    go_region_held3 (fun w' => w'.cell? ⟨xab, 0, none⟩ = some (.int .i64 3) ∧ w'.cell? ⟨xab, 1, none⟩ = some (.int .i64 0) ∧ w'.cell? ⟨xab, 2, none⟩ = some (.string (a ++ b)) ∧ Below X4.heap.size X4 w') (exact SV.out _ (by first | assumption | exact Below.alloc (by assumption) (Below.size (by assumption)) _ | exact below_put3 (by assumption) (by first | (with_reducible exact Nat.le_refl _) | (with_reducible exact Below.size (by assumption))) _ _ _))
      (first
      | (go_at_call 12; refine (num_any n2 _).mono ?_; rintro e w1 ⟨rfl, hb1⟩; (first
          | (have z1 : Box3 w1 X4.heap.size 0 0 e0 := (Box3.new X4.drew 0 0 e0 25).below hb1 (by simp); have lz1 : X4.heap.size < w1.heap.size := Nat.lt_of_lt_of_le (by simp) hb1.size; have hcd1 : Below X4.heap.size X4 w1 := (hcd.alloc hcd.size _).trans (hb1.mono (hcd.alloc hcd.size _).size))
          | have hcd1 : Below X4.heap.size X4 w1 := hcd.trans (hb1.mono hcd.size)))
      | (go_at_call 11; refine (CA.out _).mono ?_; rintro e w2 ⟨rfl, hb2⟩; (first
          | (have z2 : Box3 w2 w1.heap.size 0 0 e0 := (Box3.new w1 0 0 e0 25).below hb2 (by simp); have lz2 : w1.heap.size < w2.heap.size := Nat.lt_of_lt_of_le (by simp) hb2.size; have hcd2 : Below X4.heap.size X4 w2 := (hcd1.alloc hcd1.size _).trans (hb2.mono (hcd1.alloc hcd1.size _).size); obtain ⟨⟨⟨z20, zf0⟩, ⟨z21, zf1⟩⟩, z22, zf2⟩ := id z2)
          | (have z2 : Box3 w2 X4.heap.size 0 0 e0 := z1.below hb2 lz1; have lz2 : X4.heap.size < w2.heap.size := Nat.lt_of_lt_of_le lz1 hb2.size; have hcd2 : Below X4.heap.size X4 w2 := hcd1.trans (hb2.mono hcd1.size); obtain ⟨⟨⟨z20, zf0⟩, ⟨z21, zf1⟩⟩, z22, zf2⟩ := id z2)
          | have hcd2 : Below X4.heap.size X4 w2 := hcd1.trans (hb2.mono hcd1.size))))
    · rename_i hH
      have hB : Below X4.heap.size X4 (w2.alloc (.cells #[.int .i64 KA, .int .i64 NA, .string SA] 25)) := hH.2.2.2
      have zb : Box3 (w2.alloc (.cells #[.int .i64 KA, .int .i64 NA, .string SA] 25)) (w2.heap.size) KA NA SA := Box3.new w2 KA NA SA 25
      have lz : w2.heap.size < (w2.alloc (.cells #[.int .i64 KA, .int .i64 NA, .string SA] 25)).heap.size := by simp
      change Exit.then _ _ Exit.normal _ (w2.alloc (.cells #[.int .i64 KA, .int .i64 NA, .string SA] 25))
      generalize w2.alloc (.cells #[.int .i64 KA, .int .i64 NA, .string SA] 25) = Y at hB zb lz ⊢
      clear hH
      have HH : Hid (Box3 Y (w2.heap.size) KA NA SA ∧ w2.heap.size < Y.heap.size ∧ AskAt Y w.heap.size op kd k n s k' n' s' k2 n2 s2 ∧ Below w.heap.size w Y ∧ w.heap.size < Y.heap.size ∧ Box3 Y xab 3 0 (a ++ b) ∧ xab < Y.heap.size) := ⟨zb, lz, m.below hB l, B.trans (hB.mono B.size), Nat.lt_of_lt_of_le l hB.size, pab.below hB lpab, Nat.lt_of_lt_of_le lpab hB.size⟩
      go_wp2
      go_meet
      case rel => exact ⟨w2.heap.size, rfl, rfl, HH⟩
    · rename_i hH
      have hB : Below X4.heap.size X4 (put3 w2 w1.heap.size KA NA SA) := hH.2.2.2
      have zb : Box3 (put3 w2 w1.heap.size KA NA SA) (w1.heap.size) KA NA SA := z2.put KA NA SA
      have lz : w1.heap.size < (put3 w2 w1.heap.size KA NA SA).heap.size := lt_put3 lz2
      change Exit.then _ _ Exit.normal _ (put3 w2 w1.heap.size KA NA SA)
      generalize put3 w2 w1.heap.size KA NA SA = Y at hB zb lz ⊢
      clear hH
      have HH : Hid (Box3 Y (w1.heap.size) KA NA SA ∧ w1.heap.size < Y.heap.size ∧ AskAt Y w.heap.size op kd k n s k' n' s' k2 n2 s2 ∧ Below w.heap.size w Y ∧ w.heap.size < Y.heap.size ∧ Box3 Y xab 3 0 (a ++ b) ∧ xab < Y.heap.size) := ⟨zb, lz, m.below hB l, B.trans (hB.mono B.size), Nat.lt_of_lt_of_le l hB.size, pab.below hB lpab, Nat.lt_of_lt_of_le lpab hB.size⟩
      go_wp2
      go_meet
      case rel => exact ⟨w1.heap.size, rfl, rfl, HH⟩
    · rename_i hH
      have hB : Below X4.heap.size X4 (put3 w2 X4.heap.size KA NA SA) := hH.2.2.2
      have zb : Box3 (put3 w2 X4.heap.size KA NA SA) (X4.heap.size) KA NA SA := z2.put KA NA SA
      have lz : X4.heap.size < (put3 w2 X4.heap.size KA NA SA).heap.size := lt_put3 lz2
      change Exit.then _ _ Exit.normal _ (put3 w2 X4.heap.size KA NA SA)
      generalize put3 w2 X4.heap.size KA NA SA = Y at hB zb lz ⊢
      clear hH
      have HH : Hid (Box3 Y (X4.heap.size) KA NA SA ∧ X4.heap.size < Y.heap.size ∧ AskAt Y w.heap.size op kd k n s k' n' s' k2 n2 s2 ∧ Below w.heap.size w Y ∧ w.heap.size < Y.heap.size ∧ Box3 Y xab 3 0 (a ++ b) ∧ xab < Y.heap.size) := ⟨zb, lz, m.below hB l, B.trans (hB.mono B.size), Nat.lt_of_lt_of_le l hB.size, pab.below hB lpab, Nat.lt_of_lt_of_le lpab hB.size⟩
      go_wp2
      go_meet
      case rel => exact ⟨X4.heap.size, rfl, rfl, HH⟩
  case rest =>
  clear m B l pab lpab
  obtain ⟨xe, rfl, rfl, HC⟩ := hcut
  obtain ⟨pe, lpe, m, B, l, pab, lpab⟩ := HC.out
  clear HC
  have hA := HA.out
  clear HA CA
  have hsz : (a ++ b).size = a.size + b.size := ByteArray.size_append
  by_cases hout : n2 < 0 ∨ ((a.size + b.size : Nat) : Int) ≤ n2
  · rw [show atS 3 0 (a ++ b) 1 n2 e0 = (0, 0, e0, 2) by unfold atS; rw [if_pos ⟨rfl, okText _ zz, rfl, okInt _⟩, if_pos (by rw [hsz]; exact hout)]] at hA
    simp only [Prod.mk.injEq] at hA
    obtain ⟨rfl, rfl, rfl, rfl⟩ := hA
    have q1 := eqSame 0 0 e0
    obtain ⟨⟨⟨pe0, pef0⟩, ⟨pe1, pef1⟩⟩, pe2, pef2⟩ := id pe
    by_cases h0 : n2 < 0
    · go_wp2
      go_ret
      exact ⟨rfl, B⟩
    have h1 : (a.size : Int) + b.size ≤ n2 := by omega
    go_wp2
    go_ret
    exact ⟨rfl, B⟩
  obtain ⟨j, rfl⟩ := Int.eq_ofNat_of_zero_le (show 0 ≤ n2 from by omega)
  have hj : j < a.size + b.size := by omega
  rw [show atS 3 0 (a ++ b) 1 (j : Int) e0 = (1, (((a ++ b).data.toList.getD (Int.toNat (j : Int)) 0).toNat : Int), e0, 0) by unfold atS; rw [if_pos ⟨rfl, okText _ zz, rfl, okInt _⟩, if_neg (by rw [hsz]; omega)]; rfl] at hA
  rw [Int.toNat_natCast] at hA
  have h0 : ¬ ((j : Int) < 0) := by omega
  have h1 : ¬ ((a.size : Int) + b.size ≤ (j : Int)) := by omega
  by_cases hlt : j < a.size
  · rw [byte_l a b j hlt] at hA
    have hix := ix_run a j hlt
    have hx0 : (0 : Int) ≤ ((a[j]).toNat : Int) ∧ ((a[j]).toNat : Int) ≤ 255 := by have := (a[j]).toNat_lt; omega
    generalize ((a[j]).toNat : Int) = x at hA hix hx0
    obtain ⟨hx0, hx1⟩ := hx0
    simp only [Prod.mk.injEq] at hA
    obtain ⟨rfl, rfl, rfl, rfl⟩ := hA
    have hlt2 : (j : Int) < (a.size : Int) := by omega
    go_wp2_with fail
    have q1 := eqSame 1 x e0
    have py0 := cell_regrown pe.1.1.1
    have py1 := cell_regrown pe.1.2.1
    have py2 := cell_regrown pe.2.1
    have d1 : ∀ d os, Calls Try.prog 12 #[.int .i64 x] (Sort.grow (redrawn wc d) os) fun e w'' => e = .returned (.agg #[.int .i64 1, .int .i64 x, .string e0]) ∧ ∃ p : Regrown, w'' = Sort.grow (redrawn wc p.d) p.os := fun d os => Calls.regrown_of (num_any _ _)
    refine wp_region_quiet_below (by kernel_rfl) (by kernel_rfl) ?_
    repeat (first | go_big_quiet_step (with_reducible exact d1 _ _) | quiet_step (with_reducible exact d1 _ _))
    refine wpQuiet_nil ?_
    intro _ hw'
    obtain ⟨⟨dq, osq⟩, hw''⟩ := hw'
    subst hw''
    have hY := below_regrown wc dq osq
    change Exit.then _ _ Exit.normal _ (Sort.grow (redrawn wc dq) osq)
    generalize Sort.grow (redrawn wc dq) osq = Y9 at hY ⊢
    have B9 := B.trans (hY.mono B.size)
    go_wp2
    go_ret
    exact ⟨rfl, B9⟩
  obtain ⟨t, hjt⟩ : ∃ t, j = a.size + t := ⟨j - a.size, by omega⟩
  have ht : t < b.size := by omega
  rw [show (a ++ b).data.toList.getD j 0 = (a ++ b).data.toList.getD (a.size + t) 0 by rw [hjt], byte_r a b t ht] at hA
  have hix := ix_run b t ht
  have hx0 : (0 : Int) ≤ ((b[t]).toNat : Int) ∧ ((b[t]).toNat : Int) ≤ 255 := by have := (b[t]).toNat_lt; omega
  generalize ((b[t]).toNat : Int) = x at hA hix hx0
  obtain ⟨hx0, hx1⟩ := hx0
  simp only [Prod.mk.injEq] at hA
  obtain ⟨rfl, rfl, rfl, rfl⟩ := hA
  have hlt2 : ¬ ((j : Int) < (a.size : Int)) := by omega
  have hsub : (j : Int) - (a.size : Int) = (t : Int) := by omega
  have hsub2 : wrap64 ((j : Int) - (a.size : Int)) = (t : Int) := by rw [wrap_in (by omega)]; omega
  clear hjt
  go_wp2_with fail
  have q1 := eqSame 1 x e0
  have py0 := cell_regrown pe.1.1.1
  have py1 := cell_regrown pe.1.2.1
  have py2 := cell_regrown pe.2.1
  have d1 : ∀ d os, Calls Try.prog 12 #[.int .i64 x] (Sort.grow (redrawn wc d) os) fun e w'' => e = .returned (.agg #[.int .i64 1, .int .i64 x, .string e0]) ∧ ∃ p : Regrown, w'' = Sort.grow (redrawn wc p.d) p.os := fun d os => Calls.regrown_of (num_any _ _)
  refine wp_region_quiet_below (by kernel_rfl) (by kernel_rfl) ?_
  repeat (first | go_big_quiet_step (with_reducible exact d1 _ _) | quiet_step (with_reducible exact d1 _ _))
  refine wpQuiet_nil ?_
  intro _ hw'
  obtain ⟨⟨dq, osq⟩, hw''⟩ := hw'
  subst hw''
  have hY := below_regrown wc dq osq
  change Exit.then _ _ Exit.normal _ (Sort.grow (redrawn wc dq) osq)
  generalize Sort.grow (redrawn wc dq) osq = Y9 at hY ⊢
  have B9 := B.trans (hY.mono B.size)
  go_wp2
  go_ret
  exact ⟨rfl, B9⟩
end Go.Proofs.Ytfghajokmmlijaa
