import Derived.Test.YtcjnejdemfemfaaGreatDoorCPf
import Derived.Test.YtcjnejdemfemfaaGreatDoorShB
namespace Go.Proofs.YtcjnejdemfemfaaGreatDoor
open Go.RowKit

def lt (s : ByteArray) : Bs := s.data.toList
theorem lt_len (s : ByteArray) : (lt s).length = s.size := (Lib.size_eq s).symm
theorem drop_c (s : ByteArray) (j : Nat) (hj : j < s.size) : (lt s).drop j = (lt s).getD j 0 :: (lt s).drop (j + 1) := by
  have hj' : j < (lt s).length := by rw [lt_len]; exact hj
  rw [List.drop_eq_getElem_cons hj', List.getD_eq_getElem?_getD, List.getElem?_eq_getElem hj']
  rfl
theorem drop_nil (s : ByteArray) (j : Nat) (hj : s.size ≤ j) : (lt s).drop j = [] := List.drop_eq_nil_of_le (by rw [lt_len]; exact hj)
theorem byte_eq (b : UInt8) (n : Nat) (hn : n < 256) : b = UInt8.ofNat n ↔ ((b.toNat : Int) = (n : Int)) := by
  constructor
  · rintro rfl; rw [UInt8.toNat_ofNat']; omega
  · intro h
    apply UInt8.toNat_inj.1
    rw [UInt8.toNat_ofNat']
    omega
theorem b_eq {b : UInt8} {n : Nat} (hn : n < 256) (h : b = UInt8.ofNat n) : ((b.toNat : Int) == (n : Int)) = true := by rw [beq_iff_eq]; exact (byte_eq b n hn).1 h
theorem b_ne {b : UInt8} {n : Nat} (hn : n < 256) (h : ¬ b = UInt8.ofNat n) : ((b.toNat : Int) == (n : Int)) = false := by rw [beq_eq_false_iff_ne]; exact fun e => h ((byte_eq b n hn).2 e)
theorem ix_lt (s : ByteArray) (i : Nat) (hi : i < s.size) : ∀ w : World, (Instr.index 9 (.string s) (.int .i64 (i : Int))).run Tryz.prog w = .ok (.int .u8 (((lt s).getD i 0).toNat : Int)) w := ix_run s i hi
theorem qe_c (c : UInt8) (r : Bs) : qeS (c :: r) = if c = 34 then 1 else if c = 92 then (match r with | [] => 1 | _ :: r' => 2 + qeS r') else 1 + qeS r := by
  rw [qeS.eq_def]
  cases r <;> rfl
set_option maxRecDepth 100000 in
set_option maxHeartbeats 2000000 in
theorem quotesEnd_any (s : ByteArray) (a : Nat) (ha : a < s.size) (hs : s.size ≤ 4611686018427387904) (w : World) :
    Calls Tryz.prog 53 #[.string s, .int .i64 (a : Int)] w fun e w' => e = .returned (.int .i64 ((a + qlS ((lt s).drop a) : Nat) : Int)) ∧ w' = w := by
  have ixa := ix_lt s a ha
  have hq : qlS ((lt s).drop a) = if (lt s).getD a 0 = 34 then 1 + qeS ((lt s).drop (a + 1)) else 0 := by rw [drop_c s a ha]; rfl
  obtain ⟨T, HT⟩ : ∃ T : Nat, Hid (T = a + qlS ((lt s).drop a)) := ⟨_, rfl⟩
  rw [← HT.out]
  have a0 : (0 : Int) ≤ (a : Int) := by omega
  have a1 : (a : Int) < (s.size : Int) := by omega
  by_cases h34 : (lt s).getD a 0 = 34
  case neg =>
    have HE : Hid (T = a) := by show T = a; rw [HT.out, hq, if_neg h34]; rfl
    have b1 := b_ne (n := 34) (by decide) h34
    generalize (lt s).getD a 0 = c at *
    clear hq
    go_enter Tryz.func53, Tryz.ntmps53
    go_wp2
    go_ret
    exact ⟨by rw [HE.out]; rfl, rfl⟩
  have HE : Hid (T = a + 1 + qeS ((lt s).drop (a + 1))) := by show T = _; rw [HT.out, hq, if_pos h34]; omega
  have b1 := b_eq (n := 34) (by decide) h34
  generalize (lt s).getD a 0 = c at *
  clear hq
  have hsi : (s.size : Int) ≤ 4611686018427387904 := by omega
  go_enter Tryz.func53, Tryz.ntmps53
  go_wp2
  go_loopw [1] (fun v wr => ∃ p : Nat, v = .int .i64 (p : Int) ∧ p ≤ s.size + 1 ∧ Hid ((p ≤ s.size ∧ p + qeS ((lt s).drop p) = T) ∨ (p = s.size + 1 ∧ T = s.size)) ∧ wr = w) (fun v _ => s.size + 1 - (intOf v).toNat)
  case atStart => exact ⟨a + 1, by go_num, by omega, .inl ⟨by omega, HE.out.symm⟩, rfl⟩
  case round =>
    obtain ⟨p, rfl, hp, hI, hw⟩ := hrel
    subst wr
    by_cases hlt : p < s.size
    case neg =>
      have HF : Hid (T = s.size) := by
        show T = _
        rcases hI.out with ⟨h1, h2⟩ | ⟨h1, h2⟩
        · rw [drop_nil s p (by omega)] at h2
          have : qeS [] = 0 := rfl
          omega
        · exact h2
      have p1 : ¬ (p : Int) < (s.size : Int) := by omega
      go_wp2
      first | (change bodyPost Tryz.prog Tryz.f53 _ Exit.ret _ _) | (simp only [Exit.noGoto])
      go_ret
      exact ⟨by rw [HF.out]; rfl, rfl⟩
    have ixp := ix_lt s p hlt
    have p0 : (0 : Int) ≤ (p : Int) := by omega
    have p1 : (p : Int) < (s.size : Int) := by omega
    have HJ : Hid (p + qeS ((lt s).getD p 0 :: (lt s).drop (p + 1)) = T) := by
      show _ = _
      rcases hI.out with ⟨h1, h2⟩ | ⟨h1, h2⟩
      · rw [← drop_c s p hlt]; exact h2
      · omega
    by_cases q34 : (lt s).getD p 0 = 34
    · have HF : Hid (T = p + 1) := by
        show T = _
        rw [← HJ.out, qe_c, if_pos q34]
      have c1 := b_eq (n := 34) (by decide) q34
      generalize (lt s).getD p 0 = d at *
      go_wp2
      first | (change bodyPost Tryz.prog Tryz.f53 _ Exit.ret _ _) | (simp only [Exit.noGoto])
      go_ret
      exact ⟨by rw [HF.out]; rfl, rfl⟩
    have c1 := b_ne (n := 34) (by decide) q34
    by_cases q92 : (lt s).getD p 0 = 92
    · have c2 := b_eq (n := 92) (by decide) q92
      have HF : Hid ((p + 2 ≤ s.size ∧ p + 2 + qeS ((lt s).drop (p + 2)) = T) ∨ (p + 2 = s.size + 1 ∧ T = s.size)) := by
        have h1 := HJ.out
        rw [qe_c, if_neg q34, if_pos q92] at h1
        by_cases hl2 : p + 1 < s.size
        · rw [drop_c s (p + 1) hl2] at h1
          exact .inl ⟨by omega, by simp only [Nat.add_assoc] at h1 ⊢; omega⟩
        · rw [drop_nil s (p + 1) (by omega)] at h1
          exact .inr ⟨by omega, by simp only at h1; omega⟩
      generalize (lt s).getD p 0 = d at *
      go_wp2
      exact ⟨⟨p + 2, by go_num, by omega, HF, trivial⟩, by simp [intOf]; omega⟩
    · have c2 := b_ne (n := 92) (by decide) q92
      have HF : Hid ((p + 1 ≤ s.size ∧ p + 1 + qeS ((lt s).drop (p + 1)) = T) ∨ (p + 1 = s.size + 1 ∧ T = s.size)) := by
        have h1 := HJ.out
        rw [qe_c, if_neg q34, if_neg q92] at h1
        exact .inl ⟨by omega, by omega⟩
      generalize (lt s).getD p 0 = d at *
      go_wp2
      exact ⟨⟨p + 1, by go_num, by omega, HF, trivial⟩, by simp [intOf]; omega⟩
def tyC : List Value := tyT.map fun s => Value.string s
theorem ty_range {w : World} (h : Tabs w) : w.rangeAt 4 0 tyC := by
  intro j v hv
  have hj : j < 20 := by have := (List.getElem?_eq_some_iff.1 hv).1; simpa [tyC, tyT] using this
  rw [Nat.zero_add, h.typ j hj]
  have hj' : j < tyT.length := by simpa [tyT] using hj
  simp only [tyC, List.getElem?_map, List.getElem?_eq_getElem hj', Option.map_some, Option.some.injEq] at hv
  rw [← hv, List.getD_eq_getElem?_getD, List.getElem?_eq_getElem hj']
  rfl
theorem tyInfo : (Tryz.prog.info? 140).map (·.size) = some tyC.length := by kernel_rfl
set_option maxRecDepth 100000 in
theorem ty_idx (k : Nat) (hk : k < 20) : ∀ w : World, (Instr.index 140 (.agg tyC.toArray) (.int .i64 (k : Int))).run Tryz.prog w = .ok (.string (tyT.getD k e0)) w := by
  have h : k = 0 ∨ k = 1 ∨ k = 2 ∨ k = 3 ∨ k = 4 ∨ k = 5 ∨ k = 6 ∨ k = 7 ∨ k = 8 ∨ k = 9 ∨ k = 10 ∨ k = 11 ∨ k = 12 ∨ k = 13 ∨ k = 14 ∨ k = 15 ∨ k = 16 ∨ k = 17 ∨ k = 18 ∨ k = 19 := by omega
  rcases h with rfl | rfl | rfl | rfl | rfl | rfl | rfl | rfl | rfl | rfl | rfl | rfl | rfl | rfl | rfl | rfl | rfl | rfl | rfl | rfl
  all_goals exact fun w => by kernel_rfl
set_option maxRecDepth 100000 in
set_option maxHeartbeats 1000000 in
theorem readSort_any (s : ByteArray) (w : World) (ht : Tabs w) : Calls Tryz.prog 90 #[.string s] w fun e w' => e = .returned (.int .i64 (rdSort (lt s))) ∧ w' = w := by
  obtain ⟨R, HR⟩ : ∃ R, Hid (R = rdSort (lt s)) := ⟨_, rfl⟩
  rw [← HR.out]
  have HRg : Hid (w.rangeAt 4 0 tyC) := ty_range ht
  clear ht
  go_enter Tryz.func90, Tryz.ntmps90
  go_wp2_with (first | (refine wpList_load_mid (by rfl) 140 (.global 4) (by rfl) 4 0 (by rfl) tyC _ HRg.out Tryz.underlying140 (by rfl) tyInfo ?_) | go_in)
  go_loop [6] (fun i => ∃ k : Nat, k ≤ 20 ∧ i = .int .i64 (k : Int) ∧ Hid (seekT (lt s) (20 - k) k = R)) (fun i => 20 - (intOf i).toNat)
  case atStart => exact ⟨0, by omega, rfl, HR.out.symm⟩
  case round =>
    obtain ⟨k, hk, rfl, hn⟩ := hrel
    by_cases hlt : k < 20
    · have hi := ty_idx k hlt
      have HS : Hid ((if (tyT.getD k e0).data.toList = lt s then (k : Int) else seekT (lt s) (20 - (k + 1)) (k + 1)) = R) := by
        have h := hn.out
        rw [show 20 - k = (20 - (k + 1)) + 1 by omega, seekT] at h
        exact h
      generalize tyT.getD k e0 = x at *
      by_cases hx : x.data.toList = lt s
      · have hx1 : (x.toList == s.toList) = true := by rw [toL, toL, hx]; simp [lt]
        rw [if_pos hx] at HS
        go_wp2
        first | (change bodyPost Tryz.prog Tryz.f90 _ Exit.ret _ _) | (simp only [Exit.noGoto]) | skip
        go_ret
        exact ⟨by rw [← HS.out]; rfl, rfl⟩
      · have hx1 : (x.toList == s.toList) = false := by rw [toL, toL, beq_eq_false_iff_ne]; exact hx
        rw [if_neg hx] at HS
        go_wp2
        exact ⟨⟨k + 1, by omega, by go_num, HS⟩, by simp [intOf]; omega⟩
    · obtain rfl : k = 20 := by omega
      have HF : Hid (R = 0) := by have h := hn.out; exact h.symm
      go_wp2
      first | (change bodyPost Tryz.prog Tryz.f90 _ Exit.ret _ _) | (simp only [Exit.noGoto]) | skip
      go_ret
      exact ⟨by rw [HF.out]; rfl, rfl⟩
end Go.Proofs.YtcjnejdemfemfaaGreatDoor
namespace Go.Proofs.YtcjnejdemfemfaaGreatDoor
open Go.RowKit

/-- What firstPiece answers: the byte and the length, or zeros. -/
def fpV (o : Option (UInt8 × Nat)) : Value := match o with | some (b, n) => .tuple #[.int .u8 (b.toNat : Int), .int .i64 (n : Int)] | none => .tuple #[.int .u8 0, .int .i64 0]
def nibI (c : UInt8) : Int := match nib c with | some n => (n : Int) | none => -1
theorem idx_nib : ∀ c : Fin 256, Lib.indexByte [48, 49, 50, 51, 52, 53, 54, 55, 56, 57, 97, 98, 99, 100, 101, 102] (UInt8.ofNat c.val) = nibI (UInt8.ofNat c.val) := by decide +kernel
theorem nib_any (c : UInt8) (w : World) : Calls Tryz.prog 106 #[.string ⟨#[48, 49, 50, 51, 52, 53, 54, 55, 56, 57, 97, 98, 99, 100, 101, 102]⟩, .int .u8 (c.toNat : Int)] w fun e w' => e = .returned (.int .i64 (nibI c)) ∧ w' = w := by
  have h := Tryz.strings_IndexByte ⟨#[48, 49, 50, 51, 52, 53, 54, 55, 56, 57, 97, 98, 99, 100, 101, 102]⟩ (c.toNat : Int) w
  have e := idx_nib ⟨c.toNat, c.toNat_lt⟩
  simp only [UInt8.ofNat_toNat] at e
  have e2 : ((c.toNat : Int)).toNat.toUInt8 = c := by rw [Int.toNat_natCast]; exact UInt8.ofNat_toNat
  rw [e2] at h
  have e3 : (⟨#[48, 49, 50, 51, 52, 53, 54, 55, 56, 57, 97, 98, 99, 100, 101, 102]⟩ : ByteArray).data.toList = [48, 49, 50, 51, 52, 53, 54, 55, 56, 57, 97, 98, 99, 100, 101, 102] := rfl
  rw [e3, e] at h
  exact h
theorem nib_lt {c : UInt8} {n : Nat} (h : nib c = some n) : n < 16 := by
  have hc := c.toNat_lt
  unfold nib at h
  split at h
  · cases h; omega
  split at h
  · cases h; omega
  · cases h
theorem hexOr : ∀ a b : Fin 16, bits BinOp.or IntKind.i64 (((a.val : Nat) : Int) * 16) ((b.val : Nat) : Int) % 256 = ((16 * a.val + b.val : Nat) : Int) := by decide +kernel
theorem pre2 (c d : UInt8) (q : Bs) (x : UInt8) : Lib.hasPrefix (c :: d :: q) [92, x] = (c == 92 && d == x) := by
  unfold Lib.hasPrefix
  simp [List.isPrefixOf]
  rw [Bool.eq_iff_iff]
  simp
  constructor <;> (rintro ⟨a, b⟩; exact ⟨a.symm, b.symm⟩)
theorem pre1 (c : UInt8) (x : UInt8) : Lib.hasPrefix [c] [92, x] = false := by
  unfold Lib.hasPrefix
  simp [List.isPrefixOf]
end Go.Proofs.YtcjnejdemfemfaaGreatDoor
namespace Go.Proofs.YtcjnejdemfemfaaGreatDoor
open Go.RowKit

theorem plain_any (b : UInt8) (w : World) : Calls Tryz.prog 104 #[.int .u8 (b.toNat : Int)] w fun e w' => e = .returned (.bool (decide (32 ≤ b.toNat ∧ b.toNat ≤ 126))) ∧ w' = w := by
  have hb := b.toNat_lt
  generalize b.toNat = n at *
  go_enter Tryz.func104, Tryz.ntmps104
  by_cases h1 : 32 ≤ n
  · go_wp2
    go_ret
    refine ⟨ret_bool ?_, rfl⟩
    simp
    try omega
  · go_wp2
    go_ret
    refine ⟨ret_bool ?_, rfl⟩
    simp
    try omega
theorem pref_v (s : ByteArray) (x : UInt8) (p : ByteArray) (hp : p.data.toList = [92, x]) (b : Bool) (hb : Lib.hasPrefix (lt s) [92, x] = b) (w : World) : Calls Tryz.prog 105 #[.string s, .string p] w fun e w' => e = .returned (.bool b) ∧ w' = w := by
  have h := Tryz.strings_HasPrefix s p w
  rw [hp] at h
  have e : Lib.hasPrefix s.data.toList [92, x] = b := hb
  rw [e] at h
  exact h
set_option maxRecDepth 100000 in
set_option maxHeartbeats 4000000 in
theorem firstPiece_any (s : ByteArray) (h0 : 0 < s.size) (hs : s.size ≤ 9223372036854775807) (w : World) : Calls Tryz.prog 89 #[.string s] w fun e w' => e = .returned (fpV (fpS (lt s))) ∧ w' = w := by
  obtain ⟨R, HR⟩ : ∃ R, Hid (R = fpV (fpS (lt s))) := ⟨_, rfl⟩
  rw [← HR.out]
  have hd : lt s = (lt s).getD 0 0 :: (lt s).drop 1 := by have := drop_c s 0 h0; simpa using this
  have ix0 : ∀ w : World, (Instr.index 9 (.string s) (.int .i64 0)).run Tryz.prog w = .ok (.int .u8 (((lt s).getD 0 0).toNat : Int)) w := ix_lt s 0 h0
  have z0 : (0 : Int) < (s.size : Int) := by omega
  have hz : (s.size : Int) ≤ 9223372036854775807 := by omega
  by_cases h92 : (lt s).getD 0 0 = 92
  case neg =>
    have b1 := b_ne (n := 92) (by decide) h92
    have np := fun W => plain_any ((lt s).getD 0 0) W
    by_cases hp : 32 ≤ ((lt s).getD 0 0).toNat ∧ ((lt s).getD 0 0).toNat ≤ 126
    · have HE : Hid (R = .tuple #[.int .u8 (((lt s).getD 0 0).toNat : Int), .int .i64 1]) := by
        show R = _
        rw [HR.out, hd]
        unfold fpS
        simp only
        rw [if_pos h92, if_pos hp]
        rfl
      rw [decide_eq_true hp] at np
      clear hd HR hp
      generalize (lt s).getD 0 0 = c at *
      go_enter Tryz.func89, Tryz.ntmps89
      go_wp2_with fail
      refine (np _).mono ?_
      rintro e w1 ⟨rfl, hw⟩
      subst w1
      go_wp2
      exact bodyPost_ret (v := .tuple #[.int .u8 (c.toNat : Int), .int .i64 1]) (by simp [results, Tryz.results89, go_sem]) rfl ⟨by rw [HE.out], rfl⟩
    · have HE : Hid (R = .tuple #[.int .u8 0, .int .i64 0]) := by
        show R = _
        rw [HR.out, hd]
        unfold fpS
        simp only
        rw [if_pos h92, if_neg hp]
        rfl
      rw [decide_eq_false hp] at np
      clear hd HR hp
      generalize (lt s).getD 0 0 = c at *
      go_enter Tryz.func89, Tryz.ntmps89
      go_wp2_with fail
      refine (np _).mono ?_
      rintro e w1 ⟨rfl, hw⟩
      subst w1
      go_wp2
      exact bodyPost_ret (v := .tuple #[.int .u8 0, .int .i64 0]) (by simp [results, Tryz.results89, go_sem]) rfl ⟨by rw [HE.out], rfl⟩
  have b1 := b_eq (n := 92) (by decide) h92
  rw [h92] at hd ix0
  clear h92 b1
  by_cases h1 : s.size = 1
  · have hn : (lt s).drop 1 = [] := drop_nil s 1 (by omega)
    rw [hn] at hd
    have HE : Hid (R = .tuple #[.int .u8 0, .int .i64 0]) := by
      show R = _
      rw [HR.out, hd]
      rfl
    have p1 := fun W => pref_v s 110 ⟨#[92, 110]⟩ rfl false (by rw [hd]; exact pre1 _ _) W
    have p2 := fun W => pref_v s 34 ⟨#[92, 34]⟩ rfl false (by rw [hd]; exact pre1 _ _) W
    have p3 := fun W => pref_v s 92 ⟨#[92, 92]⟩ rfl false (by rw [hd]; exact pre1 _ _) W
    have p4 := fun W => pref_v s 120 ⟨#[92, 120]⟩ rfl false (by rw [hd]; exact pre1 _ _) W
    clear hd HR hn h1
    go_enter Tryz.func89, Tryz.ntmps89
    go_wp2_with fail
    refine (p1 _).mono ?_
    rintro e w1 ⟨rfl, hw⟩
    subst w1
    go_wp2_with fail
    refine (p2 _).mono ?_
    rintro e w1 ⟨rfl, hw⟩
    subst w1
    go_wp2_with fail
    refine (p3 _).mono ?_
    rintro e w1 ⟨rfl, hw⟩
    subst w1
    go_wp2_with fail
    refine (p4 _).mono ?_
    rintro e w1 ⟨rfl, hw⟩
    subst w1
    go_wp2
    exact bodyPost_ret (v := .tuple #[.int .u8 0, .int .i64 0]) (by simp [results, Tryz.results89, go_sem]) rfl ⟨by rw [HE.out], rfl⟩
  have h2 : 1 < s.size := by omega
  have hd1 := drop_c s 1 h2
  rw [hd1] at hd
  have ix1 : ∀ w : World, (Instr.index 9 (.string s) (.int .i64 1)).run Tryz.prog w = .ok (.int .u8 (((lt s).getD 1 0).toNat : Int)) w := ix_lt s 1 h2
  have z1 : (1 : Int) < (s.size : Int) := by omega
  have hcc : (92 : UInt8) :: (lt s).getD 1 0 :: (lt s).drop 2 = lt s := hd.symm
  have p1 := fun W => pref_v s 110 ⟨#[92, 110]⟩ rfl ((lt s).getD 1 0 == 110) (by rw [← hcc, pre2]; simp) W
  have p2 := fun W => pref_v s 34 ⟨#[92, 34]⟩ rfl ((lt s).getD 1 0 == 34) (by rw [← hcc, pre2]; simp) W
  have p3 := fun W => pref_v s 92 ⟨#[92, 92]⟩ rfl ((lt s).getD 1 0 == 92) (by rw [← hcc, pre2]; simp) W
  have p4 := fun W => pref_v s 120 ⟨#[92, 120]⟩ rfl ((lt s).getD 1 0 == 120) (by rw [← hcc, pre2]; simp) W
  have HF : Hid (fpS (lt s) = if (lt s).getD 1 0 = 110 then some (10, 2) else if (lt s).getD 1 0 = 34 ∨ (lt s).getD 1 0 = 92 then some ((lt s).getD 1 0, 2) else if (lt s).getD 1 0 = 120 then (match (lt s).drop 2 with | x :: y :: _ => (match nib x, nib y with | some h, some l => some (UInt8.ofNat (16 * h + l), 4) | _, _ => none) | _ => none) else none) := by
    show _ = _
    conv => lhs; rw [← hcc]
    rfl
  have hdr2 := drop_c s 2
  have hdr3 := drop_c s 3
  have hn2 := drop_nil s 2
  have hn3 := drop_nil s 3
  have ix2 : 2 < s.size → ∀ w : World, (Instr.index 9 (.string s) (.int .i64 2)).run Tryz.prog w = .ok (.int .u8 (((lt s).getD 2 0).toNat : Int)) w := fun h => ix_lt s 2 h
  have ix3 : 3 < s.size → ∀ w : World, (Instr.index 9 (.string s) (.int .i64 3)).run Tryz.prog w = .ok (.int .u8 (((lt s).getD 3 0).toNat : Int)) w := fun h => ix_lt s 3 h
  clear hd hd1 hcc h1
  generalize (lt s).getD 1 0 = d at *
  by_cases d110 : d = 110
  · subst d110
    have HE : Hid (R = .tuple #[.int .u8 10, .int .i64 2]) := by
      show R = _
      rw [HR.out, HF.out]
      rfl
    clear HF HR hdr2 hdr3 hn2 hn3 ix2 ix3 p2 p3 p4
    have p1' : ∀ W : World, Calls Tryz.prog 105 #[.string s, .string ⟨#[92, 110]⟩] W fun e w' => e = .returned (.bool true) ∧ w' = W := p1
    clear p1
    go_enter Tryz.func89, Tryz.ntmps89
    go_wp2_with fail
    refine (p1' _).mono ?_
    rintro e w1 ⟨rfl, hw⟩
    subst w1
    go_wp2
    exact bodyPost_ret (v := .tuple #[.int .u8 10, .int .i64 2]) (by simp [results, Tryz.results89, go_sem]) rfl ⟨by rw [HE.out], rfl⟩
  rw [beq_false_of_ne d110] at p1
  by_cases d34 : d = 34
  · subst d34
    have HE : Hid (R = .tuple #[.int .u8 34, .int .i64 2]) := by
      show R = _
      rw [HR.out, HF.out]
      rfl
    clear HF HR hdr2 hdr3 hn2 hn3 ix2 ix3 p3 p4 d110
    have p2' : ∀ W : World, Calls Tryz.prog 105 #[.string s, .string ⟨#[92, 34]⟩] W fun e w' => e = .returned (.bool true) ∧ w' = W := p2
    clear p2
    go_enter Tryz.func89, Tryz.ntmps89
    go_wp2_with fail
    refine (p1 _).mono ?_
    rintro e w1 ⟨rfl, hw⟩
    subst w1
    go_wp2_with fail
    refine (p2' _).mono ?_
    rintro e w1 ⟨rfl, hw⟩
    subst w1
    go_wp2
    exact bodyPost_ret (v := .tuple #[.int .u8 34, .int .i64 2]) (by simp [results, Tryz.results89, go_sem]) rfl ⟨by rw [HE.out], rfl⟩
  rw [beq_false_of_ne d34] at p2
  by_cases d92 : d = 92
  · subst d92
    have HE : Hid (R = .tuple #[.int .u8 92, .int .i64 2]) := by
      show R = _
      rw [HR.out, HF.out]
      rfl
    clear HF HR hdr2 hdr3 hn2 hn3 ix2 ix3 p4 d110 d34
    have p3' : ∀ W : World, Calls Tryz.prog 105 #[.string s, .string ⟨#[92, 92]⟩] W fun e w' => e = .returned (.bool true) ∧ w' = W := p3
    clear p3
    go_enter Tryz.func89, Tryz.ntmps89
    go_wp2_with fail
    refine (p1 _).mono ?_
    rintro e w1 ⟨rfl, hw⟩
    subst w1
    go_wp2_with fail
    refine (p2 _).mono ?_
    rintro e w1 ⟨rfl, hw⟩
    subst w1
    go_wp2_with fail
    refine (p3' _).mono ?_
    rintro e w1 ⟨rfl, hw⟩
    subst w1
    go_wp2
    exact bodyPost_ret (v := .tuple #[.int .u8 92, .int .i64 2]) (by simp [results, Tryz.results89, go_sem]) rfl ⟨by rw [HE.out], rfl⟩
  rw [beq_false_of_ne d92] at p3
  have HF2 : Hid (fpS (lt s) = if d = 120 then (match (lt s).drop 2 with | x :: y :: _ => (match nib x, nib y with | some h, some l => some (UInt8.ofNat (16 * h + l), 4) | _, _ => none) | _ => none) else none) := by
    show _ = _
    rw [HF.out, if_neg d110, if_neg (by rintro (q | q); exact d34 q; exact d92 q)]
  clear HF ix1
  by_cases d120 : d = 120
  case neg =>
    have HE : Hid (R = .tuple #[.int .u8 0, .int .i64 0]) := by
      show R = _
      rw [HR.out, HF2.out, if_neg d120]
      rfl
    rw [beq_false_of_ne d120] at p4
    clear HF2 HR hdr2 hdr3 hn2 hn3 ix2 ix3 d110 d34 d92 d120
    go_enter Tryz.func89, Tryz.ntmps89
    go_wp2_with fail
    refine (p1 _).mono ?_
    rintro e w1 ⟨rfl, hw⟩
    subst w1
    go_wp2_with fail
    refine (p2 _).mono ?_
    rintro e w1 ⟨rfl, hw⟩
    subst w1
    go_wp2_with fail
    refine (p3 _).mono ?_
    rintro e w1 ⟨rfl, hw⟩
    subst w1
    go_wp2_with fail
    refine (p4 _).mono ?_
    rintro e w1 ⟨rfl, hw⟩
    subst w1
    go_wp2
    exact bodyPost_ret (v := .tuple #[.int .u8 0, .int .i64 0]) (by simp [results, Tryz.results89, go_sem]) rfl ⟨by rw [HE.out], rfl⟩
  subst d120
  have p4' : ∀ W : World, Calls Tryz.prog 105 #[.string s, .string ⟨#[92, 120]⟩] W fun e w' => e = .returned (.bool true) ∧ w' = W := p4
  clear p4 d110 d34 d92
  rw [if_pos rfl] at HF2
  by_cases h4 : 4 ≤ s.size
  case neg =>
    have HE : Hid (R = .tuple #[.int .u8 0, .int .i64 0]) := by
      show R = _
      rw [HR.out, HF2.out]
      by_cases h3 : 2 < s.size
      · rw [hdr2 h3, hn3 (by omega)]; rfl
      · rw [hn2 (by omega)]; rfl
    have z4 : ¬ (4 : Int) ≤ (s.size : Int) := by omega
    clear HF2 HR hdr2 hdr3 hn2 hn3 ix2 ix3
    go_enter Tryz.func89, Tryz.ntmps89
    go_wp2_with fail
    refine (p1 _).mono ?_
    rintro e w1 ⟨rfl, hw⟩
    subst w1
    go_wp2_with fail
    refine (p2 _).mono ?_
    rintro e w1 ⟨rfl, hw⟩
    subst w1
    go_wp2_with fail
    refine (p3 _).mono ?_
    rintro e w1 ⟨rfl, hw⟩
    subst w1
    go_wp2_with fail
    refine (p4' _).mono ?_
    rintro e w1 ⟨rfl, hw⟩
    subst w1
    go_wp2
    exact bodyPost_ret (v := .tuple #[.int .u8 0, .int .i64 0]) (by simp [results, Tryz.results89, go_sem]) rfl ⟨by rw [HE.out], rfl⟩
  have z4 : (4 : Int) ≤ (s.size : Int) := by omega
  have i2 := ix2 (by omega)
  have i3 := ix3 (by omega)
  rw [hdr2 (by omega), hdr3 (by omega)] at HF2
  have n2 := fun W => nib_any ((lt s).getD 2 0) W
  have n3 := fun W => nib_any ((lt s).getD 3 0) W
  clear hdr2 hdr3 hn2 hn3 ix2 ix3
  generalize (lt s).getD 2 0 = x at *
  generalize (lt s).getD 3 0 = y at *
  unfold nibI at n2 n3
  cases hx : nib x with
  | none =>
    have HE : Hid (R = .tuple #[.int .u8 0, .int .i64 0]) := by
      show R = _
      rw [HR.out, HF2.out]
      simp only [hx]
      rfl
    rw [hx] at n2
    simp only at n2
    clear HF2 HR
    have n3' : ∃ v : Int, ∀ W : World, Calls Tryz.prog 106 #[.string ⟨#[48, 49, 50, 51, 52, 53, 54, 55, 56, 57, 97, 98, 99, 100, 101, 102]⟩, .int .u8 (y.toNat : Int)] W fun e w' => e = .returned (.int .i64 v) ∧ w' = W := ⟨_, n3⟩
    obtain ⟨v3, n3'⟩ := n3'
    clear n3
    go_enter Tryz.func89, Tryz.ntmps89
    go_wp2_with fail
    refine (p1 _).mono ?_
    rintro e w1 ⟨rfl, hw⟩
    subst w1
    go_wp2_with fail
    refine (p2 _).mono ?_
    rintro e w1 ⟨rfl, hw⟩
    subst w1
    go_wp2_with fail
    refine (p3 _).mono ?_
    rintro e w1 ⟨rfl, hw⟩
    subst w1
    go_wp2_with fail
    refine (p4' _).mono ?_
    rintro e w1 ⟨rfl, hw⟩
    subst w1
    go_wp2_with fail
    refine (n2 _).mono ?_
    rintro e w1 ⟨rfl, hw⟩
    subst w1
    go_wp2_with fail
    refine (n3' _).mono ?_
    rintro e w1 ⟨rfl, hw⟩
    subst w1
    go_wp2
    exact bodyPost_ret (v := .tuple #[.int .u8 0, .int .i64 0]) (by simp [results, Tryz.results89, go_sem]) rfl ⟨by rw [HE.out], rfl⟩
  | some a =>
    have ha := nib_lt hx
    rw [hx] at n2
    simp only at n2
    cases hy : nib y with
    | none =>
      have HE : Hid (R = .tuple #[.int .u8 0, .int .i64 0]) := by
        show R = _
        rw [HR.out, HF2.out]
        simp only [hx, hy]
        rfl
      rw [hy] at n3
      simp only at n3
      clear HF2 HR
      have a0 : (0 : Int) ≤ (a : Int) := by omega
      go_enter Tryz.func89, Tryz.ntmps89
      go_wp2_with fail
      refine (p1 _).mono ?_
      rintro e w1 ⟨rfl, hw⟩
      subst w1
      go_wp2_with fail
      refine (p2 _).mono ?_
      rintro e w1 ⟨rfl, hw⟩
      subst w1
      go_wp2_with fail
      refine (p3 _).mono ?_
      rintro e w1 ⟨rfl, hw⟩
      subst w1
      go_wp2_with fail
      refine (p4' _).mono ?_
      rintro e w1 ⟨rfl, hw⟩
      subst w1
      go_wp2_with fail
      refine (n2 _).mono ?_
      rintro e w1 ⟨rfl, hw⟩
      subst w1
      go_wp2_with fail
      refine (n3 _).mono ?_
      rintro e w1 ⟨rfl, hw⟩
      subst w1
      go_wp2
      exact bodyPost_ret (v := .tuple #[.int .u8 0, .int .i64 0]) (by simp [results, Tryz.results89, go_sem]) rfl ⟨by rw [HE.out], rfl⟩
    | some b =>
      have hb := nib_lt hy
      have HE : Hid (R = .tuple #[.int .u8 ((16 * a + b : Nat) : Int), .int .i64 4]) := by
        show R = _
        rw [HR.out, HF2.out]
        simp only [hx, hy]
        show Value.tuple #[.int .u8 ((UInt8.ofNat (16 * a + b)).toNat : Int), .int .i64 4] = _
        rw [UInt8.toNat_ofNat', Nat.mod_eq_of_lt (by omega)]
      rw [hy] at n3
      simp only at n3
      have hor := hexOr ⟨a, ha⟩ ⟨b, hb⟩
      simp only at hor
      clear HF2 HR
      have a0 : (0 : Int) ≤ (a : Int) := by omega
      have c0 : (0 : Int) ≤ (b : Int) := by omega
      generalize ((16 * a + b : Nat) : Int) = V at *
      have HOR : Hid (bits BinOp.or IntKind.i64 ((a : Int) * 16) (b : Int) % 256 = V) := hor
      clear hor
      go_enter Tryz.func89, Tryz.ntmps89
      go_wp2_with fail
      refine (p1 _).mono ?_
      rintro e w1 ⟨rfl, hw⟩
      subst w1
      go_wp2_with fail
      refine (p2 _).mono ?_
      rintro e w1 ⟨rfl, hw⟩
      subst w1
      go_wp2_with fail
      refine (p3 _).mono ?_
      rintro e w1 ⟨rfl, hw⟩
      subst w1
      go_wp2_with fail
      refine (p4' _).mono ?_
      rintro e w1 ⟨rfl, hw⟩
      subst w1
      go_wp2_with fail
      refine (n2 _).mono ?_
      rintro e w1 ⟨rfl, hw⟩
      subst w1
      go_wp2_with fail
      refine (n3 _).mono ?_
      rintro e w1 ⟨rfl, hw⟩
      subst w1
      go_wp2
      refine bodyPost_ret (v := .tuple #[.int .u8 V, .int .i64 4]) ?_ rfl ⟨by rw [HE.out], rfl⟩
      rw [← HOR.out]
      simp [results, Tryz.results89, go_sem]
end Go.Proofs.YtcjnejdemfemfaaGreatDoor
namespace Go.Proofs.YtcjnejdemfemfaaGreatDoor
open Go.RowKit

theorem fp_len {l : Bs} {b : UInt8} {n : Nat} (h : fpS l = some (b, n)) : 1 ≤ n ∧ n ≤ l.length ∧ n ≤ 4 := by
  unfold fpS at h
  split at h
  · cases h
  split at h
  · split at h
    · cases h; simp
    · cases h
  split at h
  · cases h
  split at h
  · cases h; simp
  split at h
  · cases h; simp
  split at h
  · split at h
    · split at h
      · cases h; simp
      · cases h
    · cases h
  · cases h
theorem qdF_c (f : Nat) (acc : Bs) (c : UInt8) (r : Bs) : qdF (f + 1) acc (c :: r) = if c = 34 then (if r = [] then some acc else none) else match fpS (c :: r) with | some (b, n) => if acc.length = 200 then none else qdF f (acc ++ [b]) ((c :: r).drop n) | none => none := by
  rw [qdF]
  rfl
theorem cut_lt (s : ByteArray) (p : Nat) : s.extract p s.size = YtcjnejdemfemfaaGreatDoor.bk ((lt s).drop p) := by
  have := bk_rest (lt s) p
  have e : YtcjnejdemfemfaaGreatDoor.bk (lt s) = s := bk_all s
  rw [e] at this
  exact this
set_option maxRecDepth 100000 in
set_option maxHeartbeats 4000000 in
theorem readQuoted_any (s : ByteArray) (h0 : 0 < s.size) (hs : s.size ≤ 4611686018427387904) (w : World) : Calls Tryz.prog 72 #[.string s] w fun e w' => ∃ t' : ByteArray, e = .returned (.tuple #[.string t', .bool (qdS (lt s)).isSome]) ∧ Hid ((∀ t, qdS (lt s) = some t → t' = YtcjnejdemfemfaaGreatDoor.bk t) ∧ Below w.heap.size w w') := by
  obtain ⟨R, HR⟩ : ∃ R, Hid (R = qdS (lt s)) := ⟨_, rfl⟩
  rw [← HR.out]
  obtain ⟨B, HBo⟩ : ∃ B : Bool, Hid (B = R.isSome) := ⟨_, rfl⟩
  rw [← HBo.out]
  have hd : lt s = (lt s).getD 0 0 :: (lt s).drop 1 := by have := drop_c s 0 h0; simpa using this
  have ix0 : ∀ w : World, (Instr.index 9 (.string s) (.int .i64 0)).run Tryz.prog w = .ok (.int .u8 (((lt s).getD 0 0).toNat : Int)) w := ix_lt s 0 h0
  have z0 : (0 : Int) < (s.size : Int) := by omega
  have hz : (s.size : Int) ≤ 4611686018427387904 := by omega
  have HQ : Hid (R = if (lt s).getD 0 0 = 34 then qdF (((lt s).drop 1).length + 1) [] ((lt s).drop 1) else none) := by
    show R = _
    rw [HR.out]
    conv => lhs; rw [hd]
    rfl
  clear hd HR
  by_cases h34 : (lt s).getD 0 0 = 34
  case neg =>
    have HN : Hid (R = none) := by show R = none; rw [HQ.out, if_neg h34]
    have hBf : B = false := by rw [HBo.out, HN.out]; rfl
    have b1 := b_ne (n := 34) (by decide) h34
    generalize (lt s).getD 0 0 = c at *
    subst hBf
    clear HQ
    go_enter Tryz.func72, Tryz.ntmps72
    go_wp2
    refine bodyPost_ret (v := .tuple #[.string e0, .bool false]) (by simp [results, Tryz.results72, go_sem]) rfl ⟨e0, rfl, ?_, Below.refl _ _⟩
    intro t ht
    rw [HN.out] at ht
    cases ht
  rw [if_pos h34] at HQ
  have b1 := b_eq (n := 34) (by decide) h34
  have hdl : ((lt s).drop 1).length = s.size - 1 := by rw [List.length_drop, lt_len]
  generalize (lt s).getD 0 0 = c at *
  go_enter Tryz.func72, Tryz.ntmps72
  go_wp2
  go_loopw [4, 5] (fun v i wr => ∃ (p f : Nat) (acc : Bs), i = .int .i64 (p : Int) ∧ 1 ≤ p ∧ p ≤ s.size ∧ s.size - p < f ∧ acc.length ≤ 200 ∧ Hid (qdF f acc ((lt s).drop p) = R) ∧ Hid (wr.ownsRow w.heap.size 5 1 v acc.length (bv acc)) ∧ Hid (Below w.heap.size w wr)) (fun _ i _ => s.size - (intOf i).toNat)
  case atStart => exact ⟨1, ((lt s).drop 1).length + 1, [], rfl, Nat.le_refl _, by omega, by omega, by simp, HQ.out.symm, World.ownsRow_nil _ _ _ _, Below.refl _ _⟩
  case round =>
    obtain ⟨p, f, acc, rfl, hp1, hp2, hf, hacc, hI, hO, hB⟩ := hrel
    obtain ⟨qb, cb, rfl, -, -⟩ := own_slice hO.out
    clear HQ hdl
    by_cases hlt : p < s.size
    case neg =>
      have hpe : p = s.size := by omega
      have HN : Hid (R = none) := by
        show R = none
        rw [← hI.out, drop_nil s p (by omega)]
        cases f <;> rfl
      have hBf : B = false := by rw [HBo.out, HN.out]; rfl
      have p1 : ¬ (p : Int) < (s.size : Int) := by omega
      have hcv := conv_own hO.out
      have ks : (p : Int) = (s.size : Int) := by omega
      have kq : ((p : Int) == (s.size : Int) - 1) = false := by rw [beq_eq_false_iff_ne]; omega
      subst hBf
      clear hpe ks hI
      go_wp2
      first | (change bodyPost Tryz.prog Tryz.f72 _ Exit.ret _ _) | (simp only [Exit.noGoto])
      refine bodyPost_ret (v := .tuple #[.string (YtcjnejdemfemfaaGreatDoor.bk acc), .bool false]) (by simp [results, Tryz.results72, go_sem, YtcjnejdemfemfaaGreatDoor.bk]) rfl ⟨YtcjnejdemfemfaaGreatDoor.bk acc, rfl, ?_, hB.out⟩
      intro t ht
      rw [HN.out] at ht
      cases ht
    have ixp := ix_lt s p hlt
    have p0 : (0 : Int) ≤ (p : Int) := by omega
    have p1 : (p : Int) < (s.size : Int) := by omega
    obtain ⟨f', rfl⟩ : ∃ f', f = f' + 1 := ⟨f - 1, by omega⟩
    have hdc := drop_c s p hlt
    have HJ : Hid (R = if (lt s).getD p 0 = 34 then (if (lt s).drop (p + 1) = [] then some acc else none) else match fpS ((lt s).drop p) with | some (b, n) => if acc.length = 200 then none else qdF f' (acc ++ [b]) ((lt s).drop (p + n)) | none => none) := by
      show R = _
      rw [← hI.out, hdc, qdF_c, ← hdc]
      simp only [List.drop_drop]
    clear hI
    by_cases q34 : (lt s).getD p 0 = 34
    · rw [if_pos q34] at HJ
      have c1 := b_eq (n := 34) (by decide) q34
      have hcv := conv_own hO.out
      clear hdc
      by_cases hend : p + 1 = s.size
      · have HN : Hid (R = some acc) := by show R = _; rw [HJ.out, if_pos (drop_nil s _ (by omega))]
        have hBf : B = true := by rw [HBo.out, HN.out]; rfl
        have kq : ((p : Int) == (s.size : Int) - 1) = true := by rw [beq_iff_eq]; omega
        subst hBf
        clear HJ hend
        generalize (lt s).getD p 0 = d at *
        go_wp2
        first | (change bodyPost Tryz.prog Tryz.f72 _ Exit.ret _ _) | (simp only [Exit.noGoto])
        refine bodyPost_ret (v := .tuple #[.string (YtcjnejdemfemfaaGreatDoor.bk acc), .bool true]) (by simp [results, Tryz.results72, go_sem, YtcjnejdemfemfaaGreatDoor.bk]) rfl ⟨YtcjnejdemfemfaaGreatDoor.bk acc, rfl, ?_, hB.out⟩
        intro t ht
        rw [HN.out] at ht
        cases ht
        rfl
      · have HN : Hid (R = none) := by
          show R = _
          rw [HJ.out, if_neg]
          intro e
          have := congrArg List.length e
          rw [List.length_drop, lt_len] at this
          simp only [List.length_nil] at this
          omega
        have hBf : B = false := by rw [HBo.out, HN.out]; rfl
        have kq : ((p : Int) == (s.size : Int) - 1) = false := by rw [beq_eq_false_iff_ne]; omega
        subst hBf
        clear HJ hend
        generalize (lt s).getD p 0 = d at *
        go_wp2
        first | (change bodyPost Tryz.prog Tryz.f72 _ Exit.ret _ _) | (simp only [Exit.noGoto])
        refine bodyPost_ret (v := .tuple #[.string (YtcjnejdemfemfaaGreatDoor.bk acc), .bool false]) (by simp [results, Tryz.results72, go_sem, YtcjnejdemfemfaaGreatDoor.bk]) rfl ⟨YtcjnejdemfemfaaGreatDoor.bk acc, rfl, ?_, hB.out⟩
        intro t ht
        rw [HN.out] at ht
        cases ht
    rw [if_neg q34] at HJ
    have c1 := b_ne (n := 34) (by decide) q34
    have e2 := cut_lt s p
    have hlp : lt (YtcjnejdemfemfaaGreatDoor.bk ((lt s).drop p)) = (lt s).drop p := bk_data _
    have hszp : (YtcjnejdemfemfaaGreatDoor.bk ((lt s).drop p)).size = s.size - p := by rw [bk_size, List.length_drop, lt_len]
    have np := fun W => firstPiece_any (YtcjnejdemfemfaaGreatDoor.bk ((lt s).drop p)) (by omega) (by omega) W
    rw [hlp] at np
    have hfl : ∀ b n, fpS ((lt s).drop p) = some (b, n) → 1 ≤ n ∧ p + n ≤ s.size ∧ n ≤ 4 := fun b n h => by
      have := fp_len h
      rw [List.length_drop, lt_len] at this
      omega
    have HFL : Hid (∀ b n, fpS ((lt s).drop p) = some (b, n) → 1 ≤ n ∧ p + n ≤ s.size ∧ n ≤ 4) := hfl
    clear hfl hlp hszp hdc
    generalize YtcjnejdemfemfaaGreatDoor.bk ((lt s).drop p) = sp at *
    cases hfp : fpS ((lt s).drop p) with
    | none =>
      have HN : Hid (R = none) := by show R = _; rw [HJ.out, hfp]
      have hBf : B = false := by rw [HBo.out, HN.out]; rfl
      rw [hfp] at np
      unfold fpV at np
      simp only at np
      subst hBf
      clear HJ hfp HFL
      generalize (lt s).getD p 0 = d at *
      go_wp2_with fail
      refine (np _).mono ?_
      rintro e w1 ⟨rfl, hw⟩
      subst w1
      go_wp2
      first | (change bodyPost Tryz.prog Tryz.f72 _ Exit.ret _ _) | (simp only [Exit.noGoto])
      refine bodyPost_ret (v := .tuple #[.string e0, .bool false]) (by simp [results, Tryz.results72, go_sem]) rfl ⟨e0, rfl, ?_, hB.out⟩
      intro t ht
      rw [HN.out] at ht
      cases ht
    | some bn =>
      obtain ⟨b, n⟩ := bn
      obtain ⟨n1, n2, n4⟩ := HFL.out b n hfp
      rw [hfp] at np HJ
      unfold fpV at np
      simp only at np HJ
      have nz : ((n : Int) == 0) = false := by rw [beq_eq_false_iff_ne]; omega
      clear hfp HFL
      generalize (lt s).getD p 0 = d at *
      by_cases h200 : acc.length = 200
      · have HN : Hid (R = none) := by show R = _; rw [HJ.out, if_pos h200]
        have hBf : B = false := by rw [HBo.out, HN.out]; rfl
        subst hBf
        have a200 : ((acc.length : Int) == 200) = true := by rw [beq_iff_eq]; omega
        clear HJ h200
        go_wp2_with fail
        refine (np _).mono ?_
        rintro e w1 ⟨rfl, hw⟩
        subst w1
        go_wp2
        first | (change bodyPost Tryz.prog Tryz.f72 _ Exit.ret _ _) | (simp only [Exit.noGoto])
        refine bodyPost_ret (v := .tuple #[.string e0, .bool false]) (by simp [results, Tryz.results72, go_sem]) rfl ⟨e0, rfl, ?_, hB.out⟩
        intro t ht
        rw [HN.out] at ht
        cases ht
      · rw [if_neg h200] at HJ
        have a200 : ((acc.length : Int) == 200) = false := by rw [beq_eq_false_iff_ne]; omega
        have H1 := one1 (.int .u8 (b.toNat : Int)) rfl
        have hzr := hB.out.size
        go_wp2_with fail
        refine (np _).mono ?_
        rintro e w1 ⟨rfl, hw⟩
        subst w1
        clear np
        go_wp2_with (first
          | (at_builtin; refine wpList_app 66 5 _ 1 1 Tryz.underlying66 info5 (by rfl) (by decide) (by decide) (by rfl) _ _ (by rfl) w.heap.size (.slice qb acc.length cb) acc.length (bv acc) (by rfl) hO.out _ (by rfl) H1 (by rfl) (by omega) hzr ?_; intro v4 w4 ho4 hg4; obtain ⟨q4, c4, rfl, -, -⟩ := own_slice ho4.out)
          | fail)
        refine ⟨⟨p + n, f', acc ++ [b], by go_num, by omega, by omega, by omega, ?_, HJ.out.symm, ?_, ?_⟩, by simp [intOf]; omega⟩
        · rw [List.length_append]; simp only [List.length_cons, List.length_nil]; omega
        · rw [List.length_append, bv_app]; exact ho4.out
        · exact (hB.out.alloc hzr _).grown hg4.out.1 (by simp; omega) (own_ge hO.out)
end Go.Proofs.YtcjnejdemfemfaaGreatDoor
namespace Go.Proofs.YtcjnejdemfemfaaGreatDoor
open Go.RowKit

theorem wdsF_nil (f k : Nat) : wdsF f k [] = [] := by cases f <;> rfl
theorem wdsF_c (f k : Nat) (c : UInt8) (r : Bs) : wdsF (f + 1) k (c :: r) = if 254 < k then [] else if c = 32 ∨ c = 9 then wdsF f k r else if c = 35 then [] else (c :: r).take (wdLen (c :: r)) :: wdsF f (k + 1) ((c :: r).drop (wdLen (c :: r))) := rfl
theorem qe_le : ∀ (n : Nat) (l : Bs), l.length ≤ n → qeS l ≤ l.length
  | 0, l, h => by rw [List.length_eq_zero_iff.1 (by omega : l.length = 0)]; exact Nat.le_refl _
  | n + 1, [], h => Nat.le_refl _
  | n + 1, c :: r, h => by
    rw [qe_c]
    simp only [List.length_cons] at h ⊢
    split
    · omega
    split
    · cases r with
      | nil => simp
      | cons d r' =>
        have := qe_le n r' (by simp only [List.length_cons] at h; omega)
        simp only [List.length_cons]
        omega
    · have := qe_le n r (by omega)
      omega
theorem ql_le (l : Bs) : qlS l ≤ l.length := by
  cases l with
  | nil => exact Nat.le_refl _
  | cons c r =>
    show (if c = 34 then 1 + qeS r else 0) ≤ r.length + 1
    have := qe_le r.length r (Nat.le_refl _)
    split <;> omega
theorem tw_le {α : Type} (p : α → Bool) (l : List α) : (l.takeWhile p).length ≤ l.length := by
  induction l with
  | nil => simp
  | cons c r ih => rw [List.takeWhile_cons]; split <;> simp only [List.length_cons, List.length_nil] <;> omega
theorem wd_le' (l : Bs) : wdLen l ≤ l.length := by
  unfold wdLen
  have h1 := tw_le (fun c => !isSep c) (l.drop (qlS l))
  have h2 := ql_le l
  rw [List.length_drop] at h1
  omega
theorem wd_pos (c : UInt8) (r : Bs) (h : isSep c = false) : 1 ≤ wdLen (c :: r) := by
  unfold wdLen
  by_cases hq : c = 34
  · have : qlS (c :: r) = 1 + qeS r := by show (if c = 34 then 1 + qeS r else 0) = _; rw [if_pos hq]
    omega
  · have e : qlS (c :: r) = 0 := by show (if c = 34 then 1 + qeS r else 0) = _; rw [if_neg hq]
    rw [e, List.drop_zero, List.takeWhile_cons, if_pos (by rw [h]; rfl)]
    simp
def wV (l : List Bs) : List Value := tv (l.map YtcjnejdemfemfaaGreatDoor.bk)
theorem wV_app (a b : List Bs) : wV (a ++ b) = wV a ++ wV b := by unfold wV; rw [List.map_append, tv_app]
theorem wV_len (a : List Bs) : (wV a).length = a.length := by unfold wV tv; simp
theorem cut_mid (s : ByteArray) (p m : Nat) : s.extract p m = YtcjnejdemfemfaaGreatDoor.bk (((lt s).drop p).take (m - p)) := by
  apply ByteArray.ext
  simp only [YtcjnejdemfemfaaGreatDoor.bk, ByteArray.data_extract, lt]
  apply Array.ext'
  simp only [Array.toList_extract]
set_option maxRecDepth 100000 in
set_option maxHeartbeats 4000000 in
theorem wordsOf_any (s : ByteArray) (hs : s.size ≤ 4611686018427387904) (w : World) : Calls Tryz.prog 27 #[.string s] w fun e w' => ∃ q cap, e = .returned (.slice q (wdsS (lt s)).length cap) ∧ Hid (w'.ownsRow w.heap.size 9 1 (.slice q (wdsS (lt s)).length cap) (wdsS (lt s)).length (wV (wdsS (lt s))) ∧ Below w.heap.size w w') := by
  obtain ⟨R, HR⟩ : ∃ R, Hid (R = wdsS (lt s)) := ⟨_, rfl⟩
  rw [← HR.out]
  have hz : (s.size : Int) ≤ 4611686018427387904 := by omega
  have HR0 : Hid (wdsF (s.size + 1) 0 (lt s) = R) := by show _ = R; rw [HR.out]; unfold wdsS; rw [lt_len]
  clear HR
  go_enter Tryz.func27, Tryz.ntmps27
  go_wp2
  go_step3
  go_wp2
  go_step3
  go_wp2
  go_loopw [3, 4] (fun v i wr => ∃ (p f : Nat) (acc : List Bs), i = .int .i64 (p : Int) ∧ p ≤ s.size ∧ s.size - p < f ∧ acc.length ≤ 255 ∧ Hid (acc ++ wdsF f acc.length ((lt s).drop p) = R) ∧ Hid (wr.ownsRow w.heap.size 9 1 v acc.length (wV acc)) ∧ Hid (Below w.heap.size w wr)) (fun _ i _ => s.size - (intOf i).toNat)
  case atStart => exact ⟨0, s.size + 1, [], rfl, Nat.zero_le _, by omega, by simp, by show _ = _; rw [← HR0.out]; rfl, World.ownsRow_nil _ _ _ _, Below.refl _ _⟩
  case round =>
    obtain ⟨p, f, acc, rfl, hp, hf, hacc, hI, hO, hB⟩ := hrel
    obtain ⟨qb, cb, rfl, -, -⟩ := own_slice hO.out
    clear HR0
    have hai : (acc.length : Int) ≤ 255 := by omega
    by_cases hlt : p < s.size
    case neg =>
      have HF : Hid (R = acc) := by show R = _; rw [← hI.out, drop_nil s p (by omega), wdsF_nil, List.append_nil]
      have p1 : ¬ (p : Int) < (s.size : Int) := by omega
      clear hI
      go_wp2
      first | (change bodyPost Tryz.prog Tryz.f27 _ Exit.ret _ _) | (simp only [Exit.noGoto])
      go_ret
      exact ⟨qb, cb, by rw [HF.out]; rfl, by rw [HF.out]; exact ⟨hO.out, hB.out⟩⟩
    have p0 : (0 : Int) ≤ (p : Int) := by omega
    have p1 : (p : Int) < (s.size : Int) := by omega
    obtain ⟨f', rfl⟩ : ∃ f', f = f' + 1 := ⟨f - 1, by omega⟩
    have hdc := drop_c s p hlt
    have HJ : Hid (R = acc ++ if 254 < acc.length then [] else if (lt s).getD p 0 = 32 ∨ (lt s).getD p 0 = 9 then wdsF f' acc.length ((lt s).drop (p + 1)) else if (lt s).getD p 0 = 35 then [] else ((lt s).drop p).take (wdLen ((lt s).drop p)) :: wdsF f' (acc.length + 1) ((lt s).drop (p + wdLen ((lt s).drop p)))) := by
      show R = _
      rw [← hI.out, hdc, wdsF_c, ← hdc]
      simp only [List.drop_drop]
    clear hI
    by_cases h254 : 254 < acc.length
    · have HF : Hid (R = acc) := by show R = _; rw [HJ.out, if_pos h254, List.append_nil]
      have k1 : ¬ (acc.length : Int) ≤ 254 := by omega
      clear HJ hdc
      go_wp2
      first | (change bodyPost Tryz.prog Tryz.f27 _ Exit.ret _ _) | (simp only [Exit.noGoto])
      go_ret
      exact ⟨qb, cb, by rw [HF.out]; rfl, by rw [HF.out]; exact ⟨hO.out, hB.out⟩⟩
    rw [if_neg h254] at HJ
    have k1 : (acc.length : Int) ≤ 254 := by omega
    have ixp := ix_lt s p hlt
    by_cases hbl : (lt s).getD p 0 = 32 ∨ (lt s).getD p 0 = 9
    · rw [if_pos hbl] at HJ
      clear hdc
      rcases hbl with q | q
      · have c1 := b_eq (n := 32) (by decide) q
        generalize (lt s).getD p 0 = d at *
        go_wp2
        exact ⟨⟨p + 1, f', acc, by go_num, by omega, by omega, hacc, HJ.out.symm, hO, hB⟩, by simp [intOf]; omega⟩
      · have c1 : ((((lt s).getD p 0).toNat : Int) == 32) = false := b_ne (n := 32) (by decide) (by rw [q]; decide)
        have c2 := b_eq (n := 9) (by decide) q
        generalize (lt s).getD p 0 = d at *
        go_wp2
        exact ⟨⟨p + 1, f', acc, by go_num, by omega, by omega, hacc, HJ.out.symm, hO, hB⟩, by simp [intOf]; omega⟩
    rw [if_neg hbl] at HJ
    have c1 := b_ne (n := 32) (by decide) (fun q => hbl (.inl q))
    have c2 := b_ne (n := 9) (by decide) (fun q => hbl (.inr q))
    by_cases h35 : (lt s).getD p 0 = 35
    · have HF : Hid (R = acc) := by show R = _; rw [HJ.out, if_pos h35, List.append_nil]
      have c3 := b_eq (n := 35) (by decide) h35
      clear HJ hdc hbl
      generalize (lt s).getD p 0 = d at *
      go_wp2
      first | (change bodyPost Tryz.prog Tryz.f27 _ Exit.ret _ _) | (simp only [Exit.noGoto])
      go_ret
      exact ⟨qb, cb, by rw [HF.out]; rfl, by rw [HF.out]; exact ⟨hO.out, hB.out⟩⟩
    rw [if_neg h35] at HJ
    have c3 := b_ne (n := 35) (by decide) h35
    have hsep : isSep ((lt s).getD p 0) = false := by
      unfold isSep
      simp only [Bool.or_eq_false_iff, beq_eq_false_iff_ne]
      exact ⟨⟨fun q => hbl (.inl q), fun q => hbl (.inr q)⟩, h35⟩
    have hw1 := wd_pos ((lt s).getD p 0) ((lt s).drop (p + 1)) hsep
    rw [← hdc] at hw1
    have hw2 := wd_le' ((lt s).drop p)
    rw [List.length_drop, lt_len] at hw2
    have nq := fun W => quotesEnd_any s p hlt hs W
    have hql := ql_le ((lt s).drop p)
    rw [List.length_drop, lt_len] at hql
    have HM : Hid (p + qlS ((lt s).drop p) + (((lt s).drop (p + qlS ((lt s).drop p))).takeWhile (fun c => !isSep c)).length = p + wdLen ((lt s).drop p)) := by
      show _ = _
      unfold wdLen
      rw [List.drop_drop]
      omega
    obtain ⟨m, hm⟩ : ∃ m, m = p + wdLen ((lt s).drop p) := ⟨_, rfl⟩
    have HX : Hid (R = acc ++ ((lt s).drop p).take (m - p) :: wdsF f' (acc.length + 1) ((lt s).drop m)) := by
      show R = _
      rw [HJ.out, hm, Nat.add_sub_cancel_left]
    rw [← hm] at HM
    have hmp : p < m := by omega
    have hms : m ≤ s.size := by omega
    have hx0 : p + qlS ((lt s).drop p) ≤ s.size := by omega
    clear HJ hm hw1 hw2 hql hsep hbl h35 hdc
    generalize p + qlS ((lt s).drop p) = x0 at *
    generalize hdd : (lt s).getD p 0 = d at *
    clear hdd
    have HAP : Hid (∀ (wd : ByteArray) (v' : Value) (W w' : World), W.ownsRow w.heap.size 9 1 v' (acc.length + 1) (wV acc ++ [.string wd]) → wd = YtcjnejdemfemfaaGreatDoor.bk (((lt s).drop p).take (m - p)) → W.ownsRow w.heap.size 9 1 v' (acc ++ [((lt s).drop p).take (m - p)]).length (wV (acc ++ [((lt s).drop p).take (m - p)]))) := fun wd v' W w' h1 h2 => by
      rw [List.length_append, wV_app]
      subst h2
      exact h1
    go_wp2_with fail
    refine (nq _).mono ?_
    rintro e w1 ⟨rfl, hw⟩
    subst w1
    clear nq
    go_wp2_with fail
    go_loopw [3, 4] (fun vv i wv => ∃ x : Nat, vv = .slice qb acc.length cb ∧ i = .int .i64 (x : Int) ∧ x ≤ s.size ∧ Hid (x + (((lt s).drop x).takeWhile (fun c => !isSep c)).length = m) ∧ wv = wr) (fun _ i _ => s.size - (intOf i).toNat)
    case atStart => exact ⟨x0, rfl, rfl, hx0, HM, rfl⟩
    case round =>
      obtain ⟨x, rfl, rfl, hx, hIx, hwv⟩ := hrel
      subst hwv
      have hzr := hB.out.size
      by_cases hxl : x < s.size
      case neg =>
        have hxm : m = s.size := by
          have h1 := hIx.out
          rw [drop_nil s x (by omega)] at h1
          simp only [List.takeWhile_nil, List.length_nil] at h1
          omega
        have k2 : ¬ (x : Int) < (s.size : Int) := by omega
        have e2 := cut_mid s p m
        obtain ⟨WD, hWD⟩ : ∃ WD, WD = YtcjnejdemfemfaaGreatDoor.bk (((lt s).drop p).take (m - p)) := ⟨_, rfl⟩
        have e3 : s.extract p s.size = WD := by rw [hWD, ← hxm]; exact e2
        have HWD : Hid (WD = YtcjnejdemfemfaaGreatDoor.bk (((lt s).drop p).take (m - p))) := hWD
        have HXM : Hid (x = m) := by show x = m; omega
        have H1 := one1 (.string WD) rfl
        clear hWD e2 hxm
        go_wp2_with (first
          | (at_builtin; refine wpList_app 24 9 _ 1 16 Tryz.underlying24 info9 (by rfl) (by decide) (by decide) (by rfl) _ _ (by rfl) w.heap.size (.slice qb acc.length cb) acc.length (wV acc) (by rfl) hO.out _ (by rfl) H1 (by rfl) (by omega) hzr ?_; intro v4 w4 ho4 hg4; obtain ⟨q4, c4, rfl, -, -⟩ := own_slice ho4.out)
          | fail)
        have hxe := HXM.out
        refine ⟨⟨x, f', acc ++ [((lt s).drop p).take (m - p)], rfl, by omega, by omega, by rw [List.length_append]; simp only [List.length_cons, List.length_nil]; omega, ?_, HAP.out WD _ w4 w4 ho4.out HWD.out, ?_⟩, by simp [intOf]; omega⟩
        · show _ = _
          rw [HX.out, hxe, List.length_append]
          simp
        · exact (hB.out.alloc hzr _).grown hg4.out.1 (by simp; omega) (own_ge hO.out)
      have x0' : (0 : Int) ≤ (x : Int) := by omega
      have x1' : (x : Int) < (s.size : Int) := by omega
      have ixx := ix_lt s x hxl
      have hdx := drop_c s x hxl
      by_cases hsp : isSep ((lt s).getD x 0) = true
      · have hxm : m = x := by
          have h1 := hIx.out
          rw [hdx, List.takeWhile_cons, hsp] at h1
          simp at h1
          omega
        have e2 := cut_mid s p m
        have px : (p : Int) ≤ (x : Int) := by omega
        unfold isSep at hsp
        simp only [Bool.or_eq_true, beq_iff_eq] at hsp
        clear hIx hdx
        rcases hsp with (q | q) | q
        · have g1 := b_eq (n := 32) (by decide) q
          generalize (lt s).getD x 0 = d2 at *
          obtain ⟨WD, hWD⟩ : ∃ WD, WD = YtcjnejdemfemfaaGreatDoor.bk (((lt s).drop p).take (m - p)) := ⟨_, rfl⟩
          have e3 : s.extract p x = WD := by rw [hWD, ← hxm]; exact e2
          have HWD : Hid (WD = YtcjnejdemfemfaaGreatDoor.bk (((lt s).drop p).take (m - p))) := hWD
          have HXM : Hid (x = m) := by have := hxm; show x = m; omega
          have H1 := one1 (.string WD) rfl
          clear hWD e2 hxm
          go_wp2_with (first
            | (at_builtin; refine wpList_app 24 9 _ 1 16 Tryz.underlying24 info9 (by rfl) (by decide) (by decide) (by rfl) _ _ (by rfl) w.heap.size (.slice qb acc.length cb) acc.length (wV acc) (by rfl) hO.out _ (by rfl) H1 (by rfl) (by omega) hzr ?_; intro v4 w4 ho4 hg4; obtain ⟨q4, c4, rfl, -, -⟩ := own_slice ho4.out)
            | fail)
          have hxe := HXM.out
          refine ⟨⟨x, f', acc ++ [((lt s).drop p).take (m - p)], rfl, by omega, by omega, by rw [List.length_append]; simp only [List.length_cons, List.length_nil]; omega, ?_, HAP.out WD _ w4 w4 ho4.out HWD.out, ?_⟩, by simp [intOf]; omega⟩
          · show _ = _
            rw [HX.out, hxe, List.length_append]
            simp
          · exact (hB.out.alloc hzr _).grown hg4.out.1 (by simp; omega) (own_ge hO.out)
        · have g1 : ((((lt s).getD x 0).toNat : Int) == 32) = false := b_ne (n := 32) (by decide) (by rw [q]; decide)
          have g2 := b_eq (n := 9) (by decide) q
          generalize (lt s).getD x 0 = d2 at *
          obtain ⟨WD, hWD⟩ : ∃ WD, WD = YtcjnejdemfemfaaGreatDoor.bk (((lt s).drop p).take (m - p)) := ⟨_, rfl⟩
          have e3 : s.extract p x = WD := by rw [hWD, ← hxm]; exact e2
          have HWD : Hid (WD = YtcjnejdemfemfaaGreatDoor.bk (((lt s).drop p).take (m - p))) := hWD
          have HXM : Hid (x = m) := by have := hxm; show x = m; omega
          have H1 := one1 (.string WD) rfl
          clear hWD e2 hxm
          go_wp2_with (first
            | (at_builtin; refine wpList_app 24 9 _ 1 16 Tryz.underlying24 info9 (by rfl) (by decide) (by decide) (by rfl) _ _ (by rfl) w.heap.size (.slice qb acc.length cb) acc.length (wV acc) (by rfl) hO.out _ (by rfl) H1 (by rfl) (by omega) hzr ?_; intro v4 w4 ho4 hg4; obtain ⟨q4, c4, rfl, -, -⟩ := own_slice ho4.out)
            | fail)
          have hxe := HXM.out
          refine ⟨⟨x, f', acc ++ [((lt s).drop p).take (m - p)], rfl, by omega, by omega, by rw [List.length_append]; simp only [List.length_cons, List.length_nil]; omega, ?_, HAP.out WD _ w4 w4 ho4.out HWD.out, ?_⟩, by simp [intOf]; omega⟩
          · show _ = _
            rw [HX.out, hxe, List.length_append]
            simp
          · exact (hB.out.alloc hzr _).grown hg4.out.1 (by simp; omega) (own_ge hO.out)
        · have g1 : ((((lt s).getD x 0).toNat : Int) == 32) = false := b_ne (n := 32) (by decide) (by rw [q]; decide)
          have g2 : ((((lt s).getD x 0).toNat : Int) == 9) = false := b_ne (n := 9) (by decide) (by rw [q]; decide)
          have g3 := b_eq (n := 35) (by decide) q
          generalize (lt s).getD x 0 = d2 at *
          obtain ⟨WD, hWD⟩ : ∃ WD, WD = YtcjnejdemfemfaaGreatDoor.bk (((lt s).drop p).take (m - p)) := ⟨_, rfl⟩
          have e3 : s.extract p x = WD := by rw [hWD, ← hxm]; exact e2
          have HWD : Hid (WD = YtcjnejdemfemfaaGreatDoor.bk (((lt s).drop p).take (m - p))) := hWD
          have HXM : Hid (x = m) := by have := hxm; show x = m; omega
          have H1 := one1 (.string WD) rfl
          clear hWD e2 hxm
          go_wp2_with (first
            | (at_builtin; refine wpList_app 24 9 _ 1 16 Tryz.underlying24 info9 (by rfl) (by decide) (by decide) (by rfl) _ _ (by rfl) w.heap.size (.slice qb acc.length cb) acc.length (wV acc) (by rfl) hO.out _ (by rfl) H1 (by rfl) (by omega) hzr ?_; intro v4 w4 ho4 hg4; obtain ⟨q4, c4, rfl, -, -⟩ := own_slice ho4.out)
            | fail)
          have hxe := HXM.out
          refine ⟨⟨x, f', acc ++ [((lt s).drop p).take (m - p)], rfl, by omega, by omega, by rw [List.length_append]; simp only [List.length_cons, List.length_nil]; omega, ?_, HAP.out WD _ w4 w4 ho4.out HWD.out, ?_⟩, by simp [intOf]; omega⟩
          · show _ = _
            rw [HX.out, hxe, List.length_append]
            simp
          · exact (hB.out.alloc hzr _).grown hg4.out.1 (by simp; omega) (own_ge hO.out)
      · have HI2 : Hid (x + 1 + (((lt s).drop (x + 1)).takeWhile (fun c => !isSep c)).length = m) := by
          have h1 := hIx.out
          rw [hdx, List.takeWhile_cons, if_pos (by simpa using hsp)] at h1
          simp only [List.length_cons] at h1
          show _ = _
          omega
        unfold isSep at hsp
        simp only [Bool.or_eq_true, beq_iff_eq, not_or] at hsp
        have g1 := b_ne (n := 32) (by decide) hsp.1.1
        have g2 := b_ne (n := 9) (by decide) hsp.1.2
        have g3 := b_ne (n := 35) (by decide) hsp.2
        clear hIx hdx hsp
        generalize (lt s).getD x 0 = d2 at *
        go_wp2
        exact ⟨⟨x + 1, rfl, by go_num, by omega, HI2, trivial⟩, by simp [intOf]; omega⟩
end Go.Proofs.YtcjnejdemfemfaaGreatDoor

