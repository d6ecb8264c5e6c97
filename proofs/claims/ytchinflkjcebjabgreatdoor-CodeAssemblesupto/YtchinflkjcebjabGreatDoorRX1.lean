import Derived.Test.YtchinflkjcebjabGreatDoorRM1
import Derived.Test.YtchinflkjcebjabGreatDoorCS1
import Derived.Test.YtchinflkjcebjabGreatDoorCSh
namespace Go.Proofs.YtchinflkjcebjabGreatDoor
open Go.RowKit

/-! The document's words of a line, walked. -/
def blkB (b : UInt8) : Bool := b == 32 || b == 9
theorem blkB_i (b : UInt8) : ((b.toNat : Int) == 32 || (b.toNat : Int) == 9) = blkB b := by
  have h : ∀ n : Fin 256, ((((UInt8.ofNat n.val).toNat : Nat) : Int) == 32 || (((UInt8.ofNat n.val).toNat : Nat) : Int) == 9) = blkB (UInt8.ofNat n.val) := by decide +kernel
  have := h ⟨b.toNat, b.toNat_lt⟩
  simp only [UInt8.ofNat_toNat] at this
  exact this
set_option maxRecDepth 100000 in
theorem rblank_any (b : UInt8) (w : World) : Calls Tryz.prog 85 #[.int .u8 (b.toNat : Int)] w fun e w' => e = .returned (.bool (blkB b)) ∧ w' = w := by
  have HB : Hid (((b.toNat : Int) == 32 || (b.toNat : Int) == 9) = blkB b) := blkB_i b
  generalize blkB b = B at *
  generalize b.toNat = n at *
  go_enter Tryz.func85, Tryz.ntmps85
  by_cases h1 : (n : Int) = 32
  · have b1 : ((n : Int) == 32) = true := by rw [beq_iff_eq]; exact h1
    have e : B = true := by rw [← HB.out, b1]; rfl
    subst e
    clear HB
    go_wp2
    go_ret
    exact ⟨rfl, rfl⟩
  · have b1 : ((n : Int) == 32) = false := by rw [beq_eq_false_iff_ne]; exact h1
    by_cases h2 : (n : Int) = 9
    · have b2 : ((n : Int) == 9) = true := by rw [beq_iff_eq]; exact h2
      have e : B = true := by rw [← HB.out, b1, b2]; rfl
      subst e
      clear HB
      go_wp2
      go_ret
      exact ⟨rfl, rfl⟩
    · have b2 : ((n : Int) == 9) = false := by rw [beq_eq_false_iff_ne]; exact h2
      have e : B = false := by rw [← HB.out, b1, b2]; rfl
      subst e
      clear HB
      go_wp2
      go_ret
      exact ⟨rfl, rfl⟩
theorem nibI_i (c : UInt8) : nibI c = if 48 ≤ c.toNat ∧ c.toNat ≤ 57 then (c.toNat : Int) - 48 else if 97 ≤ c.toNat ∧ c.toNat ≤ 102 then (c.toNat : Int) - 97 + 10 else -1 := by
  have h : ∀ n : Fin 256, nibI (UInt8.ofNat n.val) = if 48 ≤ (UInt8.ofNat n.val).toNat ∧ (UInt8.ofNat n.val).toNat ≤ 57 then ((UInt8.ofNat n.val).toNat : Int) - 48 else if 97 ≤ (UInt8.ofNat n.val).toNat ∧ (UInt8.ofNat n.val).toNat ≤ 102 then ((UInt8.ofNat n.val).toNat : Int) - 97 + 10 else -1 := by decide +kernel
  have := h ⟨c.toNat, c.toNat_lt⟩
  simp only [UInt8.ofNat_toNat] at this
  exact this
set_option maxRecDepth 100000 in
theorem rnib_any (c : UInt8) (w : World) : Calls Tryz.prog 121 #[.int .u8 (c.toNat : Int)] w fun e w' => e = .returned (.int .i64 (nibI c)) ∧ w' = w := by
  have hl := c.toNat_lt
  have HI := nibI_i c
  have HI' : Hid (nibI c = if 48 ≤ c.toNat ∧ c.toNat ≤ 57 then (c.toNat : Int) - 48 else if 97 ≤ c.toNat ∧ c.toNat ≤ 102 then (c.toNat : Int) - 97 + 10 else -1) := HI
  clear HI
  generalize nibI c = N at *
  generalize c.toNat = n at *
  go_enter Tryz.func121, Tryz.ntmps121
  by_cases h1 : 48 ≤ n ∧ n ≤ 57
  · have e : N = (n : Int) - 48 := by rw [HI'.out, if_pos h1]
    subst e
    clear HI'
    have a1 : (48 : Int) ≤ (n : Int) := by omega
    have a2 : (n : Int) ≤ 57 := by omega
    have g1 : IntKind.u8.wrap ((n : Int) - 48) = (n : Int) - 48 := by rw [IntKind.wrap_u8']; omega
    go_wp2
    go_ret
    exact ⟨rfl, rfl⟩
  · by_cases h2 : 97 ≤ n ∧ n ≤ 102
    · have e : N = (n : Int) - 97 + 10 := by rw [HI'.out, if_neg h1, if_pos h2]
      subst e
      clear HI'
      have a0 : (48 : Int) ≤ (n : Int) := by omega
      have a3 : ¬ (n : Int) ≤ 57 := by omega
      have a1 : (97 : Int) ≤ (n : Int) := by omega
      have a2 : (n : Int) ≤ 102 := by omega
      have g1 : IntKind.u8.wrap ((n : Int) - 97) = (n : Int) - 97 := by rw [IntKind.wrap_u8']; omega
      go_wp2
      go_ret
      exact ⟨rfl, rfl⟩
    · have e : N = -1 := by rw [HI'.out, if_neg h1, if_neg h2]
      subst e
      clear HI'
      by_cases q1 : 48 ≤ n
      · have a0 : (48 : Int) ≤ (n : Int) := by omega
        have a3 : ¬ (n : Int) ≤ 57 := by omega
        by_cases q2 : 97 ≤ n
        · have a1 : (97 : Int) ≤ (n : Int) := by omega
          have a2 : ¬ (n : Int) ≤ 102 := by omega
          go_wp2
          go_ret
          exact ⟨rfl, rfl⟩
        · have a1 : ¬ (97 : Int) ≤ (n : Int) := by omega
          go_wp2
          go_ret
          exact ⟨rfl, rfl⟩
      · have a0 : ¬ (48 : Int) ≤ (n : Int) := by omega
        have a1 : ¬ (97 : Int) ≤ (n : Int) := by omega
        go_wp2
        go_ret
        exact ⟨rfl, rfl⟩
theorem nibI_some {c : UInt8} {h : Nat} (e : nib c = some h) : nibI c = (h : Int) ∧ h < 16 := by
  unfold nibI
  rw [e]
  exact ⟨rfl, nib_lt e⟩
theorem nibI_none {c : UInt8} (e : nib c = none) : nibI c = -1 := by
  unfold nibI
  rw [e]
/-- The byte at a place, as go_wp2 wants it. -/
theorem ix_pl (s : ByteArray) (i : Nat) (k : Nat) (n : Int) (hn : n = (i : Int) + (k : Int)) (hi : i + k < s.size) : ∀ w : World, (Instr.index 9 (.string s) (.int .i64 n)).run Tryz.prog w = .ok (.int .u8 (((lt s).getD (i + k) 0).toNat : Int)) w := by
  have := ix_lt s (i + k) hi
  rw [hn]
  rw [show ((i + k : Nat) : Int) = (i : Int) + (k : Int) by omega] at this
  exact this
theorem hexP_short {q : Bs} (h : q.length < 2) : hexP q = none := by
  match q, h with
  | [], _ => rfl
  | [_], _ => rfl
theorem hexP_two (x y : UInt8) (q : Bs) : hexP (x :: y :: q) = match nib x, nib y with | some h, some l => some (UInt8.ofNat (16 * h + l), 4) | _, _ => none := rfl
set_option maxRecDepth 100000 in
set_option maxHeartbeats 8000000 in
theorem rpiece_any (s : ByteArray) (a : Nat) (ha : a < s.size) (hs : s.size ≤ 4611686018427387904) (h34 : (lt s).getD a 0 ≠ 34) (w : World) : Calls Tryz.prog 102 #[.string s, .int .i64 (a : Int)] w fun e w' => e = .returned (fpV (fpS ((lt s).drop a))) ∧ Below w.heap.size w w' := by
  have hz : (s.size : Int) ≤ 4611686018427387904 := by omega
  have ix0 := ix_lt s a ha
  have a0 : (0 : Int) ≤ (a : Int) := by omega
  have a1 : (a : Int) < (s.size : Int) := by omega
  have HD : Hid ((lt s).drop a = (lt s).getD a 0 :: (lt s).drop (a + 1)) := drop_c s a ha
  obtain ⟨R, HR⟩ : ∃ R, Hid (R = fpV (fpS ((lt s).drop a))) := ⟨_, (rfl : fpV (fpS ((lt s).drop a)) = _)⟩
  rw [← HR.out]
  have HQ : Hid (∀ c, (lt s).getD a 0 = c → R = fpV (fpS (c :: (lt s).drop (a + 1)))) := fun c e => by rw [HR.out, HD.out, e]
  clear HR HD
  obtain ⟨c, ec⟩ : ∃ c, c = (lt s).getD a 0 := ⟨_, rfl⟩
  rw [← ec] at ix0 h34
  have HC := HQ.out c ec.symm
  have HC' : Hid (R = fpV (fpS (c :: (lt s).drop (a + 1)))) := HC
  clear HQ HC ec
  have n34 := b_ne (n := 34) (by decide) h34
  have k34 : ¬ (c.toNat : Int) = 34 := fun q => h34 ((byte_eq c 34 (by decide)).2 q)
  have hcl := c.toNat_lt
  by_cases hp : 32 ≤ c.toNat ∧ c.toNat ≤ 126
  case neg =>
    have h92 : c ≠ 92 := by
      rintro rfl
      exact hp (by decide)
    have e : R = fpV none := by
      rw [HC'.out]
      unfold fpS
      simp only
      rw [if_pos h92, if_neg hp]
    rw [e]
    clear HC' e h92 h34
    generalize c.toNat = n at *
    by_cases q1 : n < 32
    · have k1 : (n : Int) < 32 := by omega
      go_enter Tryz.func102, Tryz.ntmps102
      go_wp2
      refine bodyPost_ret (v := .tuple #[.int .u8 0, .int .i64 0]) (by simp [results, Tryz.results102, go_sem]) rfl ⟨rfl, Below.refl _ _⟩
    · have k1 : ¬ (n : Int) < 32 := by omega
      have k2 : (126 : Int) < (n : Int) := by omega
      go_enter Tryz.func102, Tryz.ntmps102
      go_wp2
      refine bodyPost_ret (v := .tuple #[.int .u8 0, .int .i64 0]) (by simp [results, Tryz.results102, go_sem]) rfl ⟨rfl, Below.refl _ _⟩
  have k1 : ¬ (c.toNat : Int) < 32 := by omega
  have k2 : ¬ (126 : Int) < (c.toNat : Int) := by omega
  by_cases h92 : c = 92
  case neg =>
    have e : R = fpV (some (c, 1)) := by
      rw [HC'.out]
      unfold fpS
      simp only
      rw [if_pos h92, if_pos hp]
    rw [e]
    have n92 := b_ne (n := 92) (by decide) h92
    unfold fpV
    simp only
    clear HC' e h92 h34 hp
    generalize c.toNat = n at *
    go_enter Tryz.func102, Tryz.ntmps102
    go_wp2
    refine bodyPost_ret (v := .tuple #[.int .u8 (n : Int), .int .i64 1]) (by simp [results, Tryz.results102, go_sem]) rfl ⟨rfl, Below.refl _ _⟩
  subst h92
  clear hp k1 k2 n34 k34 h34 hcl
  by_cases h1 : a + 1 < s.size
  case neg =>
    have e : R = fpV none := by rw [HC'.out, drop_nil s (a + 1) (by omega)]; rfl
    rw [e]
    have q1 : (s.size : Int) ≤ (a : Int) + 1 := by omega
    clear HC' e
    go_enter Tryz.func102, Tryz.ntmps102
    go_wp2
    refine bodyPost_ret (v := .tuple #[.int .u8 0, .int .i64 0]) (by simp [results, Tryz.results102, go_sem]) rfl ⟨rfl, Below.refl _ _⟩
  have q1 : ¬ (s.size : Int) ≤ (a : Int) + 1 := by omega
  have q2 : (a : Int) + 1 < (s.size : Int) := by omega
  have q3 : (0 : Int) ≤ (a : Int) + 1 := by omega
  have ix1 := ix_pl s a 1 ((a : Int) + 1) rfl h1
  rw [drop_c s (a + 1) h1, fp_bs] at HC'
  generalize (lt s).getD (a + 1) 0 = d at *
  by_cases h110 : d = 110
  · rw [if_pos h110] at HC'
    rw [HC'.out]
    subst h110
    clear HC'
    unfold fpV
    simp only
    go_enter Tryz.func102, Tryz.ntmps102
    go_wp2
    first | (change bodyPost Tryz.prog Tryz.f102 _ Exit.ret _ _) | (simp only [Exit.noGoto])
    refine bodyPost_ret (v := .tuple #[.int .u8 10, .int .i64 2]) (by simp [results, Tryz.results102, go_sem]) rfl ⟨rfl, Below.refl _ _⟩
  rw [if_neg h110] at HC'
  have n110 := b_ne (n := 110) (by decide) h110
  by_cases hq : d = 34 ∨ d = 92
  · rw [if_pos hq] at HC'
    rw [HC'.out]
    clear HC' h110
    unfold fpV
    simp only
    rcases hq with rfl | rfl
    · go_enter Tryz.func102, Tryz.ntmps102
      go_wp2
      first | (change bodyPost Tryz.prog Tryz.f102 _ Exit.ret _ _) | (simp only [Exit.noGoto])
      refine bodyPost_ret (v := .tuple #[.int .u8 34, .int .i64 2]) (by simp [results, Tryz.results102, go_sem]) rfl ⟨rfl, Below.refl _ _⟩
    · go_enter Tryz.func102, Tryz.ntmps102
      go_wp2
      first | (change bodyPost Tryz.prog Tryz.f102 _ Exit.ret _ _) | (simp only [Exit.noGoto])
      refine bodyPost_ret (v := .tuple #[.int .u8 92, .int .i64 2]) (by simp [results, Tryz.results102, go_sem]) rfl ⟨rfl, Below.refl _ _⟩
  rw [if_neg hq] at HC'
  have m34 := b_ne (n := 34) (by decide) (fun x => hq (.inl x))
  have m92 := b_ne (n := 92) (by decide) (fun x => hq (.inr x))
  clear hq h110
  by_cases h120 : d = 120
  case neg =>
    rw [if_neg h120] at HC'
    rw [HC'.out]
    have n120 := b_ne (n := 120) (by decide) h120
    clear HC' h120
    generalize d.toNat = n at *
    go_enter Tryz.func102, Tryz.ntmps102
    go_wp2
    first | (change bodyPost Tryz.prog Tryz.f102 _ Exit.ret _ _) | (simp only [Exit.noGoto])
    refine bodyPost_ret (v := .tuple #[.int .u8 0, .int .i64 0]) (by simp [results, Tryz.results102, go_sem]) rfl ⟨rfl, Below.refl _ _⟩
  rw [if_pos h120] at HC'
  subst h120
  clear n110 m34 m92
  by_cases h3 : a + 3 < s.size
  case neg =>
    rw [hexP_short (by rw [List.length_drop, lt_len]; omega)] at HC'
    rw [HC'.out]
    clear HC'
    have r3 : ¬ (a : Int) + 3 < (s.size : Int) := by omega
    go_enter Tryz.func102, Tryz.ntmps102
    go_wp2
    first | (change bodyPost Tryz.prog Tryz.f102 _ Exit.ret _ _) | (simp only [Exit.noGoto])
    refine bodyPost_ret (v := .tuple #[.int .u8 0, .int .i64 0]) (by simp [results, Tryz.results102, go_sem]) rfl ⟨rfl, Below.refl _ _⟩
  have r3 : (a : Int) + 3 < (s.size : Int) := by omega
  have r30 : (0 : Int) ≤ (a : Int) + 3 := by omega
  have r2 : (a : Int) + 2 < (s.size : Int) := by omega
  have r20 : (0 : Int) ≤ (a : Int) + 2 := by omega
  have ix2 := ix_pl s a 2 ((a : Int) + 2) rfl (by omega)
  have ix3 := ix_pl s a 3 ((a : Int) + 3) rfl h3
  rw [show a + 1 + 1 = a + 2 by omega, drop_c s (a + 2) (by omega), show a + 2 + 1 = a + 3 by omega, drop_c s (a + 3) h3, hexP_two] at HC'
  generalize (lt s).getD (a + 2) 0 = x at *
  generalize (lt s).getD (a + 3) 0 = y at *
  have nx := fun W => rnib_any x W
  have ny := fun W => rnib_any y W
  cases hx : nib x with
  | none =>
    rw [hx] at HC'
    have e : R = fpV none := HC'.out
    rw [e]
    rw [nibI_none hx] at nx
    clear HC' e hx ny
    generalize x.toNat = xn at *
    generalize y.toNat = yn at *
    go_enter Tryz.func102, Tryz.ntmps102
    go_wp2_with fail
    refine (nx _).mono ?_
    rintro e w1 ⟨rfl, hw⟩
    subst w1
    go_wp2
    first | (change bodyPost Tryz.prog Tryz.f102 _ Exit.ret _ _) | (simp only [Exit.noGoto])
    refine bodyPost_ret (v := .tuple #[.int .u8 0, .int .i64 0]) (by simp [results, Tryz.results102, go_sem]) rfl ⟨rfl, Below.refl _ _⟩
  | some h =>
    obtain ⟨ex, lx⟩ := nibI_some hx
    rw [ex] at nx
    have gx : (0 : Int) ≤ (h : Int) := by omega
    cases hy : nib y with
    | none =>
      rw [hx, hy] at HC'
      have e : R = fpV none := HC'.out
      rw [e]
      rw [nibI_none hy] at ny
      clear HC' e hx hy ex
      generalize x.toNat = xn at *
      generalize y.toNat = yn at *
      go_enter Tryz.func102, Tryz.ntmps102
      go_wp2_with fail
      refine (nx _).mono ?_
      rintro e w1 ⟨rfl, hw⟩
      subst w1
      go_wp2_with fail
      refine (ny _).mono ?_
      rintro e w1 ⟨rfl, hw⟩
      subst w1
      go_wp2
      first | (change bodyPost Tryz.prog Tryz.f102 _ Exit.ret _ _) | (simp only [Exit.noGoto])
      refine bodyPost_ret (v := .tuple #[.int .u8 0, .int .i64 0]) (by simp [results, Tryz.results102, go_sem]) rfl ⟨rfl, Below.refl _ _⟩
    | some l =>
      rw [hx, hy] at HC'
      obtain ⟨ey, ly⟩ := nibI_some hy
      rw [ey] at ny
      have gy : (0 : Int) ≤ (l : Int) := by omega
      have e : R = .tuple #[.int .u8 ((16 * h + l : Nat) : Int), .int .i64 4] := by
        rw [HC'.out]
        unfold fpV
        simp only
        rw [UInt8.toNat_ofNat', Nat.mod_eq_of_lt (by omega)]
        rfl
      rw [e]
      clear HC' e hx hy ex ey
      generalize x.toNat = xn at *
      generalize y.toNat = yn at *
      have lx' : (h : Int) < 16 := by omega
      have ly' : (l : Int) < 16 := by omega
      have gw : IntKind.u8.wrap (16 * (h : Int) + (l : Int)) = 16 * (h : Int) + (l : Int) := by rw [IntKind.wrap_u8']; omega
      have c1 : ∀ d os, Calls Tryz.prog 121 #[.int .u8 (xn : Int)] (Sort.grow (redrawn w d) os) fun e w'' => e = .returned (.int .i64 (h : Int)) ∧ ∃ z : Regrown, w'' = Sort.grow (redrawn w z.d) z.os := fun d os => (nx _).mono fun e w'' ⟨q1, q2⟩ => ⟨q1, ⟨d, os⟩, q2⟩
      have c2 : ∀ d os, Calls Tryz.prog 121 #[.int .u8 (yn : Int)] (Sort.grow (redrawn w d) os) fun e w'' => e = .returned (.int .i64 (l : Int)) ∧ ∃ z : Regrown, w'' = Sort.grow (redrawn w z.d) z.os := fun d os => (ny _).mono fun e w'' ⟨q1, q2⟩ => ⟨q1, ⟨d, os⟩, q2⟩
      go_enter Tryz.func102, Tryz.ntmps102
      go_wp2_with fail
      refine (nx _).mono ?_
      rintro e w1 ⟨rfl, hw⟩
      subst w1
      go_wp2_with fail
      refine (ny _).mono ?_
      rintro e w1 ⟨rfl, hw⟩
      subst w1
      clear nx ny
      go_upto_region 16 with fail
      go_wp2_with fail
      refine wp_region_quiet_below (by kernel_rfl) (by kernel_rfl) ?_
      repeat (first | go_big_quiet_step (first | with_reducible exact c1 _ _ | with_reducible exact c2 _ _) | quiet_step (first | with_reducible exact c1 _ _ | with_reducible exact c2 _ _))
      refine wpQuiet_nil ?_
      intro _ hw'
      obtain ⟨⟨dq, osq⟩, hw''⟩ := hw'
      subst hw''
      have hY := below_regrown w dq osq
      first | (change Exit.then _ _ Exit.normal _ (Sort.grow (redrawn w dq) osq)) | skip
      generalize Sort.grow (redrawn w dq) osq = Y at hY ⊢
      clear c1 c2
      go_wp2
      first | (change bodyPost Tryz.prog Tryz.f102 _ Exit.ret _ _) | (simp only [Exit.noGoto])
      refine bodyPost_ret (v := .tuple #[.int .u8 (16 * (h : Int) + (l : Int)), .int .i64 4]) (by simp [results, Tryz.results102, go_sem]) rfl ⟨?_, hY⟩
      rw [show ((16 * h + l : Nat) : Int) = 16 * (h : Int) + (l : Int) by omega]
end Go.Proofs.YtchinflkjcebjabGreatDoor
namespace Go.Proofs.YtchinflkjcebjabGreatDoor
open Go.RowKit

theorem Res.grow {w W W' : World} {C : Array Value} {t : TypeId} (h : Res w W C t) {row : Option Nat} (hg : W.grownBy W' row) (hr : ∀ k, row = some k → w.heap.size + 1 ≤ k) : Res w W' C t :=
  ⟨h.b.grown hg h.b.size (fun k hk => by have := hr k hk; omega), (hg.block _ h.lt (fun q => by have := hr _ q.symm; omega)).trans h.c⟩
/-- What quoted answers. -/
def rqV (s : ByteArray) (o : Option (Bs × Bs)) : Value := match o with
  | some (t, l) => .tuple #[.agg #[.string (YtchinflkjcebjabGreatDoor.bk t), .bool true], .int .i64 ((s.size : Int) - (l.length : Int))]
  | none => .tuple #[.agg #[.string e0, .bool false], .int .i64 (-1)]
theorem rqF_nil (f : Nat) (acc : Bs) : rqF f acc [] = none := by cases f <;> rfl
theorem rqF_c (f : Nat) (acc : Bs) (c : UInt8) (r : Bs) : rqF (f + 1) acc (c :: r) = if c = 34 then (if r = [] ∨ isSep (r.headD 0) = true then some (acc, r) else none) else match fpS (c :: r) with | some (b, n) => rqF f (acc ++ [b]) ((c :: r).drop n) | none => none := rfl
theorem sep_bl {c : UInt8} : isSep c = (blkB c || c == 35) := by
  unfold isSep blkB
  rfl
theorem drop_hd (s : ByteArray) (j : Nat) (hj : j < s.size) : ((lt s).drop j).headD 0 = (lt s).getD j 0 := by rw [drop_c s j hj]; rfl
set_option maxRecDepth 100000 in
set_option maxHeartbeats 8000000 in
theorem rquoted_any (s : ByteArray) (a : Nat) (ha : a < s.size) (hs : s.size ≤ 1048576) (w : World) : Calls Tryz.prog 86 #[.string s, .int .i64 (a : Int)] w fun e w' => e = .returned (rqV s (rqF (((lt s).drop (a + 1)).length + 1) [] ((lt s).drop (a + 1)))) ∧ Below w.heap.size w w' := by
  obtain ⟨R, HR⟩ : ∃ R, Hid (rqF (((lt s).drop (a + 1)).length + 1) [] ((lt s).drop (a + 1)) = R) := ⟨_, rfl⟩
  rw [HR.out]
  have hz : (s.size : Int) ≤ 1048576 := by omega
  have hai : (a : Int) < (s.size : Int) := by omega
  have hdl : ((lt s).drop (a + 1)).length = s.size - (a + 1) := by rw [List.length_drop, lt_len]
  obtain ⟨X, hX⟩ : ∃ X, X = w.alloc (.cells #[.string e0, .bool false] 125) := ⟨_, rfl⟩
  have HX : Hid (Res w X #[.string e0, .bool false] 125) := by rw [hX]; exact Res.new w _ _
  rw [hdl] at HR
  go_enter Tryz.func86, Tryz.ntmps86
  go_upto_region 1 with fail
  rw [← hX]
  clear hX hdl
  go_wp2_with fail
  go_loopw [6, 7] (fun v i wr => ∃ (p f : Nat) (acc : Bs), i = .int .i64 (p : Int) ∧ a + 1 ≤ p ∧ p ≤ s.size ∧ s.size - p < f ∧ acc.length ≤ p ∧ Hid (rqF f acc ((lt s).drop p) = R) ∧ Hid (wr.ownsRow (w.heap.size + 1) 5 1 v acc.length (bv acc)) ∧ Hid (Res w wr #[.string e0, .bool false] 125)) (fun _ i _ => s.size - (intOf i).toNat)
  case atStart => exact ⟨a + 1, s.size - (a + 1) + 1, [], by go_num, Nat.le_refl _, by omega, by omega, by simp, HR, World.ownsRow_nil _ _ _ _, HX⟩
  case round =>
    obtain ⟨p, f, acc, rfl, hp1, hp2, hf, hacc, hI, hO, hRs⟩ := hrel
    obtain ⟨qb, cb, rfl, -, -⟩ := own_slice hO.out
    clear HR HX
    obtain ⟨x0, y0⟩ := blk_cell hRs.out.c 0 (.string e0) rfl
    obtain ⟨x1, y1⟩ := blk_cell hRs.out.c 1 (.bool false) rfl
    by_cases hlt : p < s.size
    case neg =>
      have hpe : p = s.size := by omega
      have HN : Hid (R = none) := by
        show R = none
        rw [← hI.out, drop_nil s p (by omega), rqF_nil]
      have HV : Hid (rqV s R = .tuple #[.agg #[.string e0, .bool false], .int .i64 (-1)]) := by show _ = _; rw [HN.out]; rfl
      have p1 : ¬ (p : Int) < (s.size : Int) := by omega
      clear hpe hI
      go_wp2
      first | (change bodyPost Tryz.prog Tryz.f86 _ Exit.ret _ _) | (simp only [Exit.noGoto]) | skip
      have HF2 : Hid (Res w ((wr.setCell ⟨w.heap.size, 0, none⟩ (.string e0)).setCell ⟨w.heap.size, 1, none⟩ (.bool false)) #[.string e0, .bool false] 125) := (hRs.out.set 0 (.string e0)).set 1 (.bool false)
      generalize (wr.setCell ⟨w.heap.size, 0, none⟩ (.string e0)).setCell ⟨w.heap.size, 1, none⟩ (.bool false) = W4 at HF2 ⊢
      obtain ⟨q0, -⟩ := blk_cell HF2.out.c 0 (.string e0) rfl
      obtain ⟨q1, -⟩ := blk_cell HF2.out.c 1 (.bool false) rfl
      refine bodyPost_ret (v := .tuple #[.agg #[.string e0, .bool false], .int .i64 (-1)]) (by simp [results, Tryz.results86, go_sem, q0, q1]) rfl ⟨by rw [HV.out], HF2.out.b⟩
    have ixp := ix_lt s p hlt
    have p0 : (0 : Int) ≤ (p : Int) := by omega
    have p1 : (p : Int) < (s.size : Int) := by omega
    obtain ⟨f', rfl⟩ : ∃ f', f = f' + 1 := ⟨f - 1, by omega⟩
    have hdc := drop_c s p hlt
    have HJ : Hid (R = if (lt s).getD p 0 = 34 then (if (lt s).drop (p + 1) = [] ∨ isSep (((lt s).drop (p + 1)).headD 0) = true then some (acc, (lt s).drop (p + 1)) else none) else match fpS ((lt s).drop p) with | some (b, n) => rqF f' (acc ++ [b]) ((lt s).drop (p + n)) | none => none) := by
      show R = _
      rw [← hI.out, hdc, rqF_c, ← hdc]
      simp only [List.drop_drop]
    clear hI hdc
    by_cases q34 : (lt s).getD p 0 = 34
    · rw [if_pos q34] at HJ
      have c1 := b_eq (n := 34) (by decide) q34
      have hcv : (convert 52 9 (.slice qb acc.length cb)).run Tryz.prog wr = .ok (.string (YtchinflkjcebjabGreatDoor.bk acc)) wr := conv_own hO.out
      have HL : Hid (((lt s).drop (p + 1)).length = s.size - (p + 1)) := by show _ = _; rw [List.length_drop, lt_len]
      generalize (lt s).getD p 0 = d at *
      by_cases hend : p + 1 < s.size
      case neg =>
        have HN : Hid (R = some (acc, (lt s).drop (p + 1))) := by show R = _; rw [HJ.out, if_pos (.inl (drop_nil s _ (by omega)))]
        have HV : Hid (rqV s R = .tuple #[.agg #[.string (YtchinflkjcebjabGreatDoor.bk acc), .bool true], .int .i64 ((p : Int) + 1)]) := by
          show _ = _
          rw [HN.out]
          unfold rqV
          simp only
          rw [HL.out, show (s.size : Int) - ((s.size - (p + 1) : Nat) : Int) = (p : Int) + 1 by omega]
        have k1 : ¬ (p : Int) + 1 < (s.size : Int) := by omega
        clear HJ HN HL hend
        go_wp2
        first | (change bodyPost Tryz.prog Tryz.f86 _ Exit.ret _ _) | (simp only [Exit.noGoto]) | skip
        have HF2 : Hid (Res w ((wr.setCell ⟨w.heap.size, 0, none⟩ (.string (YtchinflkjcebjabGreatDoor.bk acc))).setCell ⟨w.heap.size, 1, none⟩ (.bool true)) #[.string (YtchinflkjcebjabGreatDoor.bk acc), .bool true] 125) := (hRs.out.set 0 (.string (YtchinflkjcebjabGreatDoor.bk acc))).set 1 (.bool true)
        generalize (wr.setCell ⟨w.heap.size, 0, none⟩ (.string (YtchinflkjcebjabGreatDoor.bk acc))).setCell ⟨w.heap.size, 1, none⟩ (.bool true) = W4 at HF2 ⊢
        obtain ⟨q0, -⟩ := blk_cell HF2.out.c 0 (.string (YtchinflkjcebjabGreatDoor.bk acc)) rfl
        obtain ⟨q1, -⟩ := blk_cell HF2.out.c 1 (.bool true) rfl
        refine bodyPost_ret (v := .tuple #[.agg #[.string (YtchinflkjcebjabGreatDoor.bk acc), .bool true], .int .i64 ((p : Int) + 1)]) (by simp [results, Tryz.results86, go_sem, q0, q1]) rfl ⟨by rw [HV.out], HF2.out.b⟩
      have ix1 := ix_pl s p 1 ((p : Int) + 1) rfl hend
      have k1 : (p : Int) + 1 < (s.size : Int) := by omega
      have k0 : (0 : Int) ≤ (p : Int) + 1 := by omega
      have HH := drop_hd s (p + 1) hend
      have HH' : Hid (((lt s).drop (p + 1)).headD 0 = (lt s).getD (p + 1) 0) := HH
      clear HH
      have HNE : Hid ((lt s).drop (p + 1) ≠ []) := fun e => by
        have := HL.out
        rw [e] at this
        simp only [List.length_nil] at this
        omega
      rw [HH'.out] at HJ
      generalize (lt s).getD (p + 1) 0 = g at *
      have nb := fun W => rblank_any g W
      by_cases hbl : blkB g = true
      · have HN : Hid (R = some (acc, (lt s).drop (p + 1))) := by show R = _; rw [HJ.out, if_pos (.inr (by rw [sep_bl, hbl]; rfl))]
        have HV : Hid (rqV s R = .tuple #[.agg #[.string (YtchinflkjcebjabGreatDoor.bk acc), .bool true], .int .i64 ((p : Int) + 1)]) := by
          show _ = _
          rw [HN.out]
          unfold rqV
          simp only
          rw [HL.out, show (s.size : Int) - ((s.size - (p + 1) : Nat) : Int) = (p : Int) + 1 by omega]
        rw [hbl] at nb
        clear HJ HN HL HH' HNE hend hbl
        generalize g.toNat = gn at *
        go_wp2_with fail
        refine (nb _).mono ?_
        rintro e w1 ⟨rfl, hw⟩
        subst w1
        go_wp2
        first | (change bodyPost Tryz.prog Tryz.f86 _ Exit.ret _ _) | (simp only [Exit.noGoto]) | skip
        have HF2 : Hid (Res w ((wr.setCell ⟨w.heap.size, 0, none⟩ (.string (YtchinflkjcebjabGreatDoor.bk acc))).setCell ⟨w.heap.size, 1, none⟩ (.bool true)) #[.string (YtchinflkjcebjabGreatDoor.bk acc), .bool true] 125) := (hRs.out.set 0 (.string (YtchinflkjcebjabGreatDoor.bk acc))).set 1 (.bool true)
        generalize (wr.setCell ⟨w.heap.size, 0, none⟩ (.string (YtchinflkjcebjabGreatDoor.bk acc))).setCell ⟨w.heap.size, 1, none⟩ (.bool true) = W4 at HF2 ⊢
        obtain ⟨q0, -⟩ := blk_cell HF2.out.c 0 (.string (YtchinflkjcebjabGreatDoor.bk acc)) rfl
        obtain ⟨q1, -⟩ := blk_cell HF2.out.c 1 (.bool true) rfl
        refine bodyPost_ret (v := .tuple #[.agg #[.string (YtchinflkjcebjabGreatDoor.bk acc), .bool true], .int .i64 ((p : Int) + 1)]) (by simp [results, Tryz.results86, go_sem, q0, q1]) rfl ⟨by rw [HV.out], HF2.out.b⟩
      have hbl' : blkB g = false := by simpa using hbl
      rw [hbl'] at nb
      by_cases h35 : g = 35
      · have HN : Hid (R = some (acc, (lt s).drop (p + 1))) := by show R = _; rw [HJ.out, if_pos (.inr (by rw [h35]; rfl))]
        have HV : Hid (rqV s R = .tuple #[.agg #[.string (YtchinflkjcebjabGreatDoor.bk acc), .bool true], .int .i64 ((p : Int) + 1)]) := by
          show _ = _
          rw [HN.out]
          unfold rqV
          simp only
          rw [HL.out, show (s.size : Int) - ((s.size - (p + 1) : Nat) : Int) = (p : Int) + 1 by omega]
        have g35 := b_eq (n := 35) (by decide) h35
        clear HJ HN HL HH' HNE hend hbl hbl' h35
        generalize g.toNat = gn at *
        go_wp2_with fail
        refine (nb _).mono ?_
        rintro e w1 ⟨rfl, hw⟩
        subst w1
        go_wp2
        first | (change bodyPost Tryz.prog Tryz.f86 _ Exit.ret _ _) | (simp only [Exit.noGoto]) | skip
        have HF2 : Hid (Res w ((wr.setCell ⟨w.heap.size, 0, none⟩ (.string (YtchinflkjcebjabGreatDoor.bk acc))).setCell ⟨w.heap.size, 1, none⟩ (.bool true)) #[.string (YtchinflkjcebjabGreatDoor.bk acc), .bool true] 125) := (hRs.out.set 0 (.string (YtchinflkjcebjabGreatDoor.bk acc))).set 1 (.bool true)
        generalize (wr.setCell ⟨w.heap.size, 0, none⟩ (.string (YtchinflkjcebjabGreatDoor.bk acc))).setCell ⟨w.heap.size, 1, none⟩ (.bool true) = W4 at HF2 ⊢
        obtain ⟨q0, -⟩ := blk_cell HF2.out.c 0 (.string (YtchinflkjcebjabGreatDoor.bk acc)) rfl
        obtain ⟨q1, -⟩ := blk_cell HF2.out.c 1 (.bool true) rfl
        refine bodyPost_ret (v := .tuple #[.agg #[.string (YtchinflkjcebjabGreatDoor.bk acc), .bool true], .int .i64 ((p : Int) + 1)]) (by simp [results, Tryz.results86, go_sem, q0, q1]) rfl ⟨by rw [HV.out], HF2.out.b⟩
      have HN : Hid (R = none) := by
        show R = _
        rw [HJ.out, if_neg (by
          rintro (x | x)
          · exact HNE.out x
          · rw [sep_bl, hbl', Bool.false_or, beq_iff_eq] at x
            exact h35 x)]
      have HV : Hid (rqV s R = .tuple #[.agg #[.string e0, .bool false], .int .i64 (-1)]) := by show _ = _; rw [HN.out]; rfl
      have g35 := b_ne (n := 35) (by decide) h35
      clear HJ HL HH' HNE hend hbl hbl' h35
      generalize g.toNat = gn at *
      go_wp2_with fail
      refine (nb _).mono ?_
      rintro e w1 ⟨rfl, hw⟩
      subst w1
      go_wp2
      first | (change bodyPost Tryz.prog Tryz.f86 _ Exit.ret _ _) | (simp only [Exit.noGoto]) | skip
      have HF2 : Hid (Res w ((wr.setCell ⟨w.heap.size, 0, none⟩ (.string e0)).setCell ⟨w.heap.size, 1, none⟩ (.bool false)) #[.string e0, .bool false] 125) := (hRs.out.set 0 (.string e0)).set 1 (.bool false)
      generalize (wr.setCell ⟨w.heap.size, 0, none⟩ (.string e0)).setCell ⟨w.heap.size, 1, none⟩ (.bool false) = W4 at HF2 ⊢
      obtain ⟨q0, -⟩ := blk_cell HF2.out.c 0 (.string e0) rfl
      obtain ⟨q1, -⟩ := blk_cell HF2.out.c 1 (.bool false) rfl
      refine bodyPost_ret (v := .tuple #[.agg #[.string e0, .bool false], .int .i64 (-1)]) (by simp [results, Tryz.results86, go_sem, q0, q1]) rfl ⟨by rw [HV.out], HF2.out.b⟩
    rw [if_neg q34] at HJ
    have c1 := b_ne (n := 34) (by decide) q34
    have np := fun W => rpiece_any s p hlt (by omega) q34 W
    have hfl : ∀ b n, fpS ((lt s).drop p) = some (b, n) → 1 ≤ n ∧ p + n ≤ s.size := fun b n h => by
      have := fp_ln3 h
      rw [List.length_drop, lt_len] at this
      omega
    have HFL : Hid (∀ b n, fpS ((lt s).drop p) = some (b, n) → 1 ≤ n ∧ p + n ≤ s.size) := hfl
    clear hfl
    cases hfp : fpS ((lt s).drop p) with
    | none =>
      have HN : Hid (R = none) := by show R = _; rw [HJ.out, hfp]
      have HV : Hid (rqV s R = .tuple #[.agg #[.string e0, .bool false], .int .i64 (-1)]) := by show _ = _; rw [HN.out]; rfl
      rw [hfp] at np
      unfold fpV at np
      simp only at np
      clear HJ hfp HFL
      generalize (lt s).getD p 0 = d at *
      go_wp2_with fail
      refine (np _).mono ?_
      rintro e W1 ⟨rfl, hw⟩
      have hRs2 : Hid (Res w W1 #[.string e0, .bool false] 125) := hRs.out.next hw
      clear x0 y0 x1 y1 hRs hO np hw
      obtain ⟨x0, y0⟩ := blk_cell hRs2.out.c 0 (.string e0) rfl
      obtain ⟨x1, y1⟩ := blk_cell hRs2.out.c 1 (.bool false) rfl
      clear wr
      rename World => wr
      have hRs := hRs2
      clear hRs2
      go_wp2
      first | (change bodyPost Tryz.prog Tryz.f86 _ Exit.ret _ _) | (simp only [Exit.noGoto]) | skip
      have HF2 : Hid (Res w ((wr.setCell ⟨w.heap.size, 0, none⟩ (.string e0)).setCell ⟨w.heap.size, 1, none⟩ (.bool false)) #[.string e0, .bool false] 125) := (hRs.out.set 0 (.string e0)).set 1 (.bool false)
      generalize (wr.setCell ⟨w.heap.size, 0, none⟩ (.string e0)).setCell ⟨w.heap.size, 1, none⟩ (.bool false) = W4 at HF2 ⊢
      obtain ⟨q0, -⟩ := blk_cell HF2.out.c 0 (.string e0) rfl
      obtain ⟨q1, -⟩ := blk_cell HF2.out.c 1 (.bool false) rfl
      refine bodyPost_ret (v := .tuple #[.agg #[.string e0, .bool false], .int .i64 (-1)]) (by simp [results, Tryz.results86, go_sem, q0, q1]) rfl ⟨by rw [HV.out], HF2.out.b⟩
    | some bn =>
      obtain ⟨b, n⟩ := bn
      obtain ⟨n1, n2⟩ := HFL.out b n hfp
      rw [hfp] at np HJ
      unfold fpV at np
      simp only at np HJ
      have nz : ((n : Int) == 0) = false := by rw [beq_eq_false_iff_ne]; omega
      have nzz : ¬ (n : Int) = 0 := by omega
      clear hfp HFL
      generalize (lt s).getD p 0 = d at *
      have H1 := one1 (.int .u8 (b.toNat : Int)) rfl
      go_wp2_with fail
      refine (np _).mono ?_
      rintro e W1 ⟨rfl, hw⟩
      have hRs2 : Hid (Res w W1 #[.string e0, .bool false] 125) := hRs.out.next hw
      have hO2 : Hid (W1.ownsRow (w.heap.size + 1) 5 1 (.slice qb acc.length cb) acc.length (bv acc)) := own_next hO.out hw
      have hzr : w.heap.size + 1 ≤ W1.heap.size := hRs2.out.lt
      clear np hw x0 y0 x1 y1 hRs hO
      go_wp2_with (first
        | (at_builtin; refine wpList_app 52 5 _ 1 1 Tryz.underlying52 info5 (by rfl) (by decide) (by decide) (by rfl) _ _ (by rfl) (w.heap.size + 1) (.slice qb acc.length cb) acc.length (bv acc) (by rfl) hO2.out _ (by rfl) H1 (by rfl) (by omega) hzr ?_; intro v4 w4 ho4 hg4; obtain ⟨q4, c4, rfl, -, -⟩ := own_slice ho4.out)
        | fail)
      refine ⟨⟨p + n, f', acc ++ [b], by go_num, by omega, by omega, by omega, ?_, HJ.out.symm, ?_, ?_⟩, by simp [intOf]; omega⟩
      · rw [List.length_append]; simp only [List.length_cons, List.length_nil]; omega
      · rw [List.length_append, bv_app]; exact ho4.out
      · exact (hRs2.out.next ((Below.refl _ W1).alloc (Nat.le_refl _) _)).grow hg4.out.1 (own_ge hO2.out)
end Go.Proofs.YtchinflkjcebjabGreatDoor
namespace Go.Proofs.YtchinflkjcebjabGreatDoor
open Go.RowKit

def tkC (t : Tk) : List Value := [.string (YtchinflkjcebjabGreatDoor.bk t.1), .bool t.2]
def tkV (T : List Tk) : List Value := T.flatMap tkC
theorem tkV_app (a b : List Tk) : tkV (a ++ b) = tkV a ++ tkV b := by unfold tkV; rw [List.flatMap_append]
theorem tkV_one (x : Bs) (b : Bool) : tkV [(x, b)] = [.string (YtchinflkjcebjabGreatDoor.bk x), .bool b] := rfl
theorem two1 (x : ByteArray) (b : Bool) : ∀ u ∈ (#[.string x, .bool b] : Array Value).toList, u.oneCell' = true := by
  intro u hu
  simp only [List.mem_cons, List.not_mem_nil, or_false] at hu
  rcases hu with rfl | rfl <;> rfl
theorem infoTk : (Tryz.prog.info? 125).map (fun i => (i.zero, i.size, i.bytes)) = some (some (.agg #[.string e0, .bool false]), 2, 24) := by kernel_rfl
theorem rwF_nil (f : Nat) : rwF f [] = some [] := by cases f <;> rfl
theorem rwF_c (f : Nat) (c : UInt8) (r : Bs) : rwF (f + 1) (c :: r) = if c = 35 then some [] else if c = 32 ∨ c = 9 then rwF f r else if c = 34 then (match rqF (r.length + 1) [] r with
      | none => none
      | some (t, l) => match rwF f l with | none => none | some T => some ((t, true) :: T))
    else match rwF f ((c :: r).dropWhile (fun d => !isSep d)) with | none => none | some T => some (((c :: r).takeWhile (fun d => !isSep d), false) :: T) := rfl
theorem rqF_suf : ∀ (f : Nat) (acc r t l : Bs), rqF f acc r = some (t, l) → ∃ k, 1 ≤ k ∧ k ≤ r.length ∧ l = r.drop k
  | 0, _, _, _, _, h => by cases h
  | f + 1, acc, [], t, l, h => by cases h
  | f + 1, acc, c :: r, t, l, h => by
    rw [rqF_c] at h
    split at h
    · split at h
      · injection h with h
        injection h with h1 h2
        exact ⟨1, Nat.le_refl _, by simp, by rw [← h2]; rfl⟩
      · cases h
    · split at h
      · rename_i b n hp
        obtain ⟨k, k1, k2, e⟩ := rqF_suf f _ _ _ _ h
        have := fp_ln3 hp
        rw [List.length_drop] at k2
        exact ⟨n + k, by omega, by omega, by rw [e, List.drop_drop]⟩
      · cases h
/-- What was found already, ahead of what is found. -/
def preT (acc : List Tk) (o : Option (List Tk)) : Option (List Tk) := o.map (acc ++ ·)
theorem preT_c (acc : List Tk) (t : Tk) (o : Option (List Tk)) : preT acc (match o with | none => none | some T => some (t :: T)) = preT (acc ++ [t]) o := by
  cases o with
  | none => rfl
  | some T => unfold preT; simp
set_option maxRecDepth 100000 in
set_option maxHeartbeats 16000000 in
theorem rwords_any (s : ByteArray) (hs : s.size ≤ 1048576) (w : World) : Calls Tryz.prog 52 #[.string s] w fun e w' => ∃ v, e = .returned (.tuple #[v, .bool (rwS (lt s)).isSome]) ∧ Hid ((∀ T, rwS (lt s) = some T → w'.ownsRow w.heap.size 125 2 v T.length (tkV T)) ∧ Below w.heap.size w w') := by
  obtain ⟨R, HR⟩ : ∃ R, Hid (R = rwS (lt s)) := ⟨_, rfl⟩
  rw [← HR.out]
  obtain ⟨B, HBo⟩ : ∃ B : Bool, Hid (B = R.isSome) := ⟨_, rfl⟩
  rw [← HBo.out]
  have hz : (s.size : Int) ≤ 1048576 := by omega
  have HR0 : Hid (preT [] (rwF (s.size + 1) (lt s)) = R) := by
    show _ = R
    rw [HR.out]
    unfold rwS preT
    rw [lt_len]
    cases rwF (s.size + 1) (lt s) <;> rfl
  clear HR
  go_enter Tryz.func52, Tryz.ntmps52
  go_wp2_with fail
  go_loopw [4, 5] (fun v i wr => ∃ (p f : Nat) (acc : List Tk), i = .int .i64 (p : Int) ∧ p ≤ s.size ∧ s.size - p < f ∧ acc.length ≤ p ∧ Hid (preT acc (rwF f ((lt s).drop p)) = R) ∧ Hid (wr.ownsRow w.heap.size 125 2 v acc.length (tkV acc)) ∧ Hid (Below w.heap.size w wr)) (fun _ i _ => s.size - (intOf i).toNat)
  case atStart => exact ⟨0, s.size + 1, [], rfl, Nat.zero_le _, by omega, by simp, by show _ = _; rw [List.drop_zero]; exact HR0.out, World.ownsRow_nil _ _ _ _, Below.refl _ _⟩
  case round =>
    obtain ⟨p, f, acc, rfl, hp, hf, hacc, hI, hO, hB⟩ := hrel
    obtain ⟨qb, cb, rfl, -, -⟩ := own_slice hO.out
    clear HR0
    by_cases hlt : p < s.size
    case neg =>
      have HF : Hid (R = some acc) := by show R = _; rw [← hI.out, drop_nil s p (by omega), rwF_nil]; unfold preT; simp
      have p1 : ¬ (p : Int) < (s.size : Int) := by omega
      have hBt : B = true := by rw [HBo.out, HF.out]; rfl
      subst hBt
      clear hI
      go_wp2
      first | (change bodyPost Tryz.prog Tryz.f52 _ Exit.ret _ _) | (simp only [Exit.noGoto])
      refine bodyPost_ret (v := .tuple #[.slice qb acc.length cb, .bool true]) (by simp [results, Tryz.results52, go_sem]) rfl ⟨_, rfl, ?_, hB.out⟩
      intro T hT
      rw [HF.out] at hT
      injection hT with hT
      rw [← hT]
      exact hO.out
    have p0 : (0 : Int) ≤ (p : Int) := by omega
    have p1 : (p : Int) < (s.size : Int) := by omega
    obtain ⟨f', rfl⟩ : ∃ f', f = f' + 1 := ⟨f - 1, by omega⟩
    have hdc := drop_c s p hlt
    have ixp := ix_lt s p hlt
    have HJ : Hid (R = preT acc (if (lt s).getD p 0 = 35 then some [] else if (lt s).getD p 0 = 32 ∨ (lt s).getD p 0 = 9 then rwF f' ((lt s).drop (p + 1)) else if (lt s).getD p 0 = 34 then (match rqF (((lt s).drop (p + 1)).length + 1) [] ((lt s).drop (p + 1)) with
      | none => none
      | some (t, l) => match rwF f' l with | none => none | some T => some ((t, true) :: T))
    else match rwF f' (((lt s).drop p).dropWhile (fun d => !isSep d)) with | none => none | some T => some ((((lt s).drop p).takeWhile (fun d => !isSep d), false) :: T))) := by
      show R = _
      rw [← hI.out, hdc, rwF_c]
    clear hI
    by_cases h35 : (lt s).getD p 0 = 35
    · rw [if_pos h35] at HJ
      have HF : Hid (R = some acc) := by show R = _; rw [HJ.out]; unfold preT; simp
      have hBt : B = true := by rw [HBo.out, HF.out]; rfl
      subst hBt
      have c3 := b_eq (n := 35) (by decide) h35
      clear HJ hdc
      generalize (lt s).getD p 0 = d at *
      go_wp2
      first | (change bodyPost Tryz.prog Tryz.f52 _ Exit.ret _ _) | (simp only [Exit.noGoto])
      refine bodyPost_ret (v := .tuple #[.slice qb acc.length cb, .bool true]) (by simp [results, Tryz.results52, go_sem]) rfl ⟨_, rfl, ?_, hB.out⟩
      intro T hT
      rw [HF.out] at hT
      injection hT with hT
      rw [← hT]
      exact hO.out
    rw [if_neg h35] at HJ
    have c3 : ((((lt s).getD p 0).toNat : Int) != 35) = true := by rw [bne, show ((((lt s).getD p 0).toNat : Int) == 35) = false from b_ne (n := 35) (by decide) h35]; rfl
    have k35 : ¬ (((lt s).getD p 0).toNat : Int) = 35 := fun q => h35 ((byte_eq _ 35 (by decide)).2 q)
    have nb := fun W => rblank_any ((lt s).getD p 0) W
    by_cases hbl : (lt s).getD p 0 = 32 ∨ (lt s).getD p 0 = 9
    · rw [if_pos hbl] at HJ
      have hb1 : blkB ((lt s).getD p 0) = true := by
        unfold blkB
        rcases hbl with q | q <;> rw [q] <;> rfl
      rw [hb1] at nb
      clear hdc hbl hb1
      generalize (lt s).getD p 0 = d at *
      generalize d.toNat = dn at *
      go_wp2_with fail
      refine (nb _).mono ?_
      rintro e w1 ⟨rfl, hw⟩
      subst w1
      go_wp2
      exact ⟨⟨p + 1, f', acc, by go_num, by omega, by omega, by omega, HJ.out.symm, hO, hB⟩, by simp [intOf]; omega⟩
    rw [if_neg hbl] at HJ
    have hb1 : blkB ((lt s).getD p 0) = false := by
      unfold blkB
      simp only [Bool.or_eq_false_iff, beq_eq_false_iff_ne]
      exact ⟨fun q => hbl (.inl q), fun q => hbl (.inr q)⟩
    rw [hb1] at nb
    by_cases h34 : (lt s).getD p 0 = 34
    · rw [if_pos h34] at HJ
      have c4 := b_eq (n := 34) (by decide) h34
      have nq := fun W => rquoted_any s p hlt hs W
      clear hdc hbl hb1
      generalize (lt s).getD p 0 = d at *
      generalize d.toNat = dn at *
      cases hq : rqF (((lt s).drop (p + 1)).length + 1) [] ((lt s).drop (p + 1)) with
      | none =>
        rw [hq] at nq HJ
        have HF : Hid (R = none) := by show R = _; rw [HJ.out]; rfl
        have hBf : B = false := by rw [HBo.out, HF.out]; rfl
        subst hBf
        unfold rqV at nq
        simp only at nq
        clear HJ hq
        go_wp2_with fail
        refine (nb _).mono ?_
        rintro e w1 ⟨rfl, hw⟩
        subst w1
        go_wp2_with fail
        refine (nq _).mono ?_
        rintro e W2 ⟨rfl, hw2⟩
        obtain ⟨W3, hW3⟩ : ∃ W3, W3 = W2.alloc (.cells #[.string e0, .bool false] 125) := ⟨_, rfl⟩
        have HB3 : Hid (Below w.heap.size w W3) := below2 (below2 hB.out hw2) (by rw [hW3]; exact (Below.refl _ W2).alloc (Nat.le_refl _) _)
        go_upto_region 8 with fail
        rw [← hW3]
        clear hW3 hw2 nq nb
        go_wp2
        first | (change bodyPost Tryz.prog Tryz.f52 _ Exit.ret _ _) | (simp only [Exit.noGoto])
        refine bodyPost_ret (v := .tuple #[.slice none 0 0, .bool false]) (by simp [results, Tryz.results52, go_sem]) rfl ⟨_, rfl, ?_, HB3.out⟩
        intro T hT
        rw [HF.out] at hT
        cases hT
      | some tl =>
        obtain ⟨t, l⟩ := tl
        obtain ⟨k, k1, k2, el⟩ := rqF_suf _ _ _ _ _ hq
        rw [hq] at nq HJ
        rw [List.length_drop, lt_len] at k2
        have hll : l.length = s.size - (p + 1 + k) := by rw [el, List.length_drop, List.length_drop, lt_len]; omega
        have el2 : l = (lt s).drop (p + 1 + k) := by rw [el, List.drop_drop]
        have HJ2 : Hid (preT (acc ++ [(t, true)]) (rwF f' ((lt s).drop (p + 1 + k))) = R) := by
          show _ = R
          rw [HJ.out, ← el2]
          exact (preT_c acc (t, true) (rwF f' l)).symm
        unfold rqV at nq
        simp only at nq
        rw [hll, show (s.size : Int) - ((s.size - (p + 1 + k) : Nat) : Int) = ((p + 1 + k : Nat) : Int) by omega] at nq
        have hpk : p + 1 + k ≤ s.size := by omega
        have hpk1 : p + 1 ≤ p + 1 + k := by omega
        clear HJ hq el el2 hll k1 k2
        generalize p + 1 + k = m at *
        have m0 : ¬ (m : Int) < 0 := by omega
        have H1 := two1 (YtchinflkjcebjabGreatDoor.bk t) true
        have HTB : Hid (tkV [(t, true)] = [.string (YtchinflkjcebjabGreatDoor.bk t), .bool true]) := tkV_one t true
        generalize YtchinflkjcebjabGreatDoor.bk t = tb at *
        go_wp2_with fail
        refine (nb _).mono ?_
        rintro e w1 ⟨rfl, hw⟩
        subst w1
        go_wp2_with fail
        refine (nq _).mono ?_
        rintro e W2 ⟨rfl, hw2⟩
        obtain ⟨W3, hW3⟩ : ∃ W3, W3 = W2.alloc (.cells #[.string tb, .bool true] 125) := ⟨_, rfl⟩
        have nb3 : Below W2.heap.size W2 W3 := by rw [hW3]; exact (Below.refl _ W2).alloc (Nat.le_refl _) _
        have HB3 : Hid (Below w.heap.size w W3) := below2 (below2 hB.out hw2) nb3
        have hO3 : Hid (W3.ownsRow w.heap.size 125 2 (.slice qb acc.length cb) acc.length (tkV acc)) := own_next (own_next hO.out hw2) nb3
        have hc : W3.heap[W2.heap.size]? = some (.cells #[.string tb, .bool true] 125) := by rw [hW3]; exact World.alloc_heap_new W2 _
        obtain ⟨x0, -⟩ := blk_cell hc 0 (.string tb) rfl
        obtain ⟨x1, -⟩ := blk_cell hc 1 (.bool true) rfl
        have hzr := HB3.out.size
        go_upto_region 8 with fail
        rw [← hW3]
        clear hW3 hw2 nq nb nb3 hc hO hB
        generalize W2.heap.size = p2 at *
        go_wp2_with (first
          | (at_builtin; refine wpList_app 95 125 _ 2 24 Tryz.underlying95 infoTk (by rfl) (by decide) (by decide) (by rfl) _ _ (by rfl) w.heap.size (.slice qb acc.length cb) acc.length (tkV acc) (by rfl) hO3.out _ (by rfl) H1 (by rfl) (by omega) hzr ?_; intro v4 w4 ho4 hg4; obtain ⟨q4, c4, rfl, -, -⟩ := own_slice ho4.out)
          | fail)
        refine ⟨⟨m, f', acc ++ [(t, true)], rfl, by omega, by omega, by rw [List.length_append]; simp only [List.length_cons, List.length_nil]; omega, HJ2, ?_, ?_⟩, by simp [intOf]; omega⟩
        · rw [List.length_append, tkV_app, HTB.out]; exact ho4.out
        · exact (HB3.out.alloc hzr _).grown hg4.out.1 (by simp; omega) (own_ge hO3.out)
    rw [if_neg h34] at HJ
    have c4 : ((((lt s).getD p 0).toNat : Int) == 34) = false := b_ne (n := 34) (by decide) h34
    have k34 : ¬ (((lt s).getD p 0).toNat : Int) = 34 := fun q => h34 ((byte_eq _ 34 (by decide)).2 q)
    have hsep : isSep ((lt s).getD p 0) = false := by rw [sep_bl, hb1, Bool.false_or, beq_eq_false_iff_ne]; exact h35
    obtain ⟨m, hm⟩ : ∃ m, m = p + (((lt s).drop p).takeWhile (fun c => !isSep c)).length := ⟨_, rfl⟩
    have htw := take_tw ((lt s).drop p)
    have hml := tw_le (fun c => !isSep c) ((lt s).drop p)
    rw [List.length_drop, lt_len] at hml
    have hmp : p < m := by
      rw [hm, hdc, List.takeWhile_cons_of_pos (by rw [hsep]; rfl), List.length_cons]
      omega
    have hms : m ≤ s.size := by omega
    have HX : Hid (preT (acc ++ [(((lt s).drop p).take (m - p), false)]) (rwF f' ((lt s).drop m)) = R) := by
      show _ = R
      rw [HJ.out, ← htw.1, ← htw.2, List.drop_drop, ← hm, show m - p = (((lt s).drop p).takeWhile (fun c => !isSep c)).length by omega]
      rw [htw.1]
      exact (preT_c acc _ _).symm
    have HM : Hid (p + (((lt s).drop p).takeWhile (fun c => !isSep c)).length = m) := hm.symm
    clear HJ hm htw hml hsep hbl hb1 h34 h35 hdc
    generalize (lt s).getD p 0 = d at *
    generalize d.toNat = dn at *
    go_wp2_with fail
    refine (nb _).mono ?_
    rintro e w1 ⟨rfl, hw⟩
    subst w1
    clear nb
    go_wp2_with fail
    go_loopw [5] (fun i wv => ∃ x : Nat, i = .int .i64 (x : Int) ∧ p ≤ x ∧ x ≤ s.size ∧ Hid (x + (((lt s).drop x).takeWhile (fun c => !isSep c)).length = m) ∧ Hid (wv = wr)) (fun i _ => s.size - (intOf i).toNat)
    case atStart => exact ⟨p, rfl, Nat.le_refl _, by omega, HM, rfl⟩
    case round =>
      obtain ⟨x, rfl, hpx, hx, hIx, hwv⟩ := hrel
      have hwv' := hwv.out
      subst hwv'
      have hzr := hB.out.size
      have px : (p : Int) ≤ (x : Int) := by omega
      have xs : (x : Int) ≤ (s.size : Int) := by omega
      by_cases hxl : x < s.size
      case neg =>
        have hxm' : m = x := by
          have h1 := hIx.out
          rw [drop_nil s x (by omega)] at h1
          simp only [List.takeWhile_nil, List.length_nil] at h1
          omega
        have k2 : ¬ (x : Int) < (s.size : Int) := by omega
        clear hIx
        have HXM : Hid (x = m) := by show x = m; omega
        obtain ⟨WD, hWD⟩ : ∃ WD, WD = YtchinflkjcebjabGreatDoor.bk (((lt s).drop p).take (m - p)) := ⟨_, rfl⟩
        have e3 : s.extract p x = WD := by rw [hWD, ← hxm']; exact cut_mid s p m
        have HWD : Hid (WD = YtchinflkjcebjabGreatDoor.bk (((lt s).drop p).take (m - p))) := hWD
        have H1 := two1 WD false
        clear hWD hxm'
        skip
        go_wp2_with (first
          | (at_builtin; refine wpList_app 95 125 _ 2 24 Tryz.underlying95 infoTk (by rfl) (by decide) (by decide) (by rfl) _ _ (by rfl) w.heap.size (.slice qb acc.length cb) acc.length (tkV acc) (by rfl) hO.out _ (by rfl) H1 (by rfl) (by omega) hzr ?_; intro v4 w4 ho4 hg4; obtain ⟨q4, c4, rfl, -, -⟩ := own_slice ho4.out)
          | fail)
        have hxe := HXM.out
        refine ⟨⟨x, f', acc ++ [(((lt s).drop p).take (m - p), false)], rfl, by omega, by omega, by rw [List.length_append]; simp only [List.length_cons, List.length_nil]; omega, ?_, ?_, ?_⟩, by simp [intOf]; omega⟩
        · show _ = _
          rw [hxe]
          exact HX.out
        · rw [List.length_append, tkV_app, tkV_one, ← HWD.out]; exact ho4.out
        · exact (hB.out.alloc hzr _).grown hg4.out.1 (by simp; omega) (own_ge hO.out)
      have x0' : (0 : Int) ≤ (x : Int) := by omega
      have x1' : (x : Int) < (s.size : Int) := by omega
      have ixx := ix_lt s x hxl
      have hdx := drop_c s x hxl
      have nbx := fun W => rblank_any ((lt s).getD x 0) W
      by_cases hsp : isSep ((lt s).getD x 0) = true
      · have hxm' : m = x := by
          have h1 := hIx.out
          rw [hdx, List.takeWhile_cons, hsp] at h1
          simp at h1
          omega
        rw [sep_bl] at hsp
        clear hIx hdx
        by_cases h35 : (lt s).getD x 0 = 35
        · have g3 := b_eq (n := 35) (by decide) h35
          have k35x : (((lt s).getD x 0).toNat : Int) = 35 := by rw [h35]; rfl
          clear hsp nbx h35
          generalize (lt s).getD x 0 = d2 at *
          generalize d2.toNat = dn2 at *
          have HXM : Hid (x = m) := by show x = m; omega
          obtain ⟨WD, hWD⟩ : ∃ WD, WD = YtchinflkjcebjabGreatDoor.bk (((lt s).drop p).take (m - p)) := ⟨_, rfl⟩
          have e3 : s.extract p x = WD := by rw [hWD, ← hxm']; exact cut_mid s p m
          have HWD : Hid (WD = YtchinflkjcebjabGreatDoor.bk (((lt s).drop p).take (m - p))) := hWD
          have H1 := two1 WD false
          clear hWD hxm'
          skip
          go_wp2_with (first
            | (at_builtin; refine wpList_app 95 125 _ 2 24 Tryz.underlying95 infoTk (by rfl) (by decide) (by decide) (by rfl) _ _ (by rfl) w.heap.size (.slice qb acc.length cb) acc.length (tkV acc) (by rfl) hO.out _ (by rfl) H1 (by rfl) (by omega) hzr ?_; intro v4 w4 ho4 hg4; obtain ⟨q4, c4, rfl, -, -⟩ := own_slice ho4.out)
            | fail)
          have hxe := HXM.out
          refine ⟨⟨x, f', acc ++ [(((lt s).drop p).take (m - p), false)], rfl, by omega, by omega, by rw [List.length_append]; simp only [List.length_cons, List.length_nil]; omega, ?_, ?_, ?_⟩, by simp [intOf]; omega⟩
          · show _ = _
            rw [hxe]
            exact HX.out
          · rw [List.length_append, tkV_app, tkV_one, ← HWD.out]; exact ho4.out
          · exact (hB.out.alloc hzr _).grown hg4.out.1 (by simp; omega) (own_ge hO.out)
        · have g3 : ((((lt s).getD x 0).toNat : Int) != 35) = true := by rw [bne, show ((((lt s).getD x 0).toNat : Int) == 35) = false from b_ne (n := 35) (by decide) h35]; rfl
          have k35x : ¬ (((lt s).getD x 0).toNat : Int) = 35 := fun q => h35 ((byte_eq _ 35 (by decide)).2 q)
          have hb2 : blkB ((lt s).getD x 0) = true := by
            rw [Bool.or_eq_true] at hsp
            rcases hsp with q | q
            · exact q
            · rw [beq_iff_eq] at q; exact absurd q h35
          rw [hb2] at nbx
          clear hsp h35 hb2
          generalize (lt s).getD x 0 = d2 at *
          generalize d2.toNat = dn2 at *
          have HXM : Hid (x = m) := by show x = m; omega
          obtain ⟨WD, hWD⟩ : ∃ WD, WD = YtchinflkjcebjabGreatDoor.bk (((lt s).drop p).take (m - p)) := ⟨_, rfl⟩
          have e3 : s.extract p x = WD := by rw [hWD, ← hxm']; exact cut_mid s p m
          have HWD : Hid (WD = YtchinflkjcebjabGreatDoor.bk (((lt s).drop p).take (m - p))) := hWD
          have H1 := two1 WD false
          clear hWD hxm'
          go_wp2_with fail
          refine (nbx _).mono ?_
          rintro e w1 ⟨rfl, hw⟩
          subst w1
          go_wp2_with (first
            | (at_builtin; refine wpList_app 95 125 _ 2 24 Tryz.underlying95 infoTk (by rfl) (by decide) (by decide) (by rfl) _ _ (by rfl) w.heap.size (.slice qb acc.length cb) acc.length (tkV acc) (by rfl) hO.out _ (by rfl) H1 (by rfl) (by omega) hzr ?_; intro v4 w4 ho4 hg4; obtain ⟨q4, c4, rfl, -, -⟩ := own_slice ho4.out)
            | fail)
          have hxe := HXM.out
          refine ⟨⟨x, f', acc ++ [(((lt s).drop p).take (m - p), false)], rfl, by omega, by omega, by rw [List.length_append]; simp only [List.length_cons, List.length_nil]; omega, ?_, ?_, ?_⟩, by simp [intOf]; omega⟩
          · show _ = _
            rw [hxe]
            exact HX.out
          · rw [List.length_append, tkV_app, tkV_one, ← HWD.out]; exact ho4.out
          · exact (hB.out.alloc hzr _).grown hg4.out.1 (by simp; omega) (own_ge hO.out)
      · have HI2 : Hid (x + 1 + (((lt s).drop (x + 1)).takeWhile (fun c => !isSep c)).length = m) := by
          have h1 := hIx.out
          rw [hdx, List.takeWhile_cons, if_pos (by simpa using hsp)] at h1
          simp only [List.length_cons] at h1
          show _ = _
          omega
        have hsp' : isSep ((lt s).getD x 0) = false := by simpa using hsp
        rw [sep_bl, Bool.or_eq_false_iff] at hsp'
        have h35 : (lt s).getD x 0 ≠ 35 := by simpa using hsp'.2
        rw [hsp'.1] at nbx
        have g3 : ((((lt s).getD x 0).toNat : Int) != 35) = true := by rw [bne, show ((((lt s).getD x 0).toNat : Int) == 35) = false from b_ne (n := 35) (by decide) h35]; rfl
        have k35x : ¬ (((lt s).getD x 0).toNat : Int) = 35 := fun q => h35 ((byte_eq _ 35 (by decide)).2 q)
        clear hIx hdx hsp hsp' h35
        generalize (lt s).getD x 0 = d2 at *
        generalize d2.toNat = dn2 at *
        go_wp2_with fail
        refine (nbx _).mono ?_
        rintro e w1 ⟨rfl, hw⟩
        subst w1
        go_wp2
        exact ⟨⟨x + 1, by go_num, by omega, by omega, HI2, hwv⟩, by simp [intOf]; omega⟩
end Go.Proofs.YtchinflkjcebjabGreatDoor
