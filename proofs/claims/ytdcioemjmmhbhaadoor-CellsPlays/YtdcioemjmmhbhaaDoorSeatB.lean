import Derived.Test.YtdcioemjmmhbhaaDoorSeat
namespace Go.Proofs.YtdcioemjmmhbhaaDoor
open Go.RowKit

set_option maxRecDepth 100000 in
set_option maxHeartbeats 4000000 in
theorem does2 {w : World} {sp : Nat} {l0 : Int} {lim : Nat} {A : Hp} {N : Nat} {F : Nat → Prop} (h : SeatAt w sp l0 lim A N F) (on kd n : Int) (rk rn : Int) (rs : ByteArray) (xk xn : Int) (xs : ByteArray) (hrs : rs.size ≤ 9223372036854775807) (hNb : N ≤ 2000000000000) :
    Calls Tryd.prog 29 #[.pointer (some ⟨sp, 0, none⟩), .agg #[.int .i64 2, .int .i64 on, .int .i64 kd, .int .i64 n, .int .i64 rk, .int .i64 rn, .string rs, .int .i64 xk, .int .i64 xn, .string xs]] w fun e w' => e = .returned (.bool true) ∧ Hid (∃ A' F', SeatAt w' sp l0 lim A' N F' ∧ Kp F w w' ∧ ∀ b, F' b → F b ∨ w.heap.size ≤ b) := by
  obtain ⟨hp, mp, FH, FM, h⟩ := h
  have B0 : Below w.heap.size w (w.alloc (.cells #[.int .i64 2, .int .i64 on, .int .i64 kd, .int .i64 n, .int .i64 rk, .int .i64 rn, .string rs, .int .i64 xk, .int .i64 xn, .string xs] 39)) := (Below.refl _ w).alloc (Nat.le_refl _) _
  have sn := sc_new w ⟨2, on, kd, n, (rk, rn, rs), (xk, xn, xs)⟩ 39
  unfold sc at sn
  simp only at sn
  have hzX0 : w.heap.size < (w.alloc (.cells #[.int .i64 2, .int .i64 on, .int .i64 kd, .int .i64 n, .int .i64 rk, .int .i64 rn, .string rs, .int .i64 xk, .int .i64 xn, .string xs] 39)).heap.size := by simp
  go_enter Tryd.func29, Tryd.ntmps29
  go_upto_region 1 with fail
  generalize w.alloc (.cells #[.int .i64 2, .int .i64 on, .int .i64 kd, .int .i64 n, .int .i64 rk, .int .i64 rn, .string rs, .int .i64 xk, .int .i64 xn, .string xs] 39) = X at B0 sn hzX0 ⊢
  have hX := h.next B0
  have v0 : X.cell? ⟨w.heap.size, 0, none⟩ = some (.int .i64 2) := sn 0 _ rfl
  have v4 : X.cell? ⟨w.heap.size, 4, none⟩ = some (.int .i64 rk) := sn 4 _ rfl
  have v5 : X.cell? ⟨w.heap.size, 5, none⟩ = some (.int .i64 rn) := sn 5 _ rfl
  have v6 : X.cell? ⟨w.heap.size, 6, none⟩ = some (.string rs) := sn 6 _ rfl
  have v3 : X.cell? ⟨w.heap.size, 3, none⟩ = some (.int .i64 n) := sn 3 _ rfl
  have c1 := hX.c1
  have HFH : Hid (∀ b, FH b → b < X.heap.size) := hX.hh.flt
  obtain ⟨M, hM⟩ : ∃ M, getH A (rk, rn, rs) n = M := ⟨_, rfl⟩
  obtain ⟨⟨mk, mn, ms⟩, mt⟩ := M
  have HMK : Hid (∀ W, Below X.heap.size X W → Calls Tryd.prog 12 #[.pointer (some ⟨hp, 0, none⟩), .agg #[.int .i64 rk, .int .i64 rn, .string rs], .int .i64 n] W fun e w' => ∃ v, e = .returned v ∧ (v = .tuple #[.agg #[.int .i64 mk, .int .i64 mn, .string ms], .int .i64 mt] ∧ Hid (∃ F', HeapOf w' hp lim A F' ∧ Kp FH W w' ∧ ∀ b, F' b → FH b ∨ W.heap.size ≤ b))) := fun W hW => by
    have := get_any (hX.hh.next hW) (rk, rn, rs) n hrs
    rw [hM] at this
    exact this.mono fun e w' ⟨e1, e2⟩ => ⟨_, e1, rfl, FH, (hX.hh.next hW).next e2, Kp.of e2, fun b hb => .inl hb⟩
  have SV : Hid (∀ W, Kp FH X W → W.cell? ⟨sp, 1, none⟩ = some (.pointer (some ⟨hp, 0, none⟩)) ∧ W.cell? ⟨w.heap.size, 4, none⟩ = some (.int .i64 rk) ∧ W.cell? ⟨w.heap.size, 5, none⟩ = some (.int .i64 rn) ∧ W.cell? ⟨w.heap.size, 6, none⟩ = some (.string rs) ∧ W.cell? ⟨w.heap.size, 3, none⟩ = some (.int .i64 n) ∧ Kp FH X W) := fun W hW => by
    have e1 := hW.block sp hX.blk.lt (fun q => (hX.fh sp q).2.2 rfl)
    have e2 := hW.block w.heap.size hzX0 (fun q => by have := h.flt _ (h.fh _ q).1; omega)
    exact ⟨(World.cell?_of_block (a := ⟨sp, 1, none⟩) e1).trans c1, (World.cell?_of_block (a := ⟨w.heap.size, 4, none⟩) e2).trans v4, (World.cell?_of_block (a := ⟨w.heap.size, 5, none⟩) e2).trans v5, (World.cell?_of_block (a := ⟨w.heap.size, 6, none⟩) e2).trans v6, (World.cell?_of_block (a := ⟨w.heap.size, 3, none⟩) e2).trans v3, hW⟩
  have hcd : Kp FH X X.drew := Kp.of (Below.refl _ _).drew
  have HMM : Hid (getH A (rk, rn, rs) n = ((mk, mn, ms), mt)) := hM
  have HRG : Hid (rngA A) := h.rg
  clear sn hM
  go_wp2_with fail
  clear v0
  go_region_held3 (fun w' => w'.cell? ⟨sp, 1, none⟩ = some (.pointer (some ⟨hp, 0, none⟩)) ∧ w'.cell? ⟨w.heap.size, 4, none⟩ = some (.int .i64 rk) ∧ w'.cell? ⟨w.heap.size, 5, none⟩ = some (.int .i64 rn) ∧ w'.cell? ⟨w.heap.size, 6, none⟩ = some (.string rs) ∧ w'.cell? ⟨w.heap.size, 3, none⟩ = some (.int .i64 n) ∧ Kp FH X w') (first | exact SV.out _ (by assumption) | exact SV.out _ (Kp.alloc (by assumption) _) | exact SV.out _ (Kp.setCell (Kp.setCell (Kp.setCell (by assumption) (.inr (Nat.le_refl _)) _) (.inr (Nat.le_refl _)) _) (.inr (Nat.le_refl _)) _) | exact SV.out _ (Kp.setCell (Kp.setCell (Kp.setCell (Kp.alloc (by assumption) _) (.inr hz3) _) (.inr hz3) _) (.inr hz3) _))
    (first
    | (go_at_call 12; refine (HMK.out _ (by first | exact (Below.refl _ _).drew | exact ((Below.refl _ _).drew).alloc (Nat.le_refl _) _)).mono ?_; rintro e w3 ⟨v3', rfl, rfl, hq3⟩; replace hcd : Kp FH X w3 := (by obtain ⟨F', -, k, -⟩ := hq3.out; first | exact (Kp.of (F := FH) (Below.refl _ X).drew).trans k (fun _ _ q => q) | exact (Kp.of (F := FH) (((Below.refl _ X).drew).alloc (Nat.le_refl _) _)).trans k (fun _ _ q => q)); have hz3 : X.heap.size ≤ w3.heap.size := hcd.size; first | (obtain ⟨⟨⟨y0, g0⟩, ⟨y1, g1⟩⟩, y2, g2⟩ := keep3 HFH.out hq3) | skip))
  all_goals
    clear hcd SV HMK hz3
    try clear y0 y1 y2 g0 g1 g2
    first
      | (have HG0 := leaf1 (X := X) mk mn ms (R := fun W F' => HeapOf W hp lim A F') (fun _ _ _ h1 h2 h3 => h1.same h2 h3) (fun _ _ h1 => h1.flt) hq3
         generalize w3.alloc (.cells #[.int .i64 mk, .int .i64 mn, .string ms] 37) = W4 at HG0 ⊢
         generalize w3.heap.size = ba at HG0 ⊢)
      | (have HG0 := leaf2 (X := X) mk mn ms (R := fun W F' => HeapOf W hp lim A F') HFH.out (fun _ _ _ h1 h2 h3 => h1.same h2 h3) hq3
         change Exit.then _ _ Exit.normal _ (put3 w3 X.heap.size mk mn ms)
         generalize put3 w3 X.heap.size mk mn ms = W4 at HG0 ⊢
         obtain ⟨ba, hba⟩ : ∃ ba, X.heap.size = ba := ⟨_, rfl⟩
         rw [hba] at HG0 ⊢
         replace HG0 : Gone X W4 FH (fun W F' => HeapOf W hp lim A F') ∧ Box3 W4 ba mk mn ms ∧ X.heap.size ≤ ba ∧ ba < W4.heap.size := ⟨HG0.1, HG0.2.1, by omega, HG0.2.2.2⟩
         clear hba)
    clear hq3
    have HG : Hid (Gone X W4 FH (fun W F' => HeapOf W hp lim A F')) := HG0.1
    obtain ⟨-, bx, hba1, hba2⟩ := HG0
    have HKX : Hid (Kp FH X W4) := by obtain ⟨F', -, k, -⟩ := HG.out; exact k
    have hzW : X.heap.size ≤ W4.heap.size := HKX.out.size
    have hM4 : RefOf W4 mp lim A N FM := hX.hm.kept HKX.out (fun b hb q => (hX.fh b q).2.1 hb)
    have e1 := HKX.out.block sp hX.blk.lt (fun q => (hX.fh sp q).2.2 rfl)
    have e2 := HKX.out.block w.heap.size hzX0 (fun q => by have := h.flt _ (h.fh _ q).1; omega)
    have c2 := (World.cell?_of_block (a := ⟨sp, 2, none⟩) e1).trans hX.c2
    have u4 := (World.cell?_of_block (a := ⟨w.heap.size, 4, none⟩) e2).trans v4
    have u5 := (World.cell?_of_block (a := ⟨w.heap.size, 5, none⟩) e2).trans v5
    have u6 := (World.cell?_of_block (a := ⟨w.heap.size, 6, none⟩) e2).trans v6
    have u3 := (World.cell?_of_block (a := ⟨w.heap.size, 3, none⟩) e2).trans v3
    have HFM : Hid (∀ b, FM b → b < w.heap.size) := fun b hb => h.flt b (h.fm b hb).1
    have HFM4 : Hid (∀ b, FM b → b < W4.heap.size) := fun b hb => by have := HFM.out b hb; omega
    have HRM : Hid (∀ W, Below W4.heap.size W4 W → Calls Tryd.prog 50 #[.pointer (some ⟨mp, 0, none⟩), .agg #[.int .i64 rk, .int .i64 rn, .string rs], .int .i64 n] W fun e w' => ∃ v, e = .returned v ∧ (v = .tuple #[.agg #[.int .i64 mk, .int .i64 mn, .string ms], .int .i64 mt] ∧ Hid (∃ F', RefOf w' mp lim A N F' ∧ Kp FM W w' ∧ ∀ b, F' b → FM b ∨ W.heap.size ≤ b))) := fun W hW => by
      have := rgetA_any (hM4.next hW) hNb (rk, rn, rs) n
      rw [HMM.out] at this
      exact this.mono fun e w' ⟨e1, e2⟩ => ⟨_, e1, rfl, FM, (hM4.next hW).next e2, Kp.of e2, fun b hb => .inl hb⟩
    have SV : Hid (∀ W, Kp FM W4 W → W.cell? ⟨sp, 2, none⟩ = some (.pointer (some ⟨mp, 0, none⟩)) ∧ W.cell? ⟨w.heap.size, 4, none⟩ = some (.int .i64 rk) ∧ W.cell? ⟨w.heap.size, 5, none⟩ = some (.int .i64 rn) ∧ W.cell? ⟨w.heap.size, 6, none⟩ = some (.string rs) ∧ W.cell? ⟨w.heap.size, 3, none⟩ = some (.int .i64 n) ∧ Kp FM W4 W) := fun W hW => by
      have e1 := hW.block sp (by have := hX.blk.lt; omega) (fun q => (hX.fm sp q).2 rfl)
      have e2 := hW.block w.heap.size (by omega) (fun q => by have := HFM.out _ q; omega)
      exact ⟨(World.cell?_of_block (a := ⟨sp, 2, none⟩) e1).trans c2, (World.cell?_of_block (a := ⟨w.heap.size, 4, none⟩) e2).trans u4, (World.cell?_of_block (a := ⟨w.heap.size, 5, none⟩) e2).trans u5, (World.cell?_of_block (a := ⟨w.heap.size, 6, none⟩) e2).trans u6, (World.cell?_of_block (a := ⟨w.heap.size, 3, none⟩) e2).trans u3, hW⟩
    have hcd : Kp FM W4 W4.drew := Kp.of (Below.refl _ _).drew
    go_wp2_with fail
    clear c1 v3 v4 v5 v6 u3 u4 u5 u6 c2
    go_region_held3 (fun w' => w'.cell? ⟨sp, 2, none⟩ = some (.pointer (some ⟨mp, 0, none⟩)) ∧ w'.cell? ⟨w.heap.size, 4, none⟩ = some (.int .i64 rk) ∧ w'.cell? ⟨w.heap.size, 5, none⟩ = some (.int .i64 rn) ∧ w'.cell? ⟨w.heap.size, 6, none⟩ = some (.string rs) ∧ w'.cell? ⟨w.heap.size, 3, none⟩ = some (.int .i64 n) ∧ Kp FM W4 w') (first | exact SV.out _ (by assumption) | exact SV.out _ (Kp.alloc (by assumption) _) | exact SV.out _ (Kp.setCell (Kp.setCell (Kp.setCell (by assumption) (.inr (Nat.le_refl _)) _) (.inr (Nat.le_refl _)) _) (.inr (Nat.le_refl _)) _) | exact SV.out _ (Kp.setCell (Kp.setCell (Kp.setCell (Kp.alloc (by assumption) _) (.inr hz3) _) (.inr hz3) _) (.inr hz3) _))
      (first
      | (go_at_call 50; refine (HRM.out _ (by first | exact (Below.refl _ _).drew | exact ((Below.refl _ _).drew).alloc (Nat.le_refl _) _)).mono ?_; rintro e w3 ⟨v3', rfl, rfl, hq3⟩; replace hcd : Kp FM W4 w3 := (by obtain ⟨F', -, k, -⟩ := hq3.out; first | exact (Kp.of (F := FM) (Below.refl _ W4).drew).trans k (fun _ _ q => q) | exact (Kp.of (F := FM) (((Below.refl _ W4).drew).alloc (Nat.le_refl _) _)).trans k (fun _ _ q => q)); have hz3 : W4.heap.size ≤ w3.heap.size := hcd.size; first | (obtain ⟨⟨⟨y0, g0⟩, ⟨y1, g1⟩⟩, y2, g2⟩ := keep3 HFM4.out hq3) | skip))
    all_goals
      clear hcd SV HRM hz3
      try clear y0 y1 y2 g0 g1 g2
      first
        | (have HG0 := leaf1 (X := W4) mk mn ms (R := fun W F' => RefOf W mp lim A N F') (fun _ _ _ h1 h2 h3 => h1.same h2 h3) (fun _ _ h1 => h1.flt) hq3
           generalize w3.alloc (.cells #[.int .i64 mk, .int .i64 mn, .string ms] 37) = W5 at HG0 ⊢
           generalize w3.heap.size = bb at HG0 ⊢)
        | (have HG0 := leaf2 (X := W4) mk mn ms (R := fun W F' => RefOf W mp lim A N F') HFM4.out (fun _ _ _ h1 h2 h3 => h1.same h2 h3) hq3
           change Exit.then _ _ Exit.normal _ (put3 w3 W4.heap.size mk mn ms)
           generalize put3 w3 W4.heap.size mk mn ms = W5 at HG0 ⊢
           obtain ⟨bb, hbb⟩ : ∃ bb, W4.heap.size = bb := ⟨_, rfl⟩
           rw [hbb] at HG0 ⊢
           replace HG0 : Gone W4 W5 FM (fun W F' => RefOf W mp lim A N F') ∧ Box3 W5 bb mk mn ms ∧ W4.heap.size ≤ bb ∧ bb < W5.heap.size := ⟨HG0.1, HG0.2.1, by omega, HG0.2.2.2⟩
           clear hbb)
      clear hq3
      obtain ⟨hG2, bx2, hbb1, hbb2⟩ := HG0
      have HFIN : Hid (∃ A' F', SeatAt W5 sp l0 lim A' N F' ∧ Kp F w W5 ∧ ∀ b, F' b → F b ∨ w.heap.size ≤ b) := by
        obtain ⟨FH', q1, q2, q3⟩ := HG.out
        obtain ⟨FM', q4, q5, q6⟩ := hG2
        have hB0s := B0.size
        obtain ⟨F', r1, r2, r3⟩ := h.goes ((Kp.of (F := FH) B0).trans q2 (fun _ _ q => q)) q1 (fun b hb => by rcases q3 b hb with r | r; exact .inl r; exact .inr (by omega)) (Below.refl _ _) q5 q4 q6 (Below.refl _ _) HRG.out
        exact ⟨A, F', r1, r2, r3⟩
      have bx1 : Box3 W5 ba mk mn ms := by
        obtain ⟨FM', -, q5, -⟩ := hG2
        exact bx.same (q5.block ba hba2 (fun q => by have := HFM.out _ q; omega))
      clear hG2
      obtain ⟨⟨⟨a0, -⟩, ⟨a1, -⟩⟩, a2, -⟩ := bx1
      obtain ⟨⟨⟨d0, -⟩, ⟨d1, -⟩⟩, d2, -⟩ := bx2
      have ev := eqlVV mk mn ms
      go_wp2
      go_ret
      exact ⟨by first | rfl | simp, HFIN⟩

set_option maxRecDepth 100000 in
set_option maxHeartbeats 4000000 in
theorem does3 {w : World} {sp : Nat} {l0 : Int} {lim : Nat} {A : Hp} {N : Nat} {F : Nat → Prop} (h : SeatAt w sp l0 lim A N F) (on kd n : Int) (rk rn : Int) (rs : ByteArray) (xk xn : Int) (xs : ByteArray) (hrs : rs.size ≤ 9223372036854775807) (hxs : xs.size ≤ 9223372036854775807) (hxr : inR xn) (hNb : N ≤ 2000000000000) :
    Calls Tryd.prog 29 #[.pointer (some ⟨sp, 0, none⟩), .agg #[.int .i64 3, .int .i64 on, .int .i64 kd, .int .i64 n, .int .i64 rk, .int .i64 rn, .string rs, .int .i64 xk, .int .i64 xn, .string xs]] w fun e w' => e = .returned (.bool true) ∧ Hid (∃ A' F', SeatAt w' sp l0 lim A' (N + 1) F' ∧ Kp F w w' ∧ ∀ b, F' b → F b ∨ w.heap.size ≤ b) := by
  obtain ⟨hp, mp, FH, FM, h⟩ := h
  have B0 : Below w.heap.size w (w.alloc (.cells #[.int .i64 3, .int .i64 on, .int .i64 kd, .int .i64 n, .int .i64 rk, .int .i64 rn, .string rs, .int .i64 xk, .int .i64 xn, .string xs] 39)) := (Below.refl _ w).alloc (Nat.le_refl _) _
  have sn := sc_new w ⟨3, on, kd, n, (rk, rn, rs), (xk, xn, xs)⟩ 39
  unfold sc at sn
  simp only at sn
  have hzX0 : w.heap.size < (w.alloc (.cells #[.int .i64 3, .int .i64 on, .int .i64 kd, .int .i64 n, .int .i64 rk, .int .i64 rn, .string rs, .int .i64 xk, .int .i64 xn, .string xs] 39)).heap.size := by simp
  go_enter Tryd.func29, Tryd.ntmps29
  go_upto_region 1 with fail
  generalize w.alloc (.cells #[.int .i64 3, .int .i64 on, .int .i64 kd, .int .i64 n, .int .i64 rk, .int .i64 rn, .string rs, .int .i64 xk, .int .i64 xn, .string xs] 39) = X at B0 sn hzX0 ⊢
  have hX := h.next B0
  have v0 : X.cell? ⟨w.heap.size, 0, none⟩ = some (.int .i64 3) := sn 0 _ rfl
  have v4 : X.cell? ⟨w.heap.size, 4, none⟩ = some (.int .i64 rk) := sn 4 _ rfl
  have v5 : X.cell? ⟨w.heap.size, 5, none⟩ = some (.int .i64 rn) := sn 5 _ rfl
  have v6 : X.cell? ⟨w.heap.size, 6, none⟩ = some (.string rs) := sn 6 _ rfl
  have v3 : X.cell? ⟨w.heap.size, 3, none⟩ = some (.int .i64 n) := sn 3 _ rfl
  have v7 : X.cell? ⟨w.heap.size, 7, none⟩ = some (.int .i64 xk) := sn 7 _ rfl
  have v8 : X.cell? ⟨w.heap.size, 8, none⟩ = some (.int .i64 xn) := sn 8 _ rfl
  have v9 : X.cell? ⟨w.heap.size, 9, none⟩ = some (.string xs) := sn 9 _ rfl
  have c1 := hX.c1
  have HFH : Hid (∀ b, FH b → b < X.heap.size) := hX.hh.flt
  obtain ⟨M, hM⟩ : ∃ M, putH A (rk, rn, rs) n (xk, xn, xs) = M := ⟨_, rfl⟩
  obtain ⟨M1, mt⟩ := M
  have HMK : Hid (∀ W, Below X.heap.size X W → Calls Tryd.prog 31 #[.pointer (some ⟨hp, 0, none⟩), .agg #[.int .i64 rk, .int .i64 rn, .string rs], .int .i64 n, .agg #[.int .i64 xk, .int .i64 xn, .string xs]] W fun e w' => ∃ v, e = .returned v ∧ (v = .int .i64 mt ∧ Hid (HeapOf w' hp lim M1 FH ∧ Kp FH W w'))) := fun W hW => by
    have := put_any (hX.hh.next hW) (rk, rn, rs) n (xk, xn, xs) hrs hxs
    rw [hM] at this
    exact this.mono fun e w' ⟨e1, e2⟩ => ⟨_, e1, rfl, e2⟩
  have SV : Hid (∀ W, Kp FH X W → W.cell? ⟨sp, 1, none⟩ = some (.pointer (some ⟨hp, 0, none⟩)) ∧ W.cell? ⟨w.heap.size, 4, none⟩ = some (.int .i64 rk) ∧ W.cell? ⟨w.heap.size, 5, none⟩ = some (.int .i64 rn) ∧ W.cell? ⟨w.heap.size, 6, none⟩ = some (.string rs) ∧ W.cell? ⟨w.heap.size, 3, none⟩ = some (.int .i64 n) ∧ W.cell? ⟨w.heap.size, 7, none⟩ = some (.int .i64 xk) ∧ W.cell? ⟨w.heap.size, 8, none⟩ = some (.int .i64 xn) ∧ W.cell? ⟨w.heap.size, 9, none⟩ = some (.string xs) ∧ Kp FH X W) := fun W hW => by
    have e1 := hW.block sp hX.blk.lt (fun q => (hX.fh sp q).2.2 rfl)
    have e2 := hW.block w.heap.size hzX0 (fun q => by have := h.flt _ (h.fh _ q).1; omega)
    exact ⟨(World.cell?_of_block (a := ⟨sp, 1, none⟩) e1).trans c1, (World.cell?_of_block (a := ⟨w.heap.size, 4, none⟩) e2).trans v4, (World.cell?_of_block (a := ⟨w.heap.size, 5, none⟩) e2).trans v5, (World.cell?_of_block (a := ⟨w.heap.size, 6, none⟩) e2).trans v6, (World.cell?_of_block (a := ⟨w.heap.size, 3, none⟩) e2).trans v3, (World.cell?_of_block (a := ⟨w.heap.size, 7, none⟩) e2).trans v7, (World.cell?_of_block (a := ⟨w.heap.size, 8, none⟩) e2).trans v8, (World.cell?_of_block (a := ⟨w.heap.size, 9, none⟩) e2).trans v9, hW⟩
  have hcd : Kp FH X X.drew := Kp.of (Below.refl _ _).drew
  have HMM : Hid (putH A (rk, rn, rs) n (xk, xn, xs) = (M1, mt)) := hM
  have HRG : Hid (rngA M1) := by
    have := rng_take (lim := lim) (s := ⟨3, on, kd, n, (rk, rn, rs), (xk, xn, xs)⟩) h.rg hxr
    unfold takeS at this
    rw [if_neg (show ¬ (3 : Int) = 1 by decide), if_pos rfl, hM] at this
    exact this
  clear sn hM
  go_wp2_with fail
  clear v0
  go_region_held3 (fun w' => w'.cell? ⟨sp, 1, none⟩ = some (.pointer (some ⟨hp, 0, none⟩)) ∧ w'.cell? ⟨w.heap.size, 4, none⟩ = some (.int .i64 rk) ∧ w'.cell? ⟨w.heap.size, 5, none⟩ = some (.int .i64 rn) ∧ w'.cell? ⟨w.heap.size, 6, none⟩ = some (.string rs) ∧ w'.cell? ⟨w.heap.size, 3, none⟩ = some (.int .i64 n) ∧ w'.cell? ⟨w.heap.size, 7, none⟩ = some (.int .i64 xk) ∧ w'.cell? ⟨w.heap.size, 8, none⟩ = some (.int .i64 xn) ∧ w'.cell? ⟨w.heap.size, 9, none⟩ = some (.string xs) ∧ Kp FH X w') (exact SV.out _ (by assumption))
    (first
    | (go_at_call 31; refine (HMK.out _ (Below.refl _ _).drew).mono ?_; rintro e w3 ⟨v3', rfl, rfl, hq3⟩; replace hcd : Kp FH X w3 := (Kp.of (F := FH) (Below.refl _ X).drew).trans hq3.out.2 (fun _ _ q => q)))
  have HKX : Hid (Kp FH X w3) := hcd
  have HG1 : Hid (HeapOf w3 hp lim M1 FH) := hq3.out.1
  clear hcd SV HMK hq3
  generalize w3 = W4 at HKX HG1 ⊢
  have hzW : X.heap.size ≤ W4.heap.size := HKX.out.size
  have hM4 : RefOf W4 mp lim A N FM := hX.hm.kept HKX.out (fun b hb q => (hX.fh b q).2.1 hb)
  have e1 := HKX.out.block sp hX.blk.lt (fun q => (hX.fh sp q).2.2 rfl)
  have e2 := HKX.out.block w.heap.size hzX0 (fun q => by have := h.flt _ (h.fh _ q).1; omega)
  have c2 := (World.cell?_of_block (a := ⟨sp, 2, none⟩) e1).trans hX.c2
  have u4 := (World.cell?_of_block (a := ⟨w.heap.size, 4, none⟩) e2).trans v4
  have u5 := (World.cell?_of_block (a := ⟨w.heap.size, 5, none⟩) e2).trans v5
  have u6 := (World.cell?_of_block (a := ⟨w.heap.size, 6, none⟩) e2).trans v6
  have u3 := (World.cell?_of_block (a := ⟨w.heap.size, 3, none⟩) e2).trans v3
  have u7 := (World.cell?_of_block (a := ⟨w.heap.size, 7, none⟩) e2).trans v7
  have u8 := (World.cell?_of_block (a := ⟨w.heap.size, 8, none⟩) e2).trans v8
  have u9 := (World.cell?_of_block (a := ⟨w.heap.size, 9, none⟩) e2).trans v9
  have HFM : Hid (∀ b, FM b → b < w.heap.size) := fun b hb => h.flt b (h.fm b hb).1
  have HRM : Hid (∀ W, Below W4.heap.size W4 W → Calls Tryd.prog 47 #[.pointer (some ⟨mp, 0, none⟩), .agg #[.int .i64 rk, .int .i64 rn, .string rs], .int .i64 n, .agg #[.int .i64 xk, .int .i64 xn, .string xs]] W fun e w' => ∃ v, e = .returned v ∧ (v = .int .i64 mt ∧ Hid (∃ F', RefOf w' mp lim M1 (N + 1) F' ∧ Kp FM W w' ∧ ∀ b, F' b → FM b ∨ W.heap.size ≤ b))) := fun W hW => by
    have := rput_any (hM4.next hW) hNb (rk, rn, rs) n (xk, xn, xs) hxs
    rw [HMM.out] at this
    exact this.mono fun e w' ⟨e1, e2⟩ => ⟨_, e1, rfl, e2⟩
  have SV : Hid (∀ W, Kp FM W4 W → W.cell? ⟨sp, 2, none⟩ = some (.pointer (some ⟨mp, 0, none⟩)) ∧ W.cell? ⟨w.heap.size, 4, none⟩ = some (.int .i64 rk) ∧ W.cell? ⟨w.heap.size, 5, none⟩ = some (.int .i64 rn) ∧ W.cell? ⟨w.heap.size, 6, none⟩ = some (.string rs) ∧ W.cell? ⟨w.heap.size, 3, none⟩ = some (.int .i64 n) ∧ W.cell? ⟨w.heap.size, 7, none⟩ = some (.int .i64 xk) ∧ W.cell? ⟨w.heap.size, 8, none⟩ = some (.int .i64 xn) ∧ W.cell? ⟨w.heap.size, 9, none⟩ = some (.string xs) ∧ Kp FM W4 W) := fun W hW => by
    have e1 := hW.block sp (by have := hX.blk.lt; omega) (fun q => (hX.fm sp q).2 rfl)
    have e2 := hW.block w.heap.size (by omega) (fun q => by have := HFM.out _ q; omega)
    exact ⟨(World.cell?_of_block (a := ⟨sp, 2, none⟩) e1).trans c2, (World.cell?_of_block (a := ⟨w.heap.size, 4, none⟩) e2).trans u4, (World.cell?_of_block (a := ⟨w.heap.size, 5, none⟩) e2).trans u5, (World.cell?_of_block (a := ⟨w.heap.size, 6, none⟩) e2).trans u6, (World.cell?_of_block (a := ⟨w.heap.size, 3, none⟩) e2).trans u3, (World.cell?_of_block (a := ⟨w.heap.size, 7, none⟩) e2).trans u7, (World.cell?_of_block (a := ⟨w.heap.size, 8, none⟩) e2).trans u8, (World.cell?_of_block (a := ⟨w.heap.size, 9, none⟩) e2).trans u9, hW⟩
  have hcd : Kp FM W4 W4.drew := Kp.of (Below.refl _ _).drew
  go_wp2_with fail
  clear c1 v3 v4 v5 v6 v7 v8 v9 u3 u4 u5 u6 u7 u8 u9 c2
  go_region_held3 (fun w' => w'.cell? ⟨sp, 2, none⟩ = some (.pointer (some ⟨mp, 0, none⟩)) ∧ w'.cell? ⟨w.heap.size, 4, none⟩ = some (.int .i64 rk) ∧ w'.cell? ⟨w.heap.size, 5, none⟩ = some (.int .i64 rn) ∧ w'.cell? ⟨w.heap.size, 6, none⟩ = some (.string rs) ∧ w'.cell? ⟨w.heap.size, 3, none⟩ = some (.int .i64 n) ∧ w'.cell? ⟨w.heap.size, 7, none⟩ = some (.int .i64 xk) ∧ w'.cell? ⟨w.heap.size, 8, none⟩ = some (.int .i64 xn) ∧ w'.cell? ⟨w.heap.size, 9, none⟩ = some (.string xs) ∧ Kp FM W4 w') (exact SV.out _ (by assumption))
    (first
    | (go_at_call 47; refine (HRM.out _ (Below.refl _ _).drew).mono ?_; rintro e w3 ⟨v3', rfl, rfl, hq3⟩; replace hcd : Kp FM W4 w3 := (by obtain ⟨F', -, k, -⟩ := hq3.out; exact (Kp.of (F := FM) (Below.refl _ W4).drew).trans k (fun _ _ q => q))))
  clear hcd SV HRM
  have HFIN : Hid (∃ A' F', SeatAt w3 sp l0 lim A' (N + 1) F' ∧ Kp F w w3 ∧ ∀ b, F' b → F b ∨ w.heap.size ≤ b) := by
    obtain ⟨FM', q4, q5, q6⟩ := hq3.out
    obtain ⟨F', r1, r2, r3⟩ := h.goes ((Kp.of (F := FH) B0).trans HKX.out (fun _ _ q => q)) HG1.out (fun b hb => .inl hb) ((Below.refl _ _).drew) q5 q4 q6 (Below.refl _ _) HRG.out
    exact ⟨M1, F', r1, r2, r3⟩
  clear hq3
  go_wp2
  go_ret
  exact ⟨by first | rfl | simp, HFIN⟩
end Go.Proofs.YtdcioemjmmhbhaaDoor
