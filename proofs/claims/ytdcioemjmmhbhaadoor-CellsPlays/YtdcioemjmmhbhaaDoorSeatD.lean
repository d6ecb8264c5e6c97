import Derived.Test.YtdcioemjmmhbhaaDoorSeatB
import Derived.Test.YtdcioemjmmhbhaaDoorLoad
import Derived.Test.YtdcioemjmmhbhaaDoorRSame
import Derived.Test.YtdcioemjmmhbhaaDoorArrs
import Derived.Test.YtdcioemjmmhbhaaDoorClone
namespace Go.Proofs.YtdcioemjmmhbhaaDoor
open Go.RowKit

set_option maxRecDepth 100000 in
set_option maxHeartbeats 4000000 in
theorem does4 {w : World} {sp : Nat} {l0 : Int} {lim : Nat} {A : Hp} {N : Nat} {F : Nat → Prop} (h : SeatAt w sp l0 lim A N F) (on kd n : Int) (rk rn : Int) (rs : ByteArray) (xk xn : Int) (xs : ByteArray) (hrs : rs.size ≤ 9223372036854775807) :
    Calls Tryd.prog 29 #[.pointer (some ⟨sp, 0, none⟩), .agg #[.int .i64 4, .int .i64 on, .int .i64 kd, .int .i64 n, .int .i64 rk, .int .i64 rn, .string rs, .int .i64 xk, .int .i64 xn, .string xs]] w fun e w' => e = .returned (.bool true) ∧ Hid (∃ A' F', SeatAt w' sp l0 lim A' N F' ∧ Kp F w w' ∧ ∀ b, F' b → F b ∨ w.heap.size ≤ b) := by
  obtain ⟨hp, mp, FH, FM, h⟩ := h
  have B0 : Below w.heap.size w (w.alloc (.cells #[.int .i64 4, .int .i64 on, .int .i64 kd, .int .i64 n, .int .i64 rk, .int .i64 rn, .string rs, .int .i64 xk, .int .i64 xn, .string xs] 39)) := (Below.refl _ w).alloc (Nat.le_refl _) _
  have sn := sc_new w ⟨4, on, kd, n, (rk, rn, rs), (xk, xn, xs)⟩ 39
  unfold sc at sn
  simp only at sn
  have hzX0 : w.heap.size < (w.alloc (.cells #[.int .i64 4, .int .i64 on, .int .i64 kd, .int .i64 n, .int .i64 rk, .int .i64 rn, .string rs, .int .i64 xk, .int .i64 xn, .string xs] 39)).heap.size := by simp
  go_enter Tryd.func29, Tryd.ntmps29
  go_upto_region 1 with fail
  generalize w.alloc (.cells #[.int .i64 4, .int .i64 on, .int .i64 kd, .int .i64 n, .int .i64 rk, .int .i64 rn, .string rs, .int .i64 xk, .int .i64 xn, .string xs] 39) = X at B0 sn hzX0 ⊢
  have hX := h.next B0
  have v0 : X.cell? ⟨w.heap.size, 0, none⟩ = some (.int .i64 4) := sn 0 _ rfl
  have v4 : X.cell? ⟨w.heap.size, 4, none⟩ = some (.int .i64 rk) := sn 4 _ rfl
  have v5 : X.cell? ⟨w.heap.size, 5, none⟩ = some (.int .i64 rn) := sn 5 _ rfl
  have v6 : X.cell? ⟨w.heap.size, 6, none⟩ = some (.string rs) := sn 6 _ rfl
  have c1 := hX.c1
  have c2 := hX.c2
  obtain ⟨na, hna⟩ : ∃ na, ((findH A (rk, rn, rs)).1.2.length : Int) = na := ⟨_, rfl⟩
  obtain ⟨nb, hnb⟩ : ∃ nb, (findH A (rk, rn, rs)).2 = nb := ⟨_, rfl⟩
  have H1 : Hid (∀ W, Below X.heap.size X W → Calls Tryd.prog 13 #[.pointer (some ⟨hp, 0, none⟩), .agg #[.int .i64 rk, .int .i64 rn, .string rs]] W fun e w' => ∃ v, e = .returned v ∧ (v = .tuple #[.int .i64 na, .int .i64 nb] ∧ Below X.heap.size X w')) := fun W hW => by
    have := lenH_any (hX.hh.next hW) (rk, rn, rs) hrs
    rw [hna, hnb] at this
    exact this.mono fun e w' ⟨e1, e2⟩ => ⟨_, e1, rfl, hW.trans (e2.mono hW.size)⟩
  have H2 : Hid (∀ W, Below X.heap.size X W → Calls Tryd.prog 51 #[.pointer (some ⟨mp, 0, none⟩), .agg #[.int .i64 rk, .int .i64 rn, .string rs]] W fun e w' => ∃ v, e = .returned v ∧ (v = .tuple #[.int .i64 na, .int .i64 nb] ∧ Below X.heap.size X w')) := fun W hW => by
    have := rlen_any (hX.hm.next hW) rk rn rs
    rw [hna, hnb] at this
    exact this.mono fun e w' ⟨e1, e2⟩ => ⟨_, e1, rfl, hW.trans (e2.mono hW.size)⟩
  have SV : Hid (∀ W, Below X.heap.size X W → W.cell? ⟨sp, 1, none⟩ = some (.pointer (some ⟨hp, 0, none⟩)) ∧ W.cell? ⟨w.heap.size, 4, none⟩ = some (.int .i64 rk) ∧ W.cell? ⟨w.heap.size, 5, none⟩ = some (.int .i64 rn) ∧ W.cell? ⟨w.heap.size, 6, none⟩ = some (.string rs) ∧ Below X.heap.size X W) := fun W hW => by
    have e1 := hW.block sp hX.blk.lt
    have e2 := hW.block w.heap.size hzX0
    exact ⟨(World.cell?_of_block (a := ⟨sp, 1, none⟩) e1).trans c1, (World.cell?_of_block (a := ⟨w.heap.size, 4, none⟩) e2).trans v4, (World.cell?_of_block (a := ⟨w.heap.size, 5, none⟩) e2).trans v5, (World.cell?_of_block (a := ⟨w.heap.size, 6, none⟩) e2).trans v6, hW⟩
  have hcd : Below X.heap.size X X.drew := (Below.refl _ _).drew
  have HN1 : Hid (((findH A (rk, rn, rs)).1.2.length : Int) = na) := hna
  have HN2 : Hid ((findH A (rk, rn, rs)).2 = nb) := hnb
  clear sn hna hnb
  go_wp2_with fail
  clear v0
  go_region_held3 (fun w' => w'.cell? ⟨sp, 1, none⟩ = some (.pointer (some ⟨hp, 0, none⟩)) ∧ w'.cell? ⟨w.heap.size, 4, none⟩ = some (.int .i64 rk) ∧ w'.cell? ⟨w.heap.size, 5, none⟩ = some (.int .i64 rn) ∧ w'.cell? ⟨w.heap.size, 6, none⟩ = some (.string rs) ∧ Below X.heap.size X w') (exact SV.out _ (by assumption))
    (first
    | (go_at_call 13; refine (H1.out _ hcd).mono ?_; rintro e w3 ⟨v3', rfl, rfl, hcd'⟩; replace hcd := hcd'; clear hcd'))
  clear SV H1
  generalize w3 = W4 at hcd ⊢
  have HB : Hid (Below X.heap.size X W4) := hcd
  have u1 := hcd.block sp hX.blk.lt
  have u2 := hcd.block w.heap.size hzX0
  replace c2 := (World.cell?_of_block (a := ⟨sp, 2, none⟩) u1).trans c2
  replace v4 := (World.cell?_of_block (a := ⟨w.heap.size, 4, none⟩) u2).trans v4
  replace v5 := (World.cell?_of_block (a := ⟨w.heap.size, 5, none⟩) u2).trans v5
  replace v6 := (World.cell?_of_block (a := ⟨w.heap.size, 6, none⟩) u2).trans v6
  have hz4 := hcd.size
  have SV : Hid (∀ W, Below W4.heap.size W4 W → W.cell? ⟨sp, 2, none⟩ = some (.pointer (some ⟨mp, 0, none⟩)) ∧ W.cell? ⟨w.heap.size, 4, none⟩ = some (.int .i64 rk) ∧ W.cell? ⟨w.heap.size, 5, none⟩ = some (.int .i64 rn) ∧ W.cell? ⟨w.heap.size, 6, none⟩ = some (.string rs) ∧ Below W4.heap.size W4 W) := fun W hW => by
    have e1 := hW.block sp (by have := hX.blk.lt; omega)
    have e2 := hW.block w.heap.size (by omega)
    exact ⟨(World.cell?_of_block (a := ⟨sp, 2, none⟩) e1).trans c2, (World.cell?_of_block (a := ⟨w.heap.size, 4, none⟩) e2).trans v4, (World.cell?_of_block (a := ⟨w.heap.size, 5, none⟩) e2).trans v5, (World.cell?_of_block (a := ⟨w.heap.size, 6, none⟩) e2).trans v6, hW⟩
  replace H2 : Hid (∀ W, Below W4.heap.size W4 W → Calls Tryd.prog 51 #[.pointer (some ⟨mp, 0, none⟩), .agg #[.int .i64 rk, .int .i64 rn, .string rs]] W fun e w' => ∃ v, e = .returned v ∧ (v = .tuple #[.int .i64 na, .int .i64 nb] ∧ Below W4.heap.size W4 w')) := fun W hW => by
    have := rlen_any ((hX.hm.next HB.out).next hW) rk rn rs
    rw [HN1.out, HN2.out] at this
    exact this.mono fun e w' ⟨e1, e2⟩ => ⟨_, e1, rfl, hW.trans (e2.mono hW.size)⟩
  clear hcd u1 u2
  have hcd : Below W4.heap.size W4 W4.drew := (Below.refl _ _).drew
  go_wp2_with fail
  clear c1 c2 v4 v5 v6
  go_region_held3 (fun w' => w'.cell? ⟨sp, 2, none⟩ = some (.pointer (some ⟨mp, 0, none⟩)) ∧ w'.cell? ⟨w.heap.size, 4, none⟩ = some (.int .i64 rk) ∧ w'.cell? ⟨w.heap.size, 5, none⟩ = some (.int .i64 rn) ∧ w'.cell? ⟨w.heap.size, 6, none⟩ = some (.string rs) ∧ Below W4.heap.size W4 w') (exact SV.out _ (by assumption))
    (first
    | (go_at_call 51; refine (H2.out _ hcd).mono ?_; rintro e w3 ⟨v3', rfl, rfl, hcd'⟩; replace hcd := hcd'; clear hcd'))
  clear SV H2
  replace hcd := HB.out.trans (hcd.mono hz4)
  have HFIN : Hid (∃ A' F', SeatAt w3 sp l0 lim A' N F' ∧ Kp F w w3 ∧ ∀ b, F' b → F b ∨ w.heap.size ≤ b) := by
    obtain ⟨F', r1, r2, r3⟩ := h.rests (B0.trans (hcd.mono B0.size))
    exact ⟨A, F', r1, r2, r3⟩
  clear hcd
  go_wp2
  go_ret
  exact ⟨by first | rfl | simp, HFIN⟩

set_option maxRecDepth 100000 in
set_option maxHeartbeats 4000000 in
theorem does5 {w : World} {sp : Nat} {l0 : Int} {lim : Nat} {A : Hp} {N : Nat} {F : Nat → Prop} (h : SeatAt w sp l0 lim A N F) (on kd n : Int) (rk rn : Int) (rs : ByteArray) (xk xn : Int) (xs : ByteArray) :
    Calls Tryd.prog 29 #[.pointer (some ⟨sp, 0, none⟩), .agg #[.int .i64 5, .int .i64 on, .int .i64 kd, .int .i64 n, .int .i64 rk, .int .i64 rn, .string rs, .int .i64 xk, .int .i64 xn, .string xs]] w fun e w' => e = .returned (.bool true) ∧ Hid (∃ A' F', SeatAt w' sp l0 lim A' N F' ∧ Kp F w w' ∧ ∀ b, F' b → F b ∨ w.heap.size ≤ b) := by
  obtain ⟨hp, mp, FH, FM, h⟩ := h
  have B0 : Below w.heap.size w (w.alloc (.cells #[.int .i64 5, .int .i64 on, .int .i64 kd, .int .i64 n, .int .i64 rk, .int .i64 rn, .string rs, .int .i64 xk, .int .i64 xn, .string xs] 39)) := (Below.refl _ w).alloc (Nat.le_refl _) _
  have sn := sc_new w ⟨5, on, kd, n, (rk, rn, rs), (xk, xn, xs)⟩ 39
  unfold sc at sn
  simp only at sn
  have hzX0 : w.heap.size < (w.alloc (.cells #[.int .i64 5, .int .i64 on, .int .i64 kd, .int .i64 n, .int .i64 rk, .int .i64 rn, .string rs, .int .i64 xk, .int .i64 xn, .string xs] 39)).heap.size := by simp
  go_enter Tryd.func29, Tryd.ntmps29
  go_upto_region 1 with fail
  generalize w.alloc (.cells #[.int .i64 5, .int .i64 on, .int .i64 kd, .int .i64 n, .int .i64 rk, .int .i64 rn, .string rs, .int .i64 xk, .int .i64 xn, .string xs] 39) = X at B0 sn hzX0 ⊢
  have hX := h.next B0
  have v0 : X.cell? ⟨w.heap.size, 0, none⟩ = some (.int .i64 5) := sn 0 _ rfl
  have v4 : X.cell? ⟨w.heap.size, 4, none⟩ = some (.int .i64 rk) := sn 4 _ rfl
  have v5 : X.cell? ⟨w.heap.size, 5, none⟩ = some (.int .i64 rn) := sn 5 _ rfl
  have v6 : X.cell? ⟨w.heap.size, 6, none⟩ = some (.string rs) := sn 6 _ rfl
  have c1 := hX.c1
  have c2 := hX.c2
  have H1 : Hid (∀ W, Below X.heap.size X W → Calls Tryd.prog 19 #[.pointer (some ⟨hp, 0, none⟩)] W fun e w' => ∃ v, e = .returned v ∧ (v = .int .i64 ((usedS A : Nat) : Int) ∧ Below X.heap.size X w')) := fun W hW => by
    exact (used_any (hX.hh.next hW)).mono fun e w' ⟨e1, e2⟩ => ⟨_, e1, rfl, by rw [e2]; exact hW⟩
  have H2 : Hid (∀ W, Below X.heap.size X W → Calls Tryd.prog 25 #[.pointer (some ⟨mp, 0, none⟩)] W fun e w' => ∃ v, e = .returned v ∧ (v = .int .i64 ((usedS A : Nat) : Int) ∧ Below X.heap.size X w')) := fun W hW => by
    exact (rusedA_any (hX.hm.next hW)).mono fun e w' ⟨e1, e2⟩ => ⟨_, e1, rfl, by rw [e2]; exact hW⟩
  have SV : Hid (∀ W, Below X.heap.size X W → W.cell? ⟨sp, 1, none⟩ = some (.pointer (some ⟨hp, 0, none⟩)) ∧ W.cell? ⟨sp, 2, none⟩ = some (.pointer (some ⟨mp, 0, none⟩)) ∧ Below X.heap.size X W) := fun W hW => by
    have e1 := hW.block sp hX.blk.lt
    exact ⟨(World.cell?_of_block (a := ⟨sp, 1, none⟩) e1).trans c1, (World.cell?_of_block (a := ⟨sp, 2, none⟩) e1).trans c2, hW⟩
  have hcd : Below X.heap.size X X.drew := (Below.refl _ _).drew
  clear sn v4 v5 v6
  go_wp2_with fail
  clear v0 c1 c2
  go_region_held3 (fun w' => w'.cell? ⟨sp, 1, none⟩ = some (.pointer (some ⟨hp, 0, none⟩)) ∧ w'.cell? ⟨sp, 2, none⟩ = some (.pointer (some ⟨mp, 0, none⟩)) ∧ Below X.heap.size X w') (exact SV.out _ (by assumption))
    (first
    | (go_at_call 19; refine (H1.out _ hcd).mono ?_; rintro e w3 ⟨v3', rfl, rfl, hcd'⟩; replace hcd := hcd'; clear hcd')
    | (go_at_call 25; refine (H2.out _ hcd).mono ?_; rintro e w3 ⟨v3', rfl, rfl, hcd'⟩; replace hcd := hcd'; clear hcd'))
  clear SV H1 H2
  go_wp2
  go_ret
  refine ⟨by first | rfl | simp, ?_⟩
  obtain ⟨F', r1, r2, r3⟩ := h.rests (B0.trans (hcd.mono B0.size))
  exact ⟨A, F', r1, r2, r3⟩

set_option maxRecDepth 100000 in
set_option maxHeartbeats 4000000 in
theorem does7 {w : World} {sp : Nat} {l0 : Int} {lim : Nat} {A : Hp} {N : Nat} {F : Nat → Prop} (h : SeatAt w sp l0 lim A N F) (on kd n : Int) (rk rn : Int) (rs : ByteArray) (xk xn : Int) (xs : ByteArray) (hNb : N ≤ 2000000000000) :
    Calls Tryd.prog 29 #[.pointer (some ⟨sp, 0, none⟩), .agg #[.int .i64 7, .int .i64 on, .int .i64 kd, .int .i64 n, .int .i64 rk, .int .i64 rn, .string rs, .int .i64 xk, .int .i64 xn, .string xs]] w fun e w' => e = .returned (.bool true) ∧ Hid (∃ A' F', SeatAt w' sp l0 lim A' N F' ∧ Kp F w w' ∧ ∀ b, F' b → F b ∨ w.heap.size ≤ b) := by
  obtain ⟨hp, mp, FH, FM, h⟩ := h
  have B0 : Below w.heap.size w (w.alloc (.cells #[.int .i64 7, .int .i64 on, .int .i64 kd, .int .i64 n, .int .i64 rk, .int .i64 rn, .string rs, .int .i64 xk, .int .i64 xn, .string xs] 39)) := (Below.refl _ w).alloc (Nat.le_refl _) _
  have sn := sc_new w ⟨7, on, kd, n, (rk, rn, rs), (xk, xn, xs)⟩ 39
  unfold sc at sn
  simp only at sn
  have hzX0 : w.heap.size < (w.alloc (.cells #[.int .i64 7, .int .i64 on, .int .i64 kd, .int .i64 n, .int .i64 rk, .int .i64 rn, .string rs, .int .i64 xk, .int .i64 xn, .string xs] 39)).heap.size := by simp
  go_enter Tryd.func29, Tryd.ntmps29
  go_upto_region 1 with fail
  generalize w.alloc (.cells #[.int .i64 7, .int .i64 on, .int .i64 kd, .int .i64 n, .int .i64 rk, .int .i64 rn, .string rs, .int .i64 xk, .int .i64 xn, .string xs] 39) = X at B0 sn hzX0 ⊢
  have hX := h.next B0
  have v0 : X.cell? ⟨w.heap.size, 0, none⟩ = some (.int .i64 7) := sn 0 _ rfl
  have v4 : X.cell? ⟨w.heap.size, 4, none⟩ = some (.int .i64 rk) := sn 4 _ rfl
  have v5 : X.cell? ⟨w.heap.size, 5, none⟩ = some (.int .i64 rn) := sn 5 _ rfl
  have v6 : X.cell? ⟨w.heap.size, 6, none⟩ = some (.string rs) := sn 6 _ rfl
  have c1 := hX.c1
  have c2 := hX.c2
  have H1 : Hid (∀ W, Below X.heap.size X W → Calls Tryd.prog 16 #[.pointer (some ⟨hp, 0, none⟩)] W fun e w' => ∃ v, e = .returned v ∧ (v = .string ⟨(saveS A).toArray⟩ ∧ Below X.heap.size X w')) := fun W hW => by
    exact (save_any (hX.hh.next hW)).mono fun e w' ⟨e1, e2⟩ => ⟨_, e1, rfl, hW.trans (e2.mono hW.size)⟩
  have H2 : Hid (∀ W, Below X.heap.size X W → Calls Tryd.prog 48 #[.pointer (some ⟨mp, 0, none⟩)] W fun e w' => ∃ v, e = .returned v ∧ (v = .string ⟨(saveS A).toArray⟩ ∧ Below X.heap.size X w')) := fun W hW => by
    exact (rsave_any (hX.hm.next hW) hNb h.txt).mono fun e w' ⟨e1, e2⟩ => ⟨_, e1, rfl, hW.trans (e2.mono hW.size)⟩
  have SV : Hid (∀ W, Below X.heap.size X W → W.cell? ⟨sp, 1, none⟩ = some (.pointer (some ⟨hp, 0, none⟩)) ∧ W.cell? ⟨sp, 2, none⟩ = some (.pointer (some ⟨mp, 0, none⟩)) ∧ Below X.heap.size X W) := fun W hW => by
    have e1 := hW.block sp hX.blk.lt
    exact ⟨(World.cell?_of_block (a := ⟨sp, 1, none⟩) e1).trans c1, (World.cell?_of_block (a := ⟨sp, 2, none⟩) e1).trans c2, hW⟩
  have hcd : Below X.heap.size X X.drew := (Below.refl _ _).drew
  clear sn v4 v5 v6
  go_wp2_with fail
  clear v0 c1 c2
  go_region_held3 (fun w' => w'.cell? ⟨sp, 1, none⟩ = some (.pointer (some ⟨hp, 0, none⟩)) ∧ w'.cell? ⟨sp, 2, none⟩ = some (.pointer (some ⟨mp, 0, none⟩)) ∧ Below X.heap.size X w') (exact SV.out _ (by assumption))
    (first
    | (go_at_call 16; refine (H1.out _ hcd).mono ?_; rintro e w3 ⟨v3', rfl, rfl, hcd'⟩; replace hcd := hcd'; clear hcd')
    | (go_at_call 48; refine (H2.out _ hcd).mono ?_; rintro e w3 ⟨v3', rfl, rfl, hcd'⟩; replace hcd := hcd'; clear hcd'))
  clear SV H1 H2
  go_wp2
  go_ret
  refine ⟨by first | rfl | simp, ?_⟩
  obtain ⟨F', r1, r2, r3⟩ := h.rests (B0.trans (hcd.mono B0.size))
  exact ⟨A, F', r1, r2, r3⟩

theorem HeapOf.lensP {w : World} {p lim : Nat} {A : Hp} {F : Nat → Prop} (h : HeapOf w p lim A F) : A.length ≤ 100000 ∧ ∀ l ∈ lsA A, l.length ≤ 100000 := by
  obtain ⟨As, rq, rn, rg, ro, av, rfl, h⟩ := h
  refine ⟨by rw [abs_len]; exact h.len.1, fun l hl => ?_⟩
  unfold lsA at hl
  rcases List.mem_cons.1 hl with rfl | hl
  · exact Nat.zero_le _
  · obtain ⟨a, ha, rfl⟩ := List.mem_map.1 hl
    unfold absA at ha
    obtain ⟨x, hx, rfl⟩ := List.mem_map.1 ha
    exact h.len.2 x hx

set_option maxRecDepth 100000 in
set_option maxHeartbeats 4000000 in
theorem does6 {w : World} {sp : Nat} {l0 : Int} {lim : Nat} {A : Hp} {N : Nat} {F : Nat → Prop} (h : SeatAt w sp l0 lim A N F) (on kd n : Int) (rk rn : Int) (rs : ByteArray) (xk xn : Int) (xs : ByteArray) (hNb : N ≤ 2000000000000) :
    Calls Tryd.prog 29 #[.pointer (some ⟨sp, 0, none⟩), .agg #[.int .i64 6, .int .i64 on, .int .i64 kd, .int .i64 n, .int .i64 rk, .int .i64 rn, .string rs, .int .i64 xk, .int .i64 xn, .string xs]] w fun e w' => e = .returned (.bool true) ∧ Hid (∃ A' F', SeatAt w' sp l0 lim A' N F' ∧ Kp F w w' ∧ ∀ b, F' b → F b ∨ w.heap.size ≤ b) := by
  obtain ⟨hp, mp, FH, FM, h⟩ := h
  have B0 : Below w.heap.size w (w.alloc (.cells #[.int .i64 6, .int .i64 on, .int .i64 kd, .int .i64 n, .int .i64 rk, .int .i64 rn, .string rs, .int .i64 xk, .int .i64 xn, .string xs] 39)) := (Below.refl _ w).alloc (Nat.le_refl _) _
  have sn := sc_new w ⟨6, on, kd, n, (rk, rn, rs), (xk, xn, xs)⟩ 39
  unfold sc at sn
  simp only at sn
  have hzX0 : w.heap.size < (w.alloc (.cells #[.int .i64 6, .int .i64 on, .int .i64 kd, .int .i64 n, .int .i64 rk, .int .i64 rn, .string rs, .int .i64 xk, .int .i64 xn, .string xs] 39)).heap.size := by simp
  go_enter Tryd.func29, Tryd.ntmps29
  go_upto_region 1 with fail
  generalize w.alloc (.cells #[.int .i64 6, .int .i64 on, .int .i64 kd, .int .i64 n, .int .i64 rk, .int .i64 rn, .string rs, .int .i64 xk, .int .i64 xn, .string xs] 39) = X at B0 sn hzX0 ⊢
  have hX := h.next B0
  have v0 : X.cell? ⟨w.heap.size, 0, none⟩ = some (.int .i64 6) := sn 0 _ rfl
  have v4 : X.cell? ⟨w.heap.size, 4, none⟩ = some (.int .i64 rk) := sn 4 _ rfl
  have v5 : X.cell? ⟨w.heap.size, 5, none⟩ = some (.int .i64 rn) := sn 5 _ rfl
  have v6 : X.cell? ⟨w.heap.size, 6, none⟩ = some (.string rs) := sn 6 _ rfl
  have c1 := hX.c1
  have c2 := hX.c2
  have hln := hX.hh.lensP
  have H1 : Hid (∀ W, Below X.heap.size X W → Calls Tryd.prog 21 #[.pointer (some ⟨hp, 0, none⟩)] W fun e w' => ∃ v, e = .returned v ∧ ∃ g, v = .slice (some ⟨g, 0, none⟩) (A.length + 1) (A.length + 1) ∧ Hid (ListsAt w' g (lsA A)) ∧ Below X.heap.size X w') := fun W hW => by
    refine (arrays_any (hX.hh.next hW)).mono fun e w' ⟨e1, e2, e3⟩ => ⟨_, e1, _, rfl, ?_, hW.trans (e3.mono hW.size)⟩
    obtain ⟨vs, ha⟩ := e2.out
    rw [← lsA_len] at ha
    exact ha.lists
  have H2 : Hid (∀ W, Below X.heap.size X W → Calls Tryd.prog 26 #[.pointer (some ⟨mp, 0, none⟩)] W fun e w' => ∃ v, e = .returned v ∧ ∃ g c, v = .slice (some ⟨g, 0, none⟩) (A.length + 1) c ∧ Hid (ListsAt w' g (lsA A)) ∧ Below W.heap.size W w') := fun W hW => by
    exact (rarrays_any (hX.hm.next hW) hNb).mono fun e w' ⟨g, c, e1, e2, e3⟩ => ⟨_, e1, g, c, rfl, e2, e3⟩
  have H3 : Hid (∀ W (g1 g2 c1 c2 : Nat), Below X.heap.size X W → Hid (ListsAt W g1 (lsA A)) → Hid (ListsAt W g2 (lsA A)) → Calls Tryd.prog 22 #[.slice (some ⟨g1, 0, none⟩) (A.length + 1) c1, .slice (some ⟨g2, 0, none⟩) (A.length + 1) c2] W fun e w' => ∃ v, e = .returned v ∧ (v = .bool true ∧ Below X.heap.size X w')) := fun W g1 g2 c1 c2 hW q1 q2 => by
    have := same_any (c1 := c1) (c2 := c2) q1.out q2.out (by rw [lsA_len]; omega) hln.2
    rw [lsA_len] at this
    exact this.mono fun e w' ⟨e1, e2⟩ => ⟨_, e1, rfl, hW.trans (e2.mono hW.size)⟩
  have SV : Hid (∀ W, Below X.heap.size X W → W.cell? ⟨sp, 1, none⟩ = some (.pointer (some ⟨hp, 0, none⟩)) ∧ W.cell? ⟨sp, 2, none⟩ = some (.pointer (some ⟨mp, 0, none⟩)) ∧ Below X.heap.size X W) := fun W hW => by
    have e1 := hW.block sp hX.blk.lt
    exact ⟨(World.cell?_of_block (a := ⟨sp, 1, none⟩) e1).trans c1, (World.cell?_of_block (a := ⟨sp, 2, none⟩) e1).trans c2, hW⟩
  have hcd : Below X.heap.size X X.drew := (Below.refl _ _).drew
  clear sn v4 v5 v6 hln
  go_wp2_with fail
  clear v0 c1 c2
  go_region_held3 (fun w' => w'.cell? ⟨sp, 1, none⟩ = some (.pointer (some ⟨hp, 0, none⟩)) ∧ w'.cell? ⟨sp, 2, none⟩ = some (.pointer (some ⟨mp, 0, none⟩)) ∧ Below X.heap.size X w') (exact SV.out _ (by assumption))
    (first
    | (go_at_call 21; refine (H1.out _ hcd).mono ?_; rintro e w3 ⟨v3', rfl, g1, rfl, hl1, hcd'⟩; replace hcd := hcd'; clear hcd')
    | (go_at_call 26; refine (H2.out _ hcd).mono ?_; rintro e w4 ⟨v4', rfl, g2, cc2, rfl, hl2, hcd'⟩; replace hl1 : Hid (ListsAt w4 g1 (lsA A)) := hl1.out.next hcd'; replace hcd := hcd.trans (hcd'.mono hcd.size); clear hcd')
    | (go_at_call 22; refine (H3.out _ _ _ _ _ hcd hl1 hl2).mono ?_; rintro e w5 ⟨v5', rfl, rfl, hcd'⟩; replace hcd := hcd'; clear hcd'))
  clear SV H1 H2 H3
  go_wp2
  go_ret
  refine ⟨by first | rfl | simp, ?_⟩
  obtain ⟨F', r1, r2, r3⟩ := h.rests (B0.trans (hcd.mono B0.size))
  exact ⟨A, F', r1, r2, r3⟩

/-- The seat goes on with another heap of the program, that says the same. -/
theorem SeatC.loads {w w4 : World} {sp : Nat} {l0 : Int} {lim : Nat} {A : Hp} {N hp mp g : Nat} {FH FM F FL : Nat → Prop} (h : SeatC w sp l0 lim A N hp mp FH FM F) (k : Below w.heap.size w w4) (h1 : HeapOf w4 g lim A FL) (fL : ∀ b, FL b → w.heap.size ≤ b) :
    ∃ F', SeatAt (w4.setCell ⟨sp, 1, none⟩ (.pointer (some ⟨g, 0, none⟩))) sp l0 lim A N F' ∧ Kp F w (w4.setCell ⟨sp, 1, none⟩ (.pointer (some ⟨g, 0, none⟩))) ∧ ∀ b, F' b → F b ∨ w.heap.size ≤ b := by
  have h4 := h.next k
  have kz : ∀ b, b ≠ sp → (w4.setCell ⟨sp, 1, none⟩ (.pointer (some ⟨g, 0, none⟩))).heap[b]? = w4.heap[b]? := fun b hb => Below.heap_setCell _ _ _ _ (fun e => hb e)
  have zs : (w4.setCell ⟨sp, 1, none⟩ (.pointer (some ⟨g, 0, none⟩))).heap.size = w4.heap.size := by simp
  have hL : ∀ b, FL b → b ≠ sp := fun b hb e => by have := fL b hb; have := h.blk.lt; omega
  refine ⟨fun b => F b ∨ FL b, ⟨g, mp, FL, FM, ?_⟩, (Kp.of k).setCell (.inl h.fs) _, fun b hb => ?_⟩
  · exact {
      blk := h4.blk.setCell _ _
      c0 := (World.cell?_setCell_other _ _ _ _ (by simp)).trans h4.c0
      c1 := World.cell?_setCell_same _ _ _ h4.c1
      c2 := (World.cell?_setCell_other _ _ _ _ (by simp)).trans h4.c2
      hh := h1.same (fun b hb => kz b (hL b hb)) (by omega)
      hm := h4.hm.same (fun b hb => kz b (h.fm b hb).2) (by omega)
      fh := fun b hb => ⟨.inr hb, fun q => by have := fL b hb; have := h.hm.flt b q; omega, hL b hb⟩
      fm := fun b hb => ⟨.inl (h.fm b hb).1, (h.fm b hb).2⟩
      fs := .inl h.fs
      flt := fun b hb => by
        rcases hb with q | q
        · have := h4.flt b q; omega
        · have := h1.flt b q; omega
      lm := h.lm
      rg := h.rg }
  · rcases hb with q | q
    · exact .inl q
    · exact .inr (fL b q)

set_option maxRecDepth 100000 in
set_option maxHeartbeats 4000000 in
theorem does8 {w : World} {sp : Nat} {l0 : Int} {lim : Nat} {A : Hp} {N : Nat} {F : Nat → Prop} (h : SeatAt w sp l0 lim A N F) (on kd n : Int) (rk rn : Int) (rs : ByteArray) (xk xn : Int) (xs : ByteArray) (hz : Zt w) :
    Calls Tryd.prog 29 #[.pointer (some ⟨sp, 0, none⟩), .agg #[.int .i64 8, .int .i64 on, .int .i64 kd, .int .i64 n, .int .i64 rk, .int .i64 rn, .string rs, .int .i64 xk, .int .i64 xn, .string xs]] w fun e w' => e = .returned (.bool true) ∧ Hid (∃ A' F', SeatAt w' sp l0 lim A' N F' ∧ Kp F w w' ∧ ∀ b, F' b → F b ∨ w.heap.size ≤ b) := by
  obtain ⟨hp, mp, FH, FM, h⟩ := h
  have B0 : Below w.heap.size w (w.alloc (.cells #[.int .i64 8, .int .i64 on, .int .i64 kd, .int .i64 n, .int .i64 rk, .int .i64 rn, .string rs, .int .i64 xk, .int .i64 xn, .string xs] 39)) := (Below.refl _ w).alloc (Nat.le_refl _) _
  have sn := sc_new w ⟨8, on, kd, n, (rk, rn, rs), (xk, xn, xs)⟩ 39
  unfold sc at sn
  simp only at sn
  have hzX0 : w.heap.size < (w.alloc (.cells #[.int .i64 8, .int .i64 on, .int .i64 kd, .int .i64 n, .int .i64 rk, .int .i64 rn, .string rs, .int .i64 xk, .int .i64 xn, .string xs] 39)).heap.size := by simp
  go_enter Tryd.func29, Tryd.ntmps29
  go_upto_region 1 with fail
  generalize w.alloc (.cells #[.int .i64 8, .int .i64 on, .int .i64 kd, .int .i64 n, .int .i64 rk, .int .i64 rn, .string rs, .int .i64 xk, .int .i64 xn, .string xs] 39) = X at B0 sn hzX0 ⊢
  have hX := h.next B0
  have v0 : X.cell? ⟨w.heap.size, 0, none⟩ = some (.int .i64 8) := sn 0 _ rfl
  have v4 : X.cell? ⟨w.heap.size, 4, none⟩ = some (.int .i64 rk) := sn 4 _ rfl
  have v5 : X.cell? ⟨w.heap.size, 5, none⟩ = some (.int .i64 rn) := sn 5 _ rfl
  have v6 : X.cell? ⟨w.heap.size, 6, none⟩ = some (.string rs) := sn 6 _ rfl
  have c1 := hX.c1
  have c0 := hX.c0
  have hzX : Zt X := hz.same (B0.block 0 hz.pos)
  obtain ⟨T, hT⟩ : ∃ T, (⟨(saveS A).toArray⟩ : ByteArray) = T := ⟨_, rfl⟩
  have H1 : Hid (∀ W, Below X.heap.size X W → Calls Tryd.prog 16 #[.pointer (some ⟨hp, 0, none⟩)] W fun e w' => ∃ v, e = .returned v ∧ (v = .string T ∧ Below X.heap.size X w')) := fun W hW => by
    have := save_any (hX.hh.next hW)
    rw [hT] at this
    exact this.mono fun e w' ⟨e1, e2⟩ => ⟨_, e1, rfl, hW.trans (e2.mono hW.size)⟩
  have H2 : Hid (∀ W, Below X.heap.size X W → Calls Tryd.prog 18 #[.int .i64 l0, .string T] W fun e w' => ∃ v, e = .returned v ∧ ∃ g, v = .tuple #[.pointer (some ⟨g, 0, none⟩), .int .i64 0] ∧ Hid (∃ F', HeapOf w' g lim A F' ∧ ∀ b, F' b → X.heap.size ≤ b) ∧ Below X.heap.size X w') := fun W hW => by
    have hu := h.hh.kinds.1
    have := load_any W l0 A (by rw [h.lm]; exact hu) (h.hh.okH h.rg) (hzX.same (hW.block 0 hzX.pos))
    rw [show str (saveS A) = T from hT, h.lm] at this
    refine this.mono fun e w' ⟨e1, e2⟩ => ?_
    obtain ⟨F', q1, q2, q3⟩ := e2.out
    exact ⟨_, e1, _, rfl, ⟨F', q1, fun b hb => Nat.le_trans hW.size (q2 b hb)⟩, hW.trans (q3.mono hW.size)⟩
  have SV : Hid (∀ W, Below X.heap.size X W → W.cell? ⟨sp, 0, none⟩ = some (.int .i64 l0) ∧ W.cell? ⟨sp, 1, none⟩ = some (.pointer (some ⟨hp, 0, none⟩)) ∧ Below X.heap.size X W) := fun W hW => by
    have e1 := hW.block sp hX.blk.lt
    exact ⟨(World.cell?_of_block (a := ⟨sp, 0, none⟩) e1).trans c0, (World.cell?_of_block (a := ⟨sp, 1, none⟩) e1).trans c1, hW⟩
  have hcd : Below X.heap.size X X.drew := (Below.refl _ _).drew
  clear sn v4 v5 v6 hT
  go_wp2_with fail
  clear v0 c0
  go_region_held3 (fun w' => w'.cell? ⟨sp, 0, none⟩ = some (.int .i64 l0) ∧ w'.cell? ⟨sp, 1, none⟩ = some (.pointer (some ⟨hp, 0, none⟩)) ∧ Below X.heap.size X w') (exact SV.out _ (by assumption))
    (first
    | (go_at_call 16; refine (H1.out _ hcd).mono ?_; rintro e w3 ⟨v3', rfl, rfl, hcd'⟩; replace hcd := hcd'; clear hcd')
    | (go_at_call 18; refine (H2.out _ hcd).mono ?_; rintro e w4 ⟨v4', rfl, g, rfl, hl, hcd'⟩; replace hcd := hcd'; clear hcd'))
  clear SV H1 H2
  have HFIN : Hid (∃ A' F', SeatAt (w4.setCell ⟨sp, 1, none⟩ (.pointer (some ⟨g, 0, none⟩))) sp l0 lim A' N F' ∧ Kp F w (w4.setCell ⟨sp, 1, none⟩ (.pointer (some ⟨g, 0, none⟩))) ∧ ∀ b, F' b → F b ∨ w.heap.size ≤ b) := by
    obtain ⟨FL, q1, q2⟩ := hl.out
    have hBs := B0.size
    obtain ⟨F', r1, r2, r3⟩ := h.loads (B0.trans (hcd.mono B0.size)) q1 (fun b hb => Nat.le_trans hBs (q2 b hb))
    exact ⟨A, F', r1, r2, r3⟩
  clear hl
  have b4 := hX.next hcd
  have k1 := b4.c1
  have k2 := b4.blk.unfrozen 1
  clear hcd b4 c1
  go_wp2
  go_ret
  exact ⟨by first | rfl | simp, HFIN⟩

set_option maxRecDepth 100000 in
set_option maxHeartbeats 4000000 in
theorem does0 {w : World} {sp : Nat} {l0 : Int} {lim : Nat} {A : Hp} {N : Nat} {F : Nat → Prop} (h : SeatAt w sp l0 lim A N F) (dop on kd n : Int) (rk rn : Int) (rs : ByteArray) (xk xn : Int) (xs : ByteArray) (d1 : ¬ dop = 1) (d2 : ¬ dop = 2) (d3 : ¬ dop = 3) (d4 : ¬ dop = 4) (d5 : ¬ dop = 5) (d6 : ¬ dop = 6) (d7 : ¬ dop = 7) (d8 : ¬ dop = 8) :
    Calls Tryd.prog 29 #[.pointer (some ⟨sp, 0, none⟩), .agg #[.int .i64 dop, .int .i64 on, .int .i64 kd, .int .i64 n, .int .i64 rk, .int .i64 rn, .string rs, .int .i64 xk, .int .i64 xn, .string xs]] w fun e w' => e = .returned (.bool true) ∧ Hid (∃ A' F', SeatAt w' sp l0 lim A' N F' ∧ Kp F w w' ∧ ∀ b, F' b → F b ∨ w.heap.size ≤ b) := by
  obtain ⟨hp, mp, FH, FM, h⟩ := h
  have B0 : Below w.heap.size w (w.alloc (.cells #[.int .i64 dop, .int .i64 on, .int .i64 kd, .int .i64 n, .int .i64 rk, .int .i64 rn, .string rs, .int .i64 xk, .int .i64 xn, .string xs] 39)) := (Below.refl _ w).alloc (Nat.le_refl _) _
  have sn := sc_new w ⟨dop, on, kd, n, (rk, rn, rs), (xk, xn, xs)⟩ 39
  unfold sc at sn
  simp only at sn
  have hzX0 : w.heap.size < (w.alloc (.cells #[.int .i64 dop, .int .i64 on, .int .i64 kd, .int .i64 n, .int .i64 rk, .int .i64 rn, .string rs, .int .i64 xk, .int .i64 xn, .string xs] 39)).heap.size := by simp
  go_enter Tryd.func29, Tryd.ntmps29
  go_upto_region 1 with fail
  generalize w.alloc (.cells #[.int .i64 dop, .int .i64 on, .int .i64 kd, .int .i64 n, .int .i64 rk, .int .i64 rn, .string rs, .int .i64 xk, .int .i64 xn, .string xs] 39) = X at B0 sn hzX0 ⊢
  have hX := h.next B0
  have v0 : X.cell? ⟨w.heap.size, 0, none⟩ = some (.int .i64 dop) := sn 0 _ rfl
  have d1' : (dop == 1) = false := by simpa using d1
  have d2' : (dop == 2) = false := by simpa using d2
  have d3' : (dop == 3) = false := by simpa using d3
  have d4' : (dop == 4) = false := by simpa using d4
  have d5' : (dop == 5) = false := by simpa using d5
  have d6' : (dop == 6) = false := by simpa using d6
  have d7' : (dop == 7) = false := by simpa using d7
  have d8' : (dop == 8) = false := by simpa using d8
  clear sn d1 d2 d3 d4 d5 d6 d7 d8
  go_wp2
  go_ret
  refine ⟨by first | rfl | simp, ?_⟩
  obtain ⟨F', r1, r2, r3⟩ := h.rests B0
  exact ⟨A, F', r1, r2, r3⟩

theorem SeatAt.more {w : World} {sp : Nat} {l0 : Int} {lim : Nat} {A : Hp} {N M : Nat} {F : Nat → Prop} (h : SeatAt w sp l0 lim A N F) (k : N ≤ M) : SeatAt w sp l0 lim A M F := by
  obtain ⟨hp, mp, FH, FM, h⟩ := h
  exact ⟨hp, mp, FH, FM, { h with hm := h.hm.more k }⟩
theorem does_any {w : World} {sp : Nat} {l0 : Int} {lim : Nat} {A : Hp} {N : Nat} {F : Nat → Prop} (h : SeatAt w sp l0 lim A N F) (hz : Zt w) (hF : ¬ F 0) (dop on kd n : Int) (rk rn : Int) (rs : ByteArray) (xk xn : Int) (xs : ByteArray) (hrs : rs.size ≤ 9223372036854775807) (hxs : xs.size ≤ 9223372036854775807) (hxr : inR xn) (hNb : N ≤ 2000000000000) :
    Calls Tryd.prog 29 #[.pointer (some ⟨sp, 0, none⟩), .agg #[.int .i64 dop, .int .i64 on, .int .i64 kd, .int .i64 n, .int .i64 rk, .int .i64 rn, .string rs, .int .i64 xk, .int .i64 xn, .string xs]] w fun e w' => e = .returned (.bool true) ∧ Hid (∃ A' F', SeatAt w' sp l0 lim A' (N + 1) F' ∧ Kp F w w' ∧ ∀ b, F' b → F b ∨ w.heap.size ≤ b) := by
  have up : ∀ {P : Prop} {w' : World}, P ∧ Hid (∃ A' F', SeatAt w' sp l0 lim A' N F' ∧ Kp F w w' ∧ ∀ b, F' b → F b ∨ w.heap.size ≤ b) → P ∧ Hid (∃ A' F', SeatAt w' sp l0 lim A' (N + 1) F' ∧ Kp F w w' ∧ ∀ b, F' b → F b ∨ w.heap.size ≤ b) := fun {P w'} ⟨e1, e2⟩ => by
    obtain ⟨A', F', q1, q2, q3⟩ := e2.out
    exact ⟨e1, A', F', q1.more (by omega), q2, q3⟩
  by_cases d1 : dop = 1
  · subst d1; exact (does1 h hz hF on kd n rk rn rs xk xn xs hxr).mono fun _ _ q => up q
  by_cases d2 : dop = 2
  · subst d2; exact (does2 h on kd n rk rn rs xk xn xs hrs hNb).mono fun _ _ q => up q
  by_cases d3 : dop = 3
  · subst d3; exact does3 h on kd n rk rn rs xk xn xs hrs hxs hxr hNb
  by_cases d4 : dop = 4
  · subst d4; exact (does4 h on kd n rk rn rs xk xn xs hrs).mono fun _ _ q => up q
  by_cases d5 : dop = 5
  · subst d5; exact (does5 h on kd n rk rn rs xk xn xs).mono fun _ _ q => up q
  by_cases d6 : dop = 6
  · subst d6; exact (does6 h on kd n rk rn rs xk xn xs hNb).mono fun _ _ q => up q
  by_cases d7 : dop = 7
  · subst d7; exact (does7 h on kd n rk rn rs xk xn xs hNb).mono fun _ _ q => up q
  by_cases d8 : dop = 8
  · subst d8; exact (does8 h on kd n rk rn rs xk xn xs hz).mono fun _ _ q => up q
  exact (does0 h dop on kd n rk rn rs xk xn xs d1 d2 d3 d4 d5 d6 d7 d8).mono fun _ _ q => up q

/-- A seat is laid around two heaps that say the same. -/
theorem seat_new {w w1 w2 : World} {hp mp lim N : Nat} {l0 : Int} {A : Hp} {FH FM : Nat → Prop} (h1 : HeapOf w1 hp lim A FH) (f1 : ∀ b, FH b → w.heap.size ≤ b) (z : w.heap.size ≤ w1.heap.size) (k : Below w1.heap.size w1 w2) (h2 : RefOf w2 mp lim A N FM) (f2 : ∀ b, FM b → w1.heap.size ≤ b) (hl : limS l0 = lim) (hr : rngA A) :
    ∃ F, SeatAt (w2.alloc (.cells #[.int .i64 l0, .pointer (some ⟨hp, 0, none⟩), .pointer (some ⟨mp, 0, none⟩)] 74)) w2.heap.size l0 lim A N F ∧ ∀ b, F b → w.heap.size ≤ b := by
  have nb : Below w2.heap.size w2 (w2.alloc (.cells #[.int .i64 l0, .pointer (some ⟨hp, 0, none⟩), .pointer (some ⟨mp, 0, none⟩)] 74)) := (Below.refl _ w2).alloc (Nat.le_refl _) _
  have hn := World.alloc_heap_new w2 (.cells #[.int .i64 l0, .pointer (some ⟨hp, 0, none⟩), .pointer (some ⟨mp, 0, none⟩)] 74)
  have zk := k.size
  have zs : (w2.alloc (.cells #[.int .i64 l0, .pointer (some ⟨hp, 0, none⟩), .pointer (some ⟨mp, 0, none⟩)] 74)).heap.size = w2.heap.size + 1 := by simp
  have g1 := h1.flt
  have g2 := h2.flt
  refine ⟨fun b => FH b ∨ FM b ∨ b = w2.heap.size, ⟨hp, mp, FH, FM, ?_⟩, fun b hb => ?_⟩
  · exact {
      blk := Blk.new w2 _ _ (by simp)
      c0 := by simp only [World.cell?, hn]; rfl
      c1 := by simp only [World.cell?, hn]; rfl
      c2 := by simp only [World.cell?, hn]; rfl
      hh := (h1.next k).next nb
      hm := h2.next nb
      fh := fun b hb => ⟨.inl hb, fun q => by have := g1 b hb; have := f2 b q; omega, by have := g1 b hb; omega⟩
      fm := fun b hb => ⟨.inr (.inl hb), by have := g2 b hb; omega⟩
      fs := .inr (.inr rfl)
      flt := fun b hb => by
        rcases hb with q | q | q
        · have := g1 b q; omega
        · have := g2 b q; omega
        · omega
      lm := hl
      rg := hr }
  · rcases hb with q | q | q
    · exact f1 b q
    · have := f2 b q; omega
    · omega

set_option maxRecDepth 100000 in
set_option maxHeartbeats 2000000 in
theorem sit_any (n : Int) (w : World) : Calls Tryd.prog 27 #[.int .i64 n] w fun e w' => ∃ sp, e = .returned (.pointer (some ⟨sp, 0, none⟩)) ∧ Hid (∃ F, SeatAt w' sp n (limS n) [] 0 F ∧ ∀ b, F b → w.heap.size ≤ b) ∧ Below w.heap.size w w' := by
  go_enter Tryd.func27, Tryd.ntmps27
  go_wp2_with fail
  refine (new_any n w).mono ?_
  rintro e w1 ⟨rfl, h1, b1⟩
  go_wp2_with fail
  refine (rnew_any n w1).mono ?_
  rintro e w2 ⟨rfl, h2, b2⟩
  have HF : Hid (∃ F, SeatAt (w2.alloc (.cells #[.int .i64 n, .pointer (some ⟨w.heap.size, 0, none⟩), .pointer (some ⟨w1.heap.size, 0, none⟩)] 74)) w2.heap.size n (limS n) [] 0 F ∧ ∀ b, F b → w.heap.size ≤ b) := seat_new h1 (fun b hb => by omega) b1.size b2 h2.out (fun b hb => by omega) rfl (fun a ha => by cases ha)
  have HB : Hid (Below w.heap.size w w2) := b1.trans (b2.mono b1.size)
  clear h1 h2 b1 b2
  go_wp2
  go_ret
  exact ⟨_, rfl, HF, HB.out.alloc HB.out.size _⟩

/-- Two seats that share nothing, in a table of two, seen from the seat k. -/
def Duo (w : World) (B tb N k : Nat) : Prop := ∃ (sp so : Nat) (l l' : Int) (m m' : Nat) (A A' : Hp) (F F' : Nat → Prop),
  (Blk w tb 71 2 ∧ w.cell? ⟨tb, k, none⟩ = some (.pointer (some ⟨sp, 0, none⟩)) ∧ w.cell? ⟨tb, 1 - k, none⟩ = some (.pointer (some ⟨so, 0, none⟩))) ∧
  (SeatAt w sp l m A N F ∧ SeatAt w so l' m' A' N F') ∧ (∀ b, F b → ¬ F' b) ∧ (∀ b, F b → B ≤ b ∧ b ≠ tb) ∧ (∀ b, F' b → B ≤ b ∧ b ≠ tb)
theorem Duo.turn {w : World} {B tb N k : Nat} (h : Duo w B tb N k) (hk : k ≤ 1) : Duo w B tb N (1 - k) := by
  obtain ⟨sp, so, l, l', m, m', A, A', F, F', ⟨h1, h2, h3⟩, ⟨h4, h5⟩, h6, h7, h8⟩ := h
  exact ⟨so, sp, l', l, m', m, A', A, F', F, ⟨h1, h3, by rw [show 1 - (1 - k) = k by omega]; exact h2⟩, ⟨h5, h4⟩, fun b q r => h6 b r q, h8, h7⟩
theorem SeatAt.same {w w' : World} {sp : Nat} {l0 : Int} {lim : Nat} {A : Hp} {N : Nat} {F : Nat → Prop} (h : SeatAt w sp l0 lim A N F) (hk : ∀ b, F b → w'.heap[b]? = w.heap[b]?) (hs : w.heap.size ≤ w'.heap.size) : SeatAt w' sp l0 lim A N F := by
  obtain ⟨hp, mp, FH, FM, h⟩ := h
  exact ⟨hp, mp, FH, FM, h.same hk hs⟩
theorem SeatAt.flt {w : World} {sp : Nat} {l0 : Int} {lim : Nat} {A : Hp} {N : Nat} {F : Nat → Prop} (h : SeatAt w sp l0 lim A N F) : ∀ b, F b → b < w.heap.size := by
  obtain ⟨hp, mp, FH, FM, h⟩ := h
  exact h.flt
theorem SeatAt.next {w w' : World} {sp : Nat} {l0 : Int} {lim : Nat} {A : Hp} {N : Nat} {F : Nat → Prop} (h : SeatAt w sp l0 lim A N F) (k : Below w.heap.size w w') : SeatAt w' sp l0 lim A N F := h.same (fun b hb => k.block b (h.flt b hb)) k.size
theorem Duo.next {w w' : World} {B tb N k : Nat} (h : Duo w B tb N k) (hb : Below w.heap.size w w') : Duo w' B tb N k := by
  obtain ⟨sp, so, l, l', m, m', A, A', F, F', ⟨h1, h2, h3⟩, ⟨h4, h5⟩, h6, h7, h8⟩ := h
  have e := hb.block tb h1.lt
  exact ⟨sp, so, l, l', m, m', A, A', F, F', ⟨h1.next hb, (World.cell?_of_block (a := ⟨tb, k, none⟩) e).trans h2, (World.cell?_of_block (a := ⟨tb, 1 - k, none⟩) e).trans h3⟩, ⟨h4.next hb, h5.next hb⟩, h6, h7, h8⟩
/-- A step of the seat k leaves two seats. -/
theorem Duo.does {w : World} {B tb N k : Nat} (h : Duo w B tb N k) (hz : Zt w) (hB : 0 < B) (hBw : B ≤ w.heap.size) (hNb : N ≤ 2000000000000) :
    ∃ sp, w.cell? ⟨tb, k, none⟩ = some (.pointer (some ⟨sp, 0, none⟩)) ∧ ∀ (dop on kd n rk rn : Int) (rs : ByteArray) (xk xn : Int) (xs : ByteArray), rs.size ≤ 9223372036854775807 → xs.size ≤ 9223372036854775807 → inR xn → Calls Tryd.prog 29 #[.pointer (some ⟨sp, 0, none⟩), .agg #[.int .i64 dop, .int .i64 on, .int .i64 kd, .int .i64 n, .int .i64 rk, .int .i64 rn, .string rs, .int .i64 xk, .int .i64 xn, .string xs]] w fun e w' => e = .returned (.bool true) ∧ Hid (Duo w' B tb (N + 1) k) ∧ Below B w w' := by
  obtain ⟨sp, so, l, l', m, m', A, A', F, F', ⟨h1, h2, h3⟩, ⟨h4, h5⟩, h6, h7, h8⟩ := h
  refine ⟨sp, h2, fun dop on kd n rk rn rs xk xn xs hrs hxs hxr => ?_⟩
  refine (does_any h4 hz (fun q => by have := (h7 0 q).1; omega) dop on kd n rk rn rs xk xn xs hrs hxs hxr hNb).mono fun e w' ⟨e1, e2⟩ => ⟨e1, ?_, ?_⟩
  · obtain ⟨A2, F2, q1, q2, q3⟩ := e2.out
    have et := q2.block tb h1.lt (fun q => (h7 tb q).2 rfl)
    refine ⟨sp, so, l, l', m, m', A2, A', F2, F', ⟨h1.same et, (World.cell?_of_block (a := ⟨tb, k, none⟩) et).trans h2, (World.cell?_of_block (a := ⟨tb, 1 - k, none⟩) et).trans h3⟩, ⟨q1, (h5.more (by omega)).same (fun b hb => q2.block b (h5.flt b hb) (fun q => h6 b q hb)) q2.size⟩, fun b hb q => ?_, fun b hb => ?_, h8⟩
    · rcases q3 b hb with r | r
      · exact h6 b r q
      · have := h5.flt b q; omega
    · rcases q3 b hb with r | r
      · exact h7 b r
      · have := h1.lt
        exact ⟨by omega, by omega⟩
  · obtain ⟨A2, F2, q1, q2, q3⟩ := e2.out
    exact q2.below (fun b hb => (h7 b hb).1) hBw

/-- One seat in a table of two. -/
def Solo (w : World) (B tb : Nat) : Prop := ∃ (sp : Nat) (l : Int) (m : Nat) (A : Hp) (F : Nat → Prop),
  (Blk w tb 71 2 ∧ w.cell? ⟨tb, 0, none⟩ = some (.pointer (some ⟨sp, 0, none⟩)) ∧ ∃ u, w.cell? ⟨tb, 1, none⟩ = some u) ∧ SeatAt w sp l m A 0 F ∧ ∀ b, F b → B ≤ b ∧ b ≠ tb
theorem heap_tb {w : World} {tb j b : Nat} {v : Value} (h : b ≠ tb) : (w.setCell ⟨tb, j, none⟩ v).heap[b]? = w.heap[b]? := Below.heap_setCell _ _ _ _ (fun e => h e)
theorem SeatAt.ptr {w : World} {sp : Nat} {l0 : Int} {lim : Nat} {A : Hp} {N : Nat} {F : Nat → Prop} (h : SeatAt w sp l0 lim A N F) : ∃ hp mp : Nat, w.cell? ⟨sp, 0, none⟩ = some (.int .i64 l0) ∧ w.cell? ⟨sp, 1, none⟩ = some (.pointer (some ⟨hp, 0, none⟩)) ∧ w.cell? ⟨sp, 2, none⟩ = some (.pointer (some ⟨mp, 0, none⟩)) := by
  obtain ⟨hp, mp, FH, FM, h⟩ := h
  exact ⟨hp, mp, h.c0, h.c1, h.c2⟩
theorem SeatAt.tbl {w : World} {sp : Nat} {l0 : Int} {lim : Nat} {A : Hp} {N : Nat} {F : Nat → Prop} (h : SeatAt w sp l0 lim A N F) {tb : Nat} (hF : ∀ b, F b → b ≠ tb) (j : Nat) (v : Value) : SeatAt (w.setCell ⟨tb, j, none⟩ v) sp l0 lim A N F := h.same (fun b hb => heap_tb (hF b hb)) (by simp)
theorem solo_of {w w1 : World} {B tb sp : Nat} {n : Int} {u u' : Value} {F : Nat → Prop} (hb : Blk w tb 71 2) (c0 : w.cell? ⟨tb, 0, none⟩ = some u) (c1 : w.cell? ⟨tb, 1, none⟩ = some u') (hB : B ≤ w.heap.size) (k : Below w.heap.size w w1) (h : SeatAt w1 sp n (limS n) [] 0 F) (hF : ∀ b, F b → w.heap.size ≤ b) : Solo (w1.setCell ⟨tb, 0, none⟩ (.pointer (some ⟨sp, 0, none⟩))) B tb := by
  have e := k.block tb hb.lt
  have ne : ∀ b, F b → b ≠ tb := fun b q e => by have := hF b q; have := hb.lt; omega
  exact ⟨sp, n, _, _, F, ⟨(hb.next k).setCell _ _, World.cell?_setCell_same _ _ _ ((World.cell?_of_block (a := ⟨tb, 0, none⟩) e).trans c0), u', (World.cell?_setCell_other _ _ _ _ (by simp)).trans ((World.cell?_of_block (a := ⟨tb, 1, none⟩) e).trans c1)⟩, h.tbl ne _ _, fun b q => ⟨by have := hF b q; omega, ne b q⟩⟩
theorem duo_of {w w1 : World} {B tb sp : Nat} {n : Int} {F : Nat → Prop} (hs : Solo w B tb) (hB : B ≤ w.heap.size) (k : Below w.heap.size w w1) (h : SeatAt w1 sp n (limS n) [] 0 F) (hF : ∀ b, F b → w.heap.size ≤ b) : Duo (w1.setCell ⟨tb, 1, none⟩ (.pointer (some ⟨sp, 0, none⟩))) B tb 0 0 := by
  obtain ⟨s0, l, m, A, F0, ⟨hb, c0, u, c1⟩, h0, f0⟩ := hs
  have e := k.block tb hb.lt
  have ne : ∀ b, F b → b ≠ tb := fun b q e => by have := hF b q; have := hb.lt; omega
  exact ⟨s0, sp, l, n, m, _, A, _, F0, F, ⟨(hb.next k).setCell _ _, (World.cell?_setCell_other _ _ _ _ (by simp)).trans ((World.cell?_of_block (a := ⟨tb, 0, none⟩) e).trans c0), World.cell?_setCell_same _ _ _ ((World.cell?_of_block (a := ⟨tb, 1, none⟩) e).trans c1)⟩, ⟨(h0.next k).tbl (fun b q => (f0 b q).2) _ _, h.tbl ne _ _⟩, fun b q r => by have := h0.flt b q; have := hF b r; omega, f0, fun b q => ⟨by have := hF b q; omega, ne b q⟩⟩
theorem Duo.more {w : World} {B tb N M k : Nat} (h : Duo w B tb N k) (e : N ≤ M) : Duo w B tb M k := by
  obtain ⟨sp, so, l, l', m, m', A, A', F, F', ⟨h1, h2, h3⟩, ⟨h4, h5⟩, h6, h7, h8⟩ := h
  exact ⟨sp, so, l, l', m, m', A, A', F, F', ⟨h1, h2, h3⟩, ⟨h4.more e, h5.more e⟩, h6, h7, h8⟩
/-- The seat k is copied to the other place of the table. -/
theorem Duo.clones {w : World} {B tb N k : Nat} (h : Duo w B tb N k) (hk : k ≤ 1) (hBt : B ≤ tb) (hB : B ≤ w.heap.size) (hNb : N ≤ 2000000000000) :
    ∃ (sp hp mp : Nat) (l : Int), (w.cell? ⟨tb, k, none⟩ = some (.pointer (some ⟨sp, 0, none⟩)) ∧ w.cell? ⟨sp, 0, none⟩ = some (.int .i64 l) ∧ w.cell? ⟨sp, 1, none⟩ = some (.pointer (some ⟨hp, 0, none⟩)) ∧ w.cell? ⟨sp, 2, none⟩ = some (.pointer (some ⟨mp, 0, none⟩)) ∧ (sp < w.heap.size ∧ tb < w.heap.size)) ∧
      Calls Tryd.prog 17 #[.pointer (some ⟨hp, 0, none⟩)] w fun e w1 => ∃ hc : Nat, e = .returned (.pointer (some ⟨hc, 0, none⟩)) ∧ Below w.heap.size w w1 ∧ Hid (∀ W, Below w1.heap.size w1 W → Calls Tryd.prog 28 #[.pointer (some ⟨mp, 0, none⟩)] W fun e w2 => ∃ v, e = .returned v ∧ ∃ mc : Nat, v = .pointer (some ⟨mc, 0, none⟩) ∧ Below w1.heap.size w1 w2 ∧
        Hid (Duo ((w2.alloc (.cells #[.int .i64 l, .pointer (some ⟨hc, 0, none⟩), .pointer (some ⟨mc, 0, none⟩)] 74)).setCell ⟨tb, 1 - k, none⟩ (.pointer (some ⟨w2.heap.size, 0, none⟩))) B tb N k ∧ Below B w ((w2.alloc (.cells #[.int .i64 l, .pointer (some ⟨hc, 0, none⟩), .pointer (some ⟨mc, 0, none⟩)] 74)).setCell ⟨tb, 1 - k, none⟩ (.pointer (some ⟨w2.heap.size, 0, none⟩))))) := by
  obtain ⟨sp, so, l, l', m, m', A, A', F, F', ⟨h1, h2, h3⟩, ⟨h4, h5⟩, h6, h7, h8⟩ := h
  have h4' := h4
  obtain ⟨hp, mp, FH, FM, hC⟩ := h4'
  refine ⟨sp, hp, mp, l, ⟨h2, hC.c0, hC.c1, hC.c2, hC.blk.lt, h1.lt⟩, ?_⟩
  refine (clone_heap hC.hh).mono fun e w1 ⟨e1, e2⟩ => ?_
  obtain ⟨FC, g1, g2, b1⟩ := e2.out
  refine ⟨_, e1, b1, fun W hW => ?_⟩
  refine (rclone_any ((hC.hm.next b1).next hW) hNb).mono fun e w2 ⟨e3, e4⟩ => ?_
  obtain ⟨FD, g3, g4, b2⟩ := e4.out
  have zW := hW.size
  have z1 := b1.size
  have b12 : Below w1.heap.size w1 w2 := hW.trans (b2.mono hW.size)
  have z12 := b12.size
  have b02 : Below w.heap.size w w2 := b1.trans (b12.mono b1.size)
  refine ⟨_, e3, _, rfl, b12, ?_⟩
  obtain ⟨FS, q1, q2⟩ := seat_new (w := w) (l0 := l) g1 g2 z1 b12 g3 (fun b hb => by have := g4 b hb; omega) hC.lm hC.rg
  have nb : Below w2.heap.size w2 (w2.alloc (.cells #[.int .i64 l, .pointer (some ⟨w.heap.size, 0, none⟩), .pointer (some ⟨W.heap.size, 0, none⟩)] 74)) := (Below.refl _ w2).alloc (Nat.le_refl _) _
  have b0 : Below w.heap.size w (w2.alloc (.cells #[.int .i64 l, .pointer (some ⟨w.heap.size, 0, none⟩), .pointer (some ⟨W.heap.size, 0, none⟩)] 74)) := b02.trans (nb.mono b02.size)
  generalize w2.alloc (.cells #[.int .i64 l, .pointer (some ⟨w.heap.size, 0, none⟩), .pointer (some ⟨W.heap.size, 0, none⟩)] 74) = Y at q1 b0 nb ⊢
  have e := b0.block tb h1.lt
  have ne : ∀ b, FS b → b ≠ tb := fun b q e => by have := q2 b q; have := h1.lt; omega
  refine ⟨⟨sp, _, l, l, m, m, A, A, F, FS, ⟨(h1.next b0).setCell _ _, (World.cell?_setCell_other _ _ _ _ (by first | (simp; done) | (simp; omega))).trans ((World.cell?_of_block (a := ⟨tb, k, none⟩) e).trans h2), World.cell?_setCell_same _ _ _ ((World.cell?_of_block (a := ⟨tb, 1 - k, none⟩) e).trans h3)⟩, ⟨(h4.next b0).tbl (fun b q => (h7 b q).2) _ _, q1.tbl ne _ _⟩, fun b q r => by have := h4.flt b q; have := q2 b r; omega, h7, fun b q => ⟨by have := q2 b q; omega, ne b q⟩⟩, ?_⟩
  have k0 : Kp (fun b => b = tb) w (Y.setCell ⟨tb, 1 - k, none⟩ (.pointer (some ⟨w2.heap.size, 0, none⟩))) := (Kp.of (F := fun b => b = tb) b0).setCell (p := ⟨tb, 1 - k, none⟩) (.inl rfl) _
  exact k0.below (fun b hb => by omega) hB
end Go.Proofs.YtdcioemjmmhbhaaDoor
