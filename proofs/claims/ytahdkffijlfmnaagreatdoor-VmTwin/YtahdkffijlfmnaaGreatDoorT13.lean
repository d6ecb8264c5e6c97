import Derived.Test.YtahdkffijlfmnaaGreatDoorT12
import Derived.Test.YtahdkffijlfmnaaGreatDoorT10
namespace Go.Proofs.YtahdkffijlfmnaaGreatDoor.Hp
open Go.RowKit
set_option maxRecDepth 100000 in
set_option maxHeartbeats 1000000 in
theorem vbytes_any (w : World) (rb : Nat) (a b : List UInt8) (hl : (a ++ b).length ≤ 9223372036854775807) (h : Box2 w rb (.string (str (a ++ b))) (.bool false)) :
    Calls Tryz.prog 99 #[.pointer (some ⟨rb, 0, none⟩), .int .i64 (a.length : Int)] w fun e w' => e = .returned (.string (str a)) ∧ w' = w.setCell ⟨rb, 0, none⟩ (.string (str b)) := by
  obtain ⟨⟨h0, f0⟩, h1, f1⟩ := h
  have hs := rstr_size (a ++ b)
  have e1 := str_head a b
  have e2 := str_tail a b
  have hal : (a.length : Int) ≤ ((str (a ++ b)).size : Int) := by rw [hs, List.length_append]; omega
  have hz : ((str (a ++ b)).size : Int) ≤ 9223372036854775807 := by rw [hs]; omega
  clear hs
  generalize str (a ++ b) = s at *
  have a0 : (0 : Int) ≤ (a.length : Int) := by omega
  go_enter Tryz.func99, Tryz.ntmps99
  go_wp2
  go_ret
  exact ⟨rfl, rfl⟩
set_option maxRecDepth 100000 in
set_option maxHeartbeats 2000000 in
theorem vnumber_any (w : World) (rb : Nat) (a b : List UInt8) (hl : (a ++ b).length ≤ 9223372036854775807) (h : Box2 w rb (.string (str (a ++ b))) (.bool false)) :
    Calls Tryz.prog 97 #[.pointer (some ⟨rb, 0, none⟩), .int .i64 (a.length : Int)] w fun e w' => e = .returned (.int .i64 (numV a)) ∧ Hid (Box2 w' rb (.string (str b)) (.bool false) ∧ Kp (fun x => x = rb) w w') := by
  have hby := vbytes_any w rb a b hl h
  have hrl : rb < w.heap.size := block_lt_of_cell h.1.1
  have h2 : Box2 (w.setCell ⟨rb, 0, none⟩ (.string (str b))) rb (.string (str b)) (.bool false) := by
    refine ⟨⟨World.cell?_setCell_same' _ _ _ (by rw [h.1.1]; rfl), by rw [World.frozen?_setCell]; exact h.1.2⟩, ?_, by rw [World.frozen?_setCell]; exact h.2.2⟩
    rw [World.cell?_setCell_other _ _ _ _ (by simp)]
    exact h.2.1
  have k2 : Kp (fun x => x = rb) w (w.setCell ⟨rb, 0, none⟩ (.string (str b))) := (Kp.refl (fun x => x = rb) w).setCell (p := ⟨rb, 0, none⟩) (.inl rfl) _
  have hr2 : rb < (w.setCell ⟨rb, 0, none⟩ (.string (str b))).heap.size := by rw [set_size]; exact hrl
  generalize w.setCell ⟨rb, 0, none⟩ (.string (str b)) = W at hby h2 k2 hr2
  have hcv := Lib.run_convert_string_bytes (P := Tryz.prog) W 9 80 5 (str a) Tryz.underlying9 Tryz.underlying80 Tryz.underlying5
  rw [rstr_size] at hcv
  have HB : Hid (Below W.heap.size W (Lib.bytesWorld W 5 (str a))) := ⟨rfl, rfl, rfl, by rw [Lib.bytesWorld_size]; omega, fun k hk => Lib.bytesWorld_at_old W 5 (str a) k hk⟩
  have HC : Hid (∀ j, j < a.length → (Lib.bytesWorld W 5 (str a)).cell? ⟨W.heap.size, j, none⟩ = some (.int .u8 ((a.getD j 0).toNat : Int))) := fun j hj => by
    have := Lib.bytesWorld_cell W 5 (str a) j (by rw [rstr_size]; exact hj)
    rwa [str_data] at this
  generalize Lib.bytesWorld W 5 (str a) = W2 at hcv HB HC
  generalize grownCap W a.length 0 5 = cp at hcv
  have hal : (a.length : Int) ≤ 9223372036854775807 := by rw [List.length_append] at hl; omega
  clear h
  go_enter Tryz.func97, Tryz.ntmps97
  go_wp2_with (first | (go_at_call 99; refine hby.mono ?_; rintro e w1 ⟨rfl, rfl⟩) | fail)
  go_loopw [5, 13] (fun n v wr => ∃ j : Nat, j ≤ a.length ∧ v = .int .i64 (j : Int) ∧ n = .int .i64 (numV (a.take j)) ∧ wr = W2) (fun _ v _ => a.length - (intOf v).toNat)
  case atStart => exact ⟨0, Nat.zero_le _, rfl, rfl, rfl⟩
  case round =>
    obtain ⟨j, hj, rfl, rfl, rfl⟩ := hrel
    by_cases hlt : j < a.length
    case neg =>
      obtain rfl : j = a.length := by omega
      rw [List.take_length]
      go_wp2
      first | (change bodyPost Tryz.prog Tryz.f97 _ Exit.ret _ _) | (simp only [Exit.noGoto])
      go_ret
      exact ⟨rfl, h2.below HB.out hr2, k2.next HB.out⟩
    have c := HC.out j hlt
    have j0 : (0 : Int) ≤ (j : Int) := by omega
    have j1 : (j : Int) < (a.length : Int) := by omega
    have hs : numV (a.take (j + 1)) = wrap64 (numV (a.take j) * 256) + ((a.getD j 0).toNat : Int) := by
      rw [List.take_succ_eq_append_getElem hlt, numV_snoc, List.getD_eq_getElem?_getD, List.getElem?_eq_getElem hlt]
      rfl
    have HS : Hid (numV (a.take (j + 1)) = wrap64 (numV (a.take j) * 256) + ((a.getD j 0).toNat : Int)) := hs
    have hbb := UInt8.toNat_lt (a.getD j 0)
    clear hs
    generalize numV (a.take j) = nn at HS ⊢
    generalize (a.getD j 0).toNat = bb at HS hbb c
    go_wp2
    exact ⟨⟨j + 1, by omega, by go_num, by rw [bits_or nn bb hbb, HS.out], trivial⟩, by simp [intOf]; omega⟩
theorem numV_rng (l : List UInt8) : -9223372036854775808 ≤ numV l ∧ numV l ≤ 9223372036854775807 := by
  rcases List.eq_nil_or_concat l with rfl | ⟨r, b, rfl⟩
  · exact ⟨by decide, by decide⟩
  · rw [List.concat_eq_append, numV_snoc]
    have := b.toNat_lt
    unfold wrap64
    omega
set_option maxRecDepth 100000 in
set_option maxHeartbeats 1000000 in
theorem within_any (w : World) (rb : Nat) (a b : List UInt8) (lo hi : Int) (hl : (a ++ b).length ≤ 9223372036854775807) (h : Box2 w rb (.string (str (a ++ b))) (.bool false)) (h0 : lo ≤ numV a) (h1 : numV a ≤ hi) :
    Calls Tryz.prog 61 #[.pointer (some ⟨rb, 0, none⟩), .int .i64 (a.length : Int), .int .i64 lo, .int .i64 hi] w fun e w' => e = .returned (.int .i64 (numV a)) ∧ Hid (Box2 w' rb (.string (str b)) (.bool false) ∧ Kp (fun x => x = rb) w w') := by
  have hn := vnumber_any w rb a b hl h
  have HR : Hid (IntKind.i64.wrap (numV a) = numV a) := by
    show IntKind.i64.wrap (numV a) = numV a
    rw [IntKind.wrap_i64]
    have := numV_rng a
    omega
  have hw := HR.out
  have c0 : ¬ (numV a < lo) := by omega
  have c1 : ¬ (hi < numV a) := by omega
  generalize numV a = x at *
  clear h
  go_enter Tryz.func61, Tryz.ntmps61
  go_wp2_with (first | (go_at_call 97; refine hn.mono ?_; rintro e w1 ⟨rfl, hq⟩; clear hn) | fail)
  go_ret
  exact ⟨rfl, hq⟩
set_option maxRecDepth 100000 in
set_option maxHeartbeats 1000000 in
theorem piece_any (w : World) (rb k : Nat) (a b : List UInt8) (hv : numV (numB (a.length : Int) k) = (a.length : Int)) (hl : (numB (a.length : Int) k ++ (a ++ b)).length ≤ 9223372036854775807) (h : Box2 w rb (.string (str (numB (a.length : Int) k ++ (a ++ b)))) (.bool false)) :
    Calls Tryz.prog 63 #[.pointer (some ⟨rb, 0, none⟩), .int .i64 (k : Int)] w fun e w' => e = .returned (.string (str a)) ∧ Hid (Box2 w' rb (.string (str b)) (.bool false) ∧ Kp (fun x => x = rb) w w') := by
  have hn := vnumber_any w rb (numB (a.length : Int) k) (a ++ b) hl h
  rw [numB_len, hv] at hn
  have hal : (a.length : Int) ≤ 9223372036854775807 := by simp only [List.length_append] at hl; omega
  have HBY : Hid (∀ W, Box2 W rb (.string (str (a ++ b))) (.bool false) → Kp (fun x => x = rb) w W → Calls Tryz.prog 99 #[.pointer (some ⟨rb, 0, none⟩), .int .i64 (a.length : Int)] W fun e w' => e = .returned (.string (str a)) ∧ Hid (Box2 w' rb (.string (str b)) (.bool false) ∧ Kp (fun x => x = rb) w w')) := fun W hW kW => by
    refine (vbytes_any W rb a b (by simp only [List.length_append] at hl ⊢; omega) hW).mono fun e w' q => ⟨q.1, ?_⟩
    rw [q.2]
    refine ⟨⟨⟨World.cell?_setCell_same' _ _ _ (by rw [hW.1.1]; rfl), by rw [World.frozen?_setCell]; exact hW.1.2⟩, ?_, by rw [World.frozen?_setCell]; exact hW.2.2⟩, kW.setCell (p := ⟨rb, 0, none⟩) (.inl rfl) _⟩
    rw [World.cell?_setCell_other _ _ _ _ (by simp)]
    exact hW.2.1
  have hw : IntKind.i64.wrap (a.length : Int) = (a.length : Int) := by rw [IntKind.wrap_i64]; omega
  clear h hl hv
  go_enter Tryz.func63, Tryz.ntmps63
  go_wp2_with (first
    | (go_at_call 97; refine hn.mono ?_; rintro e w1 ⟨rfl, hq⟩; clear hn)
    | (go_at_call 99; refine (HBY.out _ hq.out.1 hq.out.2).mono ?_; rintro e w2 ⟨rfl, hq2⟩; clear HBY)
    | fail)
  go_ret
  exact ⟨rfl, hq2⟩
end Go.Proofs.YtahdkffijlfmnaaGreatDoor.Hp

namespace Go.Proofs.YtahdkffijlfmnaaGreatDoor.Hp
open Go.RowKit
theorem va_app (v : V) (b : List UInt8) : vaB v ++ b = numB v.1 1 ++ (elB v ++ b) := by
  have e : numB v.1 1 = [byteOf v.1] := by simp [numB]
  unfold vaB
  rw [e]
  rfl
set_option maxRecDepth 100000 in
set_option maxHeartbeats 4000000 in
theorem value_any (w : World) (rb : Nat) (k n : Int) (s : ByteArray) (b : List UInt8) (hk : 1 ≤ k ∧ k ≤ 4) (ho : okV k n s = true) (hn : -9223372036854775808 ≤ n ∧ n ≤ 9223372036854775807) (hl : (vaB (k, n, s) ++ b).length ≤ 9223372036854775807) (h : Box2 w rb (.string (str (vaB (k, n, s) ++ b))) (.bool false)) :
    Calls Tryz.prog 121 #[.pointer (some ⟨rb, 0, none⟩)] w fun e w' => e = .returned (.agg #[.int .i64 k, .int .i64 n, .string s]) ∧ Hid (Box2 w' rb (.string (str b)) (.bool false) ∧ Kp (fun x => x = rb) w w') := by
  have hrl : rb < w.heap.size := block_lt_of_cell h.1.1
  obtain ⟨o2, o3, o1⟩ := ok_parts (k := k) (n := n) (s := s) ho
  rw [va_app] at h hl
  have hl1 : (elB (k, n, s) ++ b).length ≤ 9223372036854775807 := by rw [List.length_append] at hl; omega
  have B0 : Below w.heap.size w (w.alloc (.cells #[.int .i64 0, .int .i64 0, .string e0] 52)) := (Below.refl _ w).alloc (Nat.le_refl _) _
  have b4 := Box3.new w 0 0 e0 52
  have zA : (w.alloc (.cells #[.int .i64 0, .int .i64 0, .string e0] 52)).heap.size = w.heap.size + 1 := by simp
  have n1 := vnumber_any (w.alloc (.cells #[.int .i64 0, .int .i64 0, .string e0] 52)) rb (numB k 1) (elB (k, n, s) ++ b) hl (h.below B0 hrl)
  rw [numB_len, nv1, show k % 256 = k by omega] at n1
  have hw : IntKind.i64.wrap k = k := by rw [IntKind.wrap_i64]; omega
  have FIN : ∀ (W : World), Kp (fun x => x = rb) w W → Box2 W rb (.string (str b)) (.bool false) → Box3 W w.heap.size 0 0 e0 → Box3 (put3 W w.heap.size k n s) w.heap.size k n s ∧ Hid (Box2 (put3 W w.heap.size k n s) rb (.string (str b)) (.bool false) ∧ Kp (fun x => x = rb) w (put3 W w.heap.size k n s)) := fun W hk hb h4 =>
    ⟨h4.put k n s, hb.same (put3_heap (by omega)), kp_put3 hk (.inr (Nat.le_refl _)) _ _ _⟩
  have HFIN : Hid _ := FIN
  have HB0 : Hid _ := B0
  have Hb4 : Hid (Box3 (w.alloc (.cells #[.int .i64 0, .int .i64 0, .string e0] 52)) w.heap.size 0 0 e0) := b4
  have HzA : Hid _ := zA
  clear FIN h hl B0 b4 zA
  have KIND : ∀ w1, Box2 w1 rb (.string (str (elB (k, n, s) ++ b))) (.bool false) → Kp (fun x => x = rb) (w.alloc (.cells #[.int .i64 0, .int .i64 0, .string e0] 52)) w1 → Hid (Box2 (w1.alloc (.cells #[.int .i64 k, .int .i64 0, .string e0] 52)) rb (.string (str (elB (k, n, s) ++ b))) (.bool false) ∧ Kp (fun x => x = rb) w (w1.alloc (.cells #[.int .i64 k, .int .i64 0, .string e0] 52)) ∧ Box3 (w1.alloc (.cells #[.int .i64 k, .int .i64 0, .string e0] 52)) w.heap.size 0 0 e0 ∧ Box3 (w1.alloc (.cells #[.int .i64 k, .int .i64 0, .string e0] 52)) w1.heap.size k 0 e0 ∧ w.heap.size < w1.heap.size ∧ w1.heap.size < (w1.alloc (.cells #[.int .i64 k, .int .i64 0, .string e0] 52)).heap.size) := fun w1 r1 k1 => by
    have nb : Below w1.heap.size w1 (w1.alloc (.cells #[.int .i64 k, .int .i64 0, .string e0] 52)) := (Below.refl _ w1).alloc (Nat.le_refl _) _
    have hz := HzA.out
    have hs := k1.size
    have c4 := Hb4.out.same (k1.block _ (by omega) (by omega))
    exact ⟨r1.below nb (block_lt_of_cell r1.1.1), ((Kp.of HB0.out).trans k1 (fun _ _ q => q)).next nb, c4.below nb (by omega), Box3.new w1 k 0 e0 52, by omega, by simp⟩
  have HKIND : Hid _ := KIND
  clear KIND HB0 Hb4 HzA
  by_cases h2 : k = 2
  · obtain ⟨n01, rfl⟩ := o2 h2
    have he : elB (k, n, e0) = numB n 1 := by unfold elB; rw [if_pos h2]; simp [numB]
    rw [he] at hl1 n1 HKIND
    have hv : numV (numB n 1) = n := by rw [nv1]; omega
    subst h2
    clear o3 o1 he
    go_enter Tryz.func121, Tryz.ntmps121
    go_wp2_with fail
    refine n1.mono ?_
    rintro e w1 ⟨rfl, hq⟩
    have HK := HKIND.out w1 hq.out.1 hq.out.2
    obtain ⟨rX, kX, b4, b5, z1, z2⟩ := HK.out
    obtain ⟨⟨⟨v0, -⟩, -⟩, -, -⟩ := id b5
    clear n1 hq HKIND HK
    go_wp2_with fail
    generalize w1.alloc (.cells #[.int .i64 2, .int .i64 0, .string e0] 52) = X at rX kX b4 b5 z2 v0 ⊢
    generalize w1.heap.size = B at b5 z1 z2 v0 ⊢
    have hnum := vnumber_any X rb (numB n 1) b hl1 rX
    rw [numB_len, hv] at hnum
    refine hnum.mono ?_
    rintro e w2 ⟨rfl, hq⟩
    obtain ⟨q1, q2⟩ := hq.out
    have c4 := b4.same (q2.block _ (by omega) (by omega))
    have c5 := b5.same (q2.block _ z2 (by omega))
    have KP : Kp (fun x => x = rb) w w2 := kX.trans q2 (fun _ _ q => q)
    clear hnum b4 b5 hq v0
    obtain ⟨⟨⟨x0, f0⟩, ⟨x1, f1⟩⟩, x2, f2⟩ := id c4
    obtain ⟨⟨⟨y0, g0⟩, ⟨y1, g1⟩⟩, y2, g2⟩ := id c5
    have c4' := c4.set ⟨B, 1, none⟩ (.int .i64 n) (by show B ≠ w.heap.size; omega)
    have k4' := KP.setCell (p := ⟨B, 1, none⟩) (.inr (Nat.le_of_lt z1)) (.int .i64 n)
    have r4' : Box2 (w2.setCell ⟨B, 1, none⟩ (.int .i64 n)) rb (.string (str b)) (.bool false) := q1.same (set_heap (a := ⟨B, 1, none⟩) (by show rb ≠ B; omega))
    have ne : w.heap.size ≠ B := by omega
    go_wp2
    change bodyPost Tryz.prog _ _ _ _ (put3 (w2.setCell ⟨B, 1, none⟩ (.int .i64 n)) w.heap.size _ _ _)
    obtain ⟨p, r⟩ := HFIN.out _ k4' r4' c4'
    obtain ⟨⟨⟨p0, -⟩, ⟨p1, -⟩⟩, p2, -⟩ := p
    exact bodyPost_ret (v := .agg #[.int .i64 2, .int .i64 n, .string e0]) (by simp [results, Tryz.results121, go_sem, p0, p1, p2]) rfl ⟨rfl, r⟩
  have h2' : (k == 2) = false := by simpa using h2
  by_cases h3 : k = 3
  · obtain ⟨rfl, hs⟩ := o3 h3
    have he : elB (k, 0, s) = numB (s.size : Int) 2 ++ s.data.toList := by unfold elB; rw [if_neg h2, if_pos h3]
    rw [he, List.append_assoc] at hl1 n1 HKIND
    have hst : str s.data.toList = s := by simp [str]
    have hsl : (s.size : Int) = ((s.data.toList.length : Nat) : Int) := by rw [← Lib.size_eq]
    have hv : numV (numB ((s.data.toList.length : Nat) : Int) 2) = ((s.data.toList.length : Nat) : Int) := by rw [nv2]; omega
    rw [hsl] at hl1 n1 HKIND
    subst h3
    clear o2 o1 he h2
    go_enter Tryz.func121, Tryz.ntmps121
    go_wp2_with fail
    refine n1.mono ?_
    rintro e w1 ⟨rfl, hq⟩
    have HK := HKIND.out w1 hq.out.1 hq.out.2
    obtain ⟨rX, kX, b4, b5, z1, z2⟩ := HK.out
    obtain ⟨⟨⟨v0, -⟩, -⟩, -, -⟩ := id b5
    clear n1 hq HKIND HK
    go_wp2_with fail
    generalize w1.alloc (.cells #[.int .i64 3, .int .i64 0, .string e0] 52) = X at rX kX b4 b5 z2 v0 ⊢
    generalize w1.heap.size = B at b5 z1 z2 v0 ⊢
    have hpc := piece_any X rb 2 s.data.toList b hv hl1 rX
    rw [hst] at hpc
    refine hpc.mono ?_
    rintro e w2 ⟨rfl, hq⟩
    obtain ⟨q1, q2⟩ := hq.out
    have e4 := b4.same (q2.block _ (by omega) (by omega))
    have e5 := b5.same (q2.block _ z2 (by omega))
    have k1 : Kp (fun x => x = rb) w w2 := kX.trans q2 (fun _ _ q => q)
    have z3 := q2.size
    clear hpc b4 b5 hq v0 hsl
    go_wp2_with fail
    refine (clone_any s w2 (by omega)).mono ?_
    rintro e w3 ⟨rfl, hb3⟩
    have c4 := e4.below hb3 (by omega)
    have c5 := e5.below hb3 (by omega)
    have r3 := q1.below hb3 (block_lt_of_cell q1.1.1)
    have KP := k1.next hb3
    obtain ⟨⟨⟨x0, f0⟩, ⟨x1, f1⟩⟩, x2, f2⟩ := id c4
    obtain ⟨⟨⟨y0, g0⟩, ⟨y1, g1⟩⟩, y2, g2⟩ := id c5
    have c4' := c4.set ⟨B, 2, none⟩ (.string s) (by show B ≠ w.heap.size; omega)
    have k4' := KP.setCell (p := ⟨B, 2, none⟩) (.inr (Nat.le_of_lt z1)) (.string s)
    have r4' : Box2 (w3.setCell ⟨B, 2, none⟩ (.string s)) rb (.string (str b)) (.bool false) := r3.same (set_heap (a := ⟨B, 2, none⟩) (by show rb ≠ B; omega))
    have ne : w.heap.size ≠ B := by omega
    go_wp2
    change bodyPost Tryz.prog _ _ _ _ (put3 (w3.setCell ⟨B, 2, none⟩ (.string s)) w.heap.size _ _ _)
    obtain ⟨p, r⟩ := HFIN.out _ k4' r4' c4'
    obtain ⟨⟨⟨p0, -⟩, ⟨p1, -⟩⟩, p2, -⟩ := p
    exact bodyPost_ret (v := .agg #[.int .i64 3, .int .i64 0, .string s]) (by simp [results, Tryz.results121, go_sem, p0, p1, p2]) rfl ⟨rfl, r⟩
  · have hs0 := o1 (by omega)
    subst hs0
    have he : elB (k, n, e0) = numB n 8 := by unfold elB; rw [if_neg h2, if_neg h3]
    rw [he] at hl1 n1 HKIND
    have hv : numV (numB n 8) = n := num8 n hn.1 hn.2
    have h3' : (k == 3) = false := by simpa using h3
    clear o2 o3 o1 he h2 h3
    go_enter Tryz.func121, Tryz.ntmps121
    go_wp2_with fail
    refine n1.mono ?_
    rintro e w1 ⟨rfl, hq⟩
    have HK := HKIND.out w1 hq.out.1 hq.out.2
    obtain ⟨rX, kX, b4, b5, z1, z2⟩ := HK.out
    obtain ⟨⟨⟨v0, -⟩, -⟩, -, -⟩ := id b5
    clear n1 hq HKIND HK
    go_wp2_with fail
    generalize w1.alloc (.cells #[.int .i64 k, .int .i64 0, .string e0] 52) = X at rX kX b4 b5 z2 v0 ⊢
    generalize w1.heap.size = B at b5 z1 z2 v0 ⊢
    have hnum := vnumber_any X rb (numB n 8) b hl1 rX
    rw [numB_len, hv] at hnum
    refine hnum.mono ?_
    rintro e w2 ⟨rfl, hq⟩
    obtain ⟨q1, q2⟩ := hq.out
    have c4 := b4.same (q2.block _ (by omega) (by omega))
    have c5 := b5.same (q2.block _ z2 (by omega))
    have KP : Kp (fun x => x = rb) w w2 := kX.trans q2 (fun _ _ q => q)
    clear hnum b4 b5 hq v0
    obtain ⟨⟨⟨x0, f0⟩, ⟨x1, f1⟩⟩, x2, f2⟩ := id c4
    obtain ⟨⟨⟨y0, g0⟩, ⟨y1, g1⟩⟩, y2, g2⟩ := id c5
    have c4' := c4.set ⟨B, 1, none⟩ (.int .i64 n) (by show B ≠ w.heap.size; omega)
    have k4' := KP.setCell (p := ⟨B, 1, none⟩) (.inr (Nat.le_of_lt z1)) (.int .i64 n)
    have r4' : Box2 (w2.setCell ⟨B, 1, none⟩ (.int .i64 n)) rb (.string (str b)) (.bool false) := q1.same (set_heap (a := ⟨B, 1, none⟩) (by show rb ≠ B; omega))
    have ne : w.heap.size ≠ B := by omega
    go_wp2
    change bodyPost Tryz.prog _ _ _ _ (put3 (w2.setCell ⟨B, 1, none⟩ (.int .i64 n)) w.heap.size _ _ _)
    obtain ⟨p, r⟩ := HFIN.out _ k4' r4' c4'
    obtain ⟨⟨⟨p0, -⟩, ⟨p1, -⟩⟩, p2, -⟩ := p
    exact bodyPost_ret (v := .agg #[.int .i64 k, .int .i64 n, .string e0]) (by simp [results, Tryz.results121, go_sem, p0, p1, p2]) rfl ⟨rfl, r⟩
end Go.Proofs.YtahdkffijlfmnaaGreatDoor.Hp

namespace Go.Proofs.YtahdkffijlfmnaaGreatDoor.Hp
open Go.RowKit
def RdV (v : V) : Prop := (1 ≤ v.1 ∧ v.1 ≤ 4) ∧ okV v.1 v.2.1 v.2.2 = true ∧ -9223372036854775808 ≤ v.2.1 ∧ v.2.1 ≤ 9223372036854775807
set_option maxRecDepth 100000 in
set_option maxHeartbeats 4000000 in
theorem values_any (w : World) (rb : Nat) (vs : List V) (b : List UInt8) (hv : ∀ v ∈ vs, RdV v) (hn : vs.length ≤ 100000) (hl : (vs.flatMap vaB ++ b).length ≤ 9223372036854775807) (h : Box2 w rb (.string (str (vs.flatMap vaB ++ b))) (.bool false)) :
    Calls Tryz.prog 98 #[.pointer (some ⟨rb, 0, none⟩), .int .i64 (vs.length : Int)] w fun e w' => e = .returned (.slice (some ⟨w.heap.size, 0, none⟩) vs.length vs.length) ∧ Hid (w'.ownsRow w.heap.size 52 3 (.slice (some ⟨w.heap.size, 0, none⟩) vs.length vs.length) vs.length (vcs vs) ∧ Box2 w' rb (.string (str b)) (.bool false) ∧ Kp (fun x => x = rb) w w') := by
  have hrl : rb < w.heap.size := block_lt_of_cell h.1.1
  obtain ⟨Z, hZ, hmk⟩ := run_makeV vs.length hn
  have hmk := hmk w
  have nb : Below w.heap.size w (w.alloc (.cells Z 52)) := (Below.refl _ w).alloc (Nat.le_refl _) _
  have hnw := World.alloc_heap_new w (.cells Z 52)
  have H0 : Hid (Blk (w.alloc (.cells Z 52)) w.heap.size 52 (vs.length * 3) ∧ (w.alloc (.cells Z 52)).cell? ⟨w.heap.size, vs.length * 3, none⟩ = none ∧ (w.alloc (.cells Z 52)).rangeAt w.heap.size 0 (vcs (vs.take 0)) ∧ Box2 (w.alloc (.cells Z 52)) rb (.string (str ((vs.drop 0).flatMap vaB ++ b))) (.bool false) ∧ Kp (fun x => x = rb) w (w.alloc (.cells Z 52))) := by
    refine ⟨Blk.new w Z _ (by omega), ?_, fun j v hv => ?_, h.below nb hrl, Kp.of nb⟩
    · simp only [World.cell?, hnw]
      simp [hZ]
    · simp [vcs] at hv
  generalize w.alloc (.cells Z 52) = A at *
  clear h nb hnw
  obtain ⟨N, hN⟩ : ∃ N, vs.length = N := ⟨_, rfl⟩
  rw [hN] at hmk H0 hn ⊢
  have HN : Hid (vs.length = N) := hN
  have HL : Hid ((vs.flatMap vaB ++ b).length ≤ 9223372036854775807) := hl
  clear hl hN
  go_enter Tryz.func98, Tryz.ntmps98
  go_wp2_with fail
  go_loopw [11] (fun v wr => ∃ j : Nat, j ≤ N ∧ v = .int .i64 (j : Int) ∧ Hid (Blk wr w.heap.size 52 (N * 3) ∧ wr.cell? ⟨w.heap.size, N * 3, none⟩ = none ∧ wr.rangeAt w.heap.size 0 (vcs (vs.take j)) ∧ Box2 wr rb (.string (str ((vs.drop j).flatMap vaB ++ b))) (.bool false) ∧ Kp (fun x => x = rb) w wr)) (fun v _ => N - (intOf v).toNat)
  case atStart => exact ⟨0, Nat.zero_le _, rfl, H0⟩
  case round =>
    clear H0 hmk
    obtain ⟨j, hj, rfl, hI⟩ := hrel
    by_cases hlt : j < N
    case neg =>
      obtain rfl : j = N := by omega
      have HF : Hid (wr.ownsRow w.heap.size 52 3 (.slice (some ⟨w.heap.size, 0, none⟩) j j) j (vcs vs) ∧ Box2 wr rb (.string (str b)) (.bool false) ∧ Kp (fun x => x = rb) w wr) := by
        obtain ⟨h1, h2, h3, h4, h5⟩ := hI.out
        have hN := HN.out
        rw [List.take_of_length_le (by omega)] at h3
        rw [List.drop_of_length_le (by omega), List.flatMap_nil, List.nil_append] at h4
        exact ⟨own_full (Nat.le_refl _) (by rw [vcs_len, hN]) h1 h2 h3 (by unfold maxLen; omega), h4, h5⟩
      clear hI
      go_wp2
      go_ret
      exact ⟨rfl, HF⟩
    have hjl : j < vs.length := by have := HN.out; omega
    have hvj := hv vs[j] (List.getElem_mem hjl)
    have hdr : (vs.drop j).flatMap vaB ++ b = vaB vs[j] ++ ((vs.drop (j + 1)).flatMap vaB ++ b) := by rw [List.drop_eq_getElem_cons hjl, List.flatMap_cons, List.append_assoc]
    have htk : vcs (vs.take (j + 1)) = vcs (vs.take j) ++ vc vs[j] := by rw [List.take_succ_eq_append_getElem hjl, vcs_app]; simp [vcs]
    have hll : (vaB vs[j] ++ ((vs.drop (j + 1)).flatMap vaB ++ b)).length ≤ 9223372036854775807 := by
      rw [← hdr]
      have hl := HL.out
      have e : vs.flatMap vaB = (vs.take j).flatMap vaB ++ (vs.drop j).flatMap vaB := by rw [← List.flatMap_append, List.take_append_drop]
      rw [e, List.append_assoc, List.length_append] at hl
      omega
    have hlj : (vcs (vs.take j)).length = j * 3 := by rw [vcs_len, List.length_take]; omega
    rw [hdr] at hI
    have HTK : Hid (vcs (vs.take (j + 1)) = vcs (vs.take j) ++ vc vs[j] ∧ (vcs (vs.take j)).length = j * 3) := ⟨htk, hlj⟩
    clear hdr htk hlj
    generalize vs[j] = y at hvj hll hI HTK
    obtain ⟨vk, vn, vt⟩ := y
    obtain ⟨hk1, hk2, hk3⟩ := hvj
    have HVAL : Hid (∀ W, Below wr.heap.size wr W → Calls Tryz.prog 121 #[.pointer (some ⟨rb, 0, none⟩)] W fun e w' => ∃ v, e = .returned v ∧ (v = .agg #[.int .i64 vk, .int .i64 vn, .string vt] ∧ Hid (Box2 w' rb (.string (str ((vs.drop (j + 1)).flatMap vaB ++ b))) (.bool false) ∧ Kp (fun x => x = rb) wr w'))) := fun W hW => by
      have q := hI.out.2.2.2.1.below hW (block_lt_of_cell hI.out.2.2.2.1.1.1)
      exact (value_any W rb vk vn vt _ hk1 hk2 hk3 hll q).mono fun e w' r => ⟨_, r.1, rfl, r.2.out.1, (Kp.of hW).trans r.2.out.2 (fun _ _ q => q)⟩
    have HST : Hid (∀ W, Box2 W rb (.string (str ((vs.drop (j + 1)).flatMap vaB ++ b))) (.bool false) → Kp (fun x => x = rb) wr W → W.there w.heap.size (j * 3) 3 ∧ Hid (Blk (W.setCells w.heap.size (j * 3) (vc (vk, vn, vt))) w.heap.size 52 (N * 3) ∧ (W.setCells w.heap.size (j * 3) (vc (vk, vn, vt))).cell? ⟨w.heap.size, N * 3, none⟩ = none ∧ (W.setCells w.heap.size (j * 3) (vc (vk, vn, vt))).rangeAt w.heap.size 0 (vcs (vs.take (j + 1))) ∧ Box2 (W.setCells w.heap.size (j * 3) (vc (vk, vn, vt))) rb (.string (str ((vs.drop (j + 1)).flatMap vaB ++ b))) (.bool false) ∧ Kp (fun x => x = rb) w (W.setCells w.heap.size (j * 3) (vc (vk, vn, vt))))) := fun W hb hk => by
      obtain ⟨h1, h2, h3, h4, h5⟩ := hI.out
      have hBl := h1.lt
      have hsame : W.heap[w.heap.size]? = wr.heap[w.heap.size]? := hk.block _ hBl (by omega)
      have h1W := h1.same hsame
      have hth := h1W.there (j * 3) 3 (by omega)
      refine ⟨hth, Blk.setCells w.heap.size _ _ h1W, ?_, ?_, hb.same (sets_heap (by omega) _ _ _), Kp.setCells (F := fun x => x = rb) (.inr (Nat.le_refl _)) _ _ (h5.trans hk (fun _ _ q => q))⟩
      · rw [World.cell?_setCells_out _ _ _ _ _ (fun _ _ => by show N * 3 < j * 3 ∨ j * 3 + 3 ≤ N * 3; omega)]
        exact (World.cell?_of_block (w := wr) (a := ⟨w.heap.size, N * 3, none⟩) hsame).trans h2
      · rw [HTK.out.1]
        intro q v hq
        rw [Nat.zero_add]
        by_cases hq3 : q < j * 3
        · rw [List.getElem?_append_left (by rw [HTK.out.2]; exact hq3)] at hq
          rw [World.cell?_setCells_out _ _ _ _ _ (fun _ _ => by show q < j * 3 ∨ j * 3 + 3 ≤ q; omega)]
          have r := h3 q v hq
          rw [Nat.zero_add] at r
          exact (World.cell?_of_block (w := wr) (a := ⟨w.heap.size, q, none⟩) hsame).trans r
        · rw [List.getElem?_append_right (by rw [HTK.out.2]; omega), HTK.out.2] at hq
          have r := World.rangeAt_setCells_same W w.heap.size (j * 3) (vc (vk, vn, vt)) hth (q - j * 3) v hq
          rw [show j * 3 + (q - j * 3) = q by omega] at r
          exact r
    clear hI hll hk1 hk2 hk3 HTK
    have j0 : (0 : Int) ≤ (j : Int) := by omega
    have j1 : (j : Int) < (N : Int) := by omega
    have H1 : Hid ((#[.int .i64 vk, .int .i64 vn, .string vt] : Array Value).all (·.oneCell') = true) := one3 _ _ _
    go_wp2_with (first
      | (go_at_call 121; refine (HVAL.out wr (Below.refl _ _)).mono ?_; rintro e w3 ⟨v, rfl, rfl, hq3⟩; obtain ⟨hth, HNX⟩ := HST.out w3 hq3.out.1 hq3.out.2; have HTH : Hid (w3.there w.heap.size (j * 3) (#[.int .i64 vk, .int .i64 vn, .string vt] : Array Value).size) := hth; clear hth HVAL HST hq3)
      | (refine wpList_store_mid (by rfl) 52 (.tmp 18) (.tmp 17) (by rfl) w.heap.size (j * 3) #[.int .i64 vk, .int .i64 vn, .string vt] (by rfl) (by rfl) HTH.out size37 H1.out ?_)
      | go_in)
    exact ⟨⟨j + 1, by omega, by go_num, HNX⟩, by simp [intOf]; omega⟩
end Go.Proofs.YtahdkffijlfmnaaGreatDoor.Hp
