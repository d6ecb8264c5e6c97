import Derived.BigQuiet
import Derived.Lib.QuietBelow
import Derived.Test.YtahdkffijlfmnaaGreatDoorT11
import Derived.Test.YtahdkffijlfmnaaGreatDoorT10
import Derived.Test.YtahdkffijlfmnaaGreatDoorT09
namespace Go.Proofs.YtahdkffijlfmnaaGreatDoor.Hp
open Go.RowKit
set_option maxRecDepth 100000 in
set_option maxHeartbeats 1000000 in
theorem at_any (k n : Int) (s : ByteArray) (k' n' : Int) (s' : ByteArray) (w : World) (hs : s.size ≤ 9223372036854775807) (hs' : s'.size ≤ 9223372036854775807) :
    Calls Tryz.prog 116 #[.agg #[.int .i64 k, .int .i64 n, .string s], .agg #[.int .i64 k', .int .i64 n', .string s']] w fun e w' => e = .returned (.tuple #[.agg #[.int .i64 (atS k n s k' n' s').1, .int .i64 (atS k n s k' n' s').2.1, .string (atS k n s k' n' s').2.2.1], .int .i64 (atS k n s k' n' s').2.2.2]) ∧ Below w.heap.size w w' := by
  have i0 := Inv.new w k n s k' n' s'
  have ca := fun W : World => is_any k n s 3 W hs
  have cb := fun W : World => is_any k' n' s' 1 W hs'
  have ea : isS k n s 3 = true ↔ (k = 3 ∧ okV k n s = true) := by unfold isS; simp
  have eb : isS k' n' s' 1 = true ↔ (k' = 1 ∧ okV k' n' s' = true) := by unfold isS; simp
  cases hi : isS k n s 3 with
  | false =>
    rw [hi] at ca
    rw [show atS k n s k' n' s' = stuckS by unfold atS; rw [if_neg (fun h => by have := ea.2 ⟨h.1, h.2.1⟩; rw [hi] at this; cases this)]]
    clear ea eb cb
    go_enter Tryz.func116, Tryz.ntmps116
    go_wp2_with fail
    refine (ca _).mono ?_
    rintro e w1 ⟨rfl, hb⟩
    have i1 := i0.next hb
    obtain ⟨⟨⟨a0, g0⟩, ⟨a1, g1⟩⟩, a2, g2⟩ := id i1.a
    obtain ⟨⟨⟨c0, k0⟩, ⟨c1, k1⟩⟩, c2, k2⟩ := id i1.b
    obtain ⟨⟨⟨q0, f0⟩, ⟨q1, f1⟩⟩, q2, f2⟩ := id i1.r
    have B2 : Below w.heap.size w (put3 w1 (w.heap.size + 1 + 1) (0) (0) (e0)) := below_put3 i1.below (by omega) _ _ _
    have m2 := i1.r.put (0) (0) (e0)
    go_wp2
    change bodyPost Tryz.prog _ _ _ _ (put3 w1 (w.heap.size + 1 + 1) _ _ _)
    generalize put3 w1 (w.heap.size + 1 + 1) (0) (0) (e0) = X at B2 m2 ⊢
    obtain ⟨⟨⟨p0, -⟩, ⟨p1, -⟩⟩, p2, -⟩ := m2
    exact bodyPost_ret (v := .tuple #[.agg #[.int .i64 (0), .int .i64 (0), .string (e0)], .int .i64 (7)]) (by simp [results, Tryz.results116, go_sem, p0, p1, p2]) rfl ⟨rfl, B2⟩
  | true =>
  rw [hi] at ca
  have ha := ea.1 hi
  clear ea hi
  cases hj : isS k' n' s' 1 with
  | false =>
    rw [hj] at cb
    rw [show atS k n s k' n' s' = stuckS by unfold atS; rw [if_neg (fun h => by have := eb.2 ⟨h.2.2.1, h.2.2.2⟩; rw [hj] at this; cases this)]]
    clear eb ha
    go_enter Tryz.func116, Tryz.ntmps116
    go_wp2_with fail
    refine (ca _).mono ?_
    rintro e w1 ⟨rfl, hb⟩
    have i1 := i0.next hb
    obtain ⟨⟨⟨a0, g0⟩, ⟨a1, g1⟩⟩, a2, g2⟩ := id i1.a
    obtain ⟨⟨⟨c0, k0⟩, ⟨c1, k1⟩⟩, c2, k2⟩ := id i1.b
    obtain ⟨⟨⟨q0, f0⟩, ⟨q1, f1⟩⟩, q2, f2⟩ := id i1.r
    go_wp2_with fail
    refine (cb _).mono ?_
    rintro e w2 ⟨rfl, hb2⟩
    have i2 := i1.next hb2
    clear a0 a1 a2 g0 g1 g2 c0 c1 c2 k0 k1 k2 q0 q1 q2 f0 f1 f2
    obtain ⟨⟨⟨a0, g0⟩, ⟨a1, g1⟩⟩, a2, g2⟩ := id i2.a
    obtain ⟨⟨⟨c0, k0⟩, ⟨c1, k1⟩⟩, c2, k2⟩ := id i2.b
    obtain ⟨⟨⟨q0, f0⟩, ⟨q1, f1⟩⟩, q2, f2⟩ := id i2.r
    have B2 : Below w.heap.size w (put3 w2 (w.heap.size + 1 + 1) (0) (0) (e0)) := below_put3 i2.below (by omega) _ _ _
    have m2 := i2.r.put (0) (0) (e0)
    go_wp2
    change bodyPost Tryz.prog _ _ _ _ (put3 w2 (w.heap.size + 1 + 1) _ _ _)
    generalize put3 w2 (w.heap.size + 1 + 1) (0) (0) (e0) = X at B2 m2 ⊢
    obtain ⟨⟨⟨p0, -⟩, ⟨p1, -⟩⟩, p2, -⟩ := m2
    exact bodyPost_ret (v := .tuple #[.agg #[.int .i64 (0), .int .i64 (0), .string (e0)], .int .i64 (7)]) (by simp [results, Tryz.results116, go_sem, p0, p1, p2]) rfl ⟨rfl, B2⟩
  | true =>
  rw [hj] at cb
  have hb0 := eb.1 hj
  clear eb hj
  have hz : s.size ≤ 256 := by
    obtain ⟨rfl, hv⟩ := ha
    rw [show okV 3 n s = (n == 0 && decide (s.size ≤ 256)) from rfl] at hv; simp at hv; exact hv.2
  by_cases l0 : n' < 0
  · rw [show atS k n s k' n' s' = (0, 0, e0, 2) by unfold atS; rw [if_pos ⟨ha.1, ha.2, hb0.1, hb0.2⟩, if_pos (Or.inl l0)]]
    clear ha hb0
    go_enter Tryz.func116, Tryz.ntmps116
    go_wp2_with fail
    refine (ca _).mono ?_
    rintro e w1 ⟨rfl, hb⟩
    have i1 := i0.next hb
    obtain ⟨⟨⟨a0, g0⟩, ⟨a1, g1⟩⟩, a2, g2⟩ := id i1.a
    obtain ⟨⟨⟨c0, k0⟩, ⟨c1, k1⟩⟩, c2, k2⟩ := id i1.b
    obtain ⟨⟨⟨q0, f0⟩, ⟨q1, f1⟩⟩, q2, f2⟩ := id i1.r
    go_wp2_with fail
    refine (cb _).mono ?_
    rintro e w2 ⟨rfl, hb2⟩
    have i2 := i1.next hb2
    clear a0 a1 a2 g0 g1 g2 c0 c1 c2 k0 k1 k2 q0 q1 q2 f0 f1 f2
    obtain ⟨⟨⟨a0, g0⟩, ⟨a1, g1⟩⟩, a2, g2⟩ := id i2.a
    obtain ⟨⟨⟨c0, k0⟩, ⟨c1, k1⟩⟩, c2, k2⟩ := id i2.b
    obtain ⟨⟨⟨q0, f0⟩, ⟨q1, f1⟩⟩, q2, f2⟩ := id i2.r
    have B2 : Below w.heap.size w (put3 w2 (w.heap.size + 1 + 1) (0) (0) (e0)) := below_put3 i2.below (by omega) _ _ _
    have m2 := i2.r.put (0) (0) (e0)
    go_wp2
    change bodyPost Tryz.prog _ _ _ _ (put3 w2 (w.heap.size + 1 + 1) _ _ _)
    generalize put3 w2 (w.heap.size + 1 + 1) (0) (0) (e0) = X at B2 m2 ⊢
    obtain ⟨⟨⟨p0, -⟩, ⟨p1, -⟩⟩, p2, -⟩ := m2
    exact bodyPost_ret (v := .tuple #[.agg #[.int .i64 (0), .int .i64 (0), .string (e0)], .int .i64 (2)]) (by simp [results, Tryz.results116, go_sem, p0, p1, p2]) rfl ⟨rfl, B2⟩
  by_cases l1 : (s.size : Int) ≤ n'
  · rw [show atS k n s k' n' s' = (0, 0, e0, 2) by unfold atS; rw [if_pos ⟨ha.1, ha.2, hb0.1, hb0.2⟩, if_pos (Or.inr l1)]]
    clear ha hb0
    go_enter Tryz.func116, Tryz.ntmps116
    go_wp2_with fail
    refine (ca _).mono ?_
    rintro e w1 ⟨rfl, hb⟩
    have i1 := i0.next hb
    obtain ⟨⟨⟨a0, g0⟩, ⟨a1, g1⟩⟩, a2, g2⟩ := id i1.a
    obtain ⟨⟨⟨c0, k0⟩, ⟨c1, k1⟩⟩, c2, k2⟩ := id i1.b
    obtain ⟨⟨⟨q0, f0⟩, ⟨q1, f1⟩⟩, q2, f2⟩ := id i1.r
    go_wp2_with fail
    refine (cb _).mono ?_
    rintro e w2 ⟨rfl, hb2⟩
    have i2 := i1.next hb2
    clear a0 a1 a2 g0 g1 g2 c0 c1 c2 k0 k1 k2 q0 q1 q2 f0 f1 f2
    obtain ⟨⟨⟨a0, g0⟩, ⟨a1, g1⟩⟩, a2, g2⟩ := id i2.a
    obtain ⟨⟨⟨c0, k0⟩, ⟨c1, k1⟩⟩, c2, k2⟩ := id i2.b
    obtain ⟨⟨⟨q0, f0⟩, ⟨q1, f1⟩⟩, q2, f2⟩ := id i2.r
    have B2 : Below w.heap.size w (put3 w2 (w.heap.size + 1 + 1) (0) (0) (e0)) := below_put3 i2.below (by omega) _ _ _
    have m2 := i2.r.put (0) (0) (e0)
    go_wp2
    change bodyPost Tryz.prog _ _ _ _ (put3 w2 (w.heap.size + 1 + 1) _ _ _)
    generalize put3 w2 (w.heap.size + 1 + 1) (0) (0) (e0) = X at B2 m2 ⊢
    obtain ⟨⟨⟨p0, -⟩, ⟨p1, -⟩⟩, p2, -⟩ := m2
    exact bodyPost_ret (v := .tuple #[.agg #[.int .i64 (0), .int .i64 (0), .string (e0)], .int .i64 (2)]) (by simp [results, Tryz.results116, go_sem, p0, p1, p2]) rfl ⟨rfl, B2⟩
  rw [show atS k n s k' n' s' = (1, ((s.data.toList.getD n'.toNat 0).toNat : Int), e0, 0) by unfold atS; rw [if_pos ⟨ha.1, ha.2, hb0.1, hb0.2⟩, if_neg (by omega)]; rfl]
  clear ha hb0
  obtain ⟨j, rfl⟩ := Int.eq_ofNat_of_zero_le (show 0 ≤ n' from by omega)
  have hj : j < s.size := by omega
  have hget : s.data.toList.getD (Int.toNat j) 0 = s[j] := by
    rw [Int.toNat_natCast, List.getD_eq_getElem?_getD, List.getElem?_eq_getElem (by rw [Array.length_toList]; exact hj)]
    rfl
  rw [hget, ← wrap_in (x := ((s[j]).toNat : Int)) (by have := (s[j]).toNat_lt; omega)]
  clear hget
  go_enter Tryz.func116, Tryz.ntmps116
  go_wp2_with fail
  refine (ca _).mono ?_
  rintro e w1 ⟨rfl, hb⟩
  have i1 := i0.next hb
  obtain ⟨⟨⟨a0, g0⟩, ⟨a1, g1⟩⟩, a2, g2⟩ := id i1.a
  obtain ⟨⟨⟨c0, k0⟩, ⟨c1, k1⟩⟩, c2, k2⟩ := id i1.b
  obtain ⟨⟨⟨q0, f0⟩, ⟨q1, f1⟩⟩, q2, f2⟩ := id i1.r
  go_wp2_with fail
  refine (cb _).mono ?_
  rintro e w2 ⟨rfl, hb2⟩
  have i2 := i1.next hb2
  clear a0 a1 a2 g0 g1 g2 c0 c1 c2 k0 k1 k2 q0 q1 q2 f0 f1 f2
  obtain ⟨⟨⟨a0, g0⟩, ⟨a1, g1⟩⟩, a2, g2⟩ := id i2.a
  obtain ⟨⟨⟨c0, k0⟩, ⟨c1, k1⟩⟩, c2, k2⟩ := id i2.b
  obtain ⟨⟨⟨q0, f0⟩, ⟨q1, f1⟩⟩, q2, f2⟩ := id i2.r
  go_wp2_with fail
  refine (number_any _ _).mono ?_
  rintro e w3 ⟨rfl, hb3⟩
  have i3 := i2.next hb3
  clear a0 a1 a2 g0 g1 g2 c0 c1 c2 k0 k1 k2 q0 q1 q2 f0 f1 f2
  obtain ⟨⟨⟨a0, g0⟩, ⟨a1, g1⟩⟩, a2, g2⟩ := id i3.a
  obtain ⟨⟨⟨c0, k0⟩, ⟨c1, k1⟩⟩, c2, k2⟩ := id i3.b
  obtain ⟨⟨⟨q0, f0⟩, ⟨q1, f1⟩⟩, q2, f2⟩ := id i3.r
  have B2 : Below w.heap.size w (put3 w3 (w.heap.size + 1 + 1) (1) (wrap64 ((s[j]).toNat : Int)) (e0)) := below_put3 i3.below (by omega) _ _ _
  have m2 := i3.r.put (1) (wrap64 ((s[j]).toNat : Int)) (e0)
  go_wp2
  change bodyPost Tryz.prog _ _ _ _ (put3 w3 (w.heap.size + 1 + 1) _ _ _)
  generalize put3 w3 (w.heap.size + 1 + 1) (1) (wrap64 ((s[j]).toNat : Int)) (e0) = X at B2 m2 ⊢
  obtain ⟨⟨⟨p0, -⟩, ⟨p1, -⟩⟩, p2, -⟩ := m2
  exact bodyPost_ret (v := .tuple #[.agg #[.int .i64 (1), .int .i64 (wrap64 ((s[j]).toNat : Int)), .string (e0)], .int .i64 (0)]) (by simp [results, Tryz.results116, go_sem, p0, p1, p2]) rfl ⟨rfl, B2⟩
end Go.Proofs.YtahdkffijlfmnaaGreatDoor.Hp

namespace Go.Proofs.YtahdkffijlfmnaaGreatDoor.Hp
open Go.RowKit
def str (l : List UInt8) : ByteArray := ⟨l.toArray⟩
theorem rstr_size (l : List UInt8) : (str l).size = l.length := by simp [str, ByteArray.size]
theorem str_data (l : List UInt8) : (str l).data.toList = l := by simp [str]
theorem str_head (a b : List UInt8) : (str (a ++ b)).extract 0 a.length = str a := by
  apply ByteArray.ext
  simp [str, ByteArray.data_extract]
theorem str_tail (a b : List UInt8) : (str (a ++ b)).extract a.length (str (a ++ b)).size = str b := by
  apply ByteArray.ext
  rw [rstr_size]
  simp [str, ByteArray.data_extract]
set_option maxRecDepth 100000 in
set_option maxHeartbeats 1000000 in
theorem bytes_any (w : World) (rb : Nat) (a b : List UInt8) (hl : (a ++ b).length ≤ 9223372036854775807) (h : Box2 w rb (.string (str (a ++ b))) (.bool false)) :
    Calls Tryz.prog 122 #[.pointer (some ⟨rb, 0, none⟩), .int .i64 (a.length : Int)] w fun e w' => e = .returned (.string (str a)) ∧ w' = w.setCell ⟨rb, 0, none⟩ (.string (str b)) := by
  obtain ⟨⟨h0, f0⟩, h1, f1⟩ := h
  have hs := rstr_size (a ++ b)
  have e1 := str_head a b
  have e2 := str_tail a b
  have hal : (a.length : Int) ≤ ((str (a ++ b)).size : Int) := by rw [hs, List.length_append]; omega
  have hz : ((str (a ++ b)).size : Int) ≤ 9223372036854775807 := by rw [hs]; omega
  clear hs
  generalize str (a ++ b) = s at *
  have a0 : (0 : Int) ≤ (a.length : Int) := by omega
  go_enter Tryz.func122, Tryz.ntmps122
  go_wp2
  go_ret
  exact ⟨rfl, rfl⟩
theorem or_low (X b : Nat) (h : X % 256 = 0) (hb : b < 256) : X ||| b = X + b := by
  have e : X = (X / 256) <<< 8 := by rw [Nat.shiftLeft_eq]; omega
  rw [e, ← Nat.shiftLeft_add_eq_or_of_lt (i := 8) hb]
theorem bits_or (n : Int) (b : Nat) (hb : b < 256) : bits BinOp.or IntKind.i64 (wrap64 (n * 256)) (b : Int) = wrap64 (n * 256) + (b : Int) := by
  unfold bits
  simp only [BitVec.toNat_or, BitVec.toNat_ofInt]
  have h1 : (((b : Int) % ((2 ^ IntKind.i64.bits : Nat) : Int))).toNat = b := by
    show ((b : Int) % 18446744073709551616).toNat = b
    omega
  rw [h1]
  have h2 : ((wrap64 (n * 256) % ((2 ^ IntKind.i64.bits : Nat) : Int))).toNat = (wrap64 (n * 256) % 18446744073709551616).toNat := rfl
  rw [h2, or_low _ _ (by unfold wrap64; omega) hb, IntKind.wrap_i64]
  unfold wrap64
  omega
def numV (l : List UInt8) : Int := l.foldl (fun n b => wrap64 (n * 256) + (b.toNat : Int)) 0
theorem numV_snoc (l : List UInt8) (b : UInt8) : numV (l ++ [b]) = wrap64 (numV l * 256) + (b.toNat : Int) := by
  unfold numV
  rw [List.foldl_append]
  rfl
set_option maxRecDepth 100000 in
set_option maxHeartbeats 2000000 in
theorem rnumber_any (w : World) (rb : Nat) (a b : List UInt8) (hl : (a ++ b).length ≤ 9223372036854775807) (h : Box2 w rb (.string (str (a ++ b))) (.bool false)) :
    Calls Tryz.prog 100 #[.pointer (some ⟨rb, 0, none⟩), .int .i64 (a.length : Int)] w fun e w' => e = .returned (.int .i64 (numV a)) ∧ Hid (Box2 w' rb (.string (str b)) (.bool false) ∧ Kp (fun x => x = rb) w w') := by
  have hby := bytes_any w rb a b hl h
  have hrl : rb < w.heap.size := block_lt_of_cell h.1.1
  have h2 : Box2 (w.setCell ⟨rb, 0, none⟩ (.string (str b))) rb (.string (str b)) (.bool false) := by
    refine ⟨⟨World.cell?_setCell_same' _ _ _ (by rw [h.1.1]; rfl), by rw [World.frozen?_setCell]; exact h.1.2⟩, ?_, by rw [World.frozen?_setCell]; exact h.2.2⟩
    rw [World.cell?_setCell_other _ _ _ _ (by simp)]
    exact h.2.1
  have k2 : Kp (fun x => x = rb) w (w.setCell ⟨rb, 0, none⟩ (.string (str b))) := (Kp.refl (fun x => x = rb) w).setCell (p := ⟨rb, 0, none⟩) (.inl rfl) _
  have hr2 : rb < (w.setCell ⟨rb, 0, none⟩ (.string (str b))).heap.size := by rw [set_size]; exact hrl
  generalize w.setCell ⟨rb, 0, none⟩ (.string (str b)) = W at hby h2 k2 hr2
  have hcv := Lib.run_convert_string_bytes (P := Tryz.prog) W 9 80 5 (str a) Tryz.underlying9 Tryz.underlying80 Tryz.underlying5
  rw [rstr_size] at hcv
  have HB : Hid (Below W.heap.size W (Lib.bytesWorld W 5 (str a))) := ⟨rfl, rfl, rfl, by rw [Lib.bytesWorld_size]; omega, fun k hk => Lib.bytesWorld_at_old W 5 (str a) k hk⟩
  have HC : Hid (∀ j, j < a.length → (Lib.bytesWorld W 5 (str a)).cell? ⟨W.heap.size, j, none⟩ = some (.int .u8 ((a.getD j 0).toNat : Int))) := fun j hj => by
    have := Lib.bytesWorld_cell W 5 (str a) j (by rw [rstr_size]; exact hj)
    rwa [str_data] at this
  generalize Lib.bytesWorld W 5 (str a) = W2 at hcv HB HC
  generalize grownCap W a.length 0 5 = cp at hcv
  have hal : (a.length : Int) ≤ 9223372036854775807 := by rw [List.length_append] at hl; omega
  clear h
  go_enter Tryz.func100, Tryz.ntmps100
  go_wp2_with (first | (go_at_call 122; refine hby.mono ?_; rintro e w1 ⟨rfl, rfl⟩) | fail)
  go_loopw [5, 13] (fun n v wr => ∃ j : Nat, j ≤ a.length ∧ v = .int .i64 (j : Int) ∧ n = .int .i64 (numV (a.take j)) ∧ wr = W2) (fun _ v _ => a.length - (intOf v).toNat)
  case atStart => exact ⟨0, Nat.zero_le _, rfl, rfl, rfl⟩
  case round =>
    obtain ⟨j, hj, rfl, rfl, rfl⟩ := hrel
    by_cases hlt : j < a.length
    case neg =>
      obtain rfl : j = a.length := by omega
      rw [List.take_length]
      go_wp2
      first | (change bodyPost Tryz.prog Tryz.f100 _ Exit.ret _ _) | (simp only [Exit.noGoto])
      go_ret
      exact ⟨rfl, h2.below HB.out hr2, k2.next HB.out⟩
    have c := HC.out j hlt
    have j0 : (0 : Int) ≤ (j : Int) := by omega
    have j1 : (j : Int) < (a.length : Int) := by omega
    have hs : numV (a.take (j + 1)) = wrap64 (numV (a.take j) * 256) + ((a.getD j 0).toNat : Int) := by
      rw [List.take_succ_eq_append_getElem hlt, numV_snoc, List.getD_eq_getElem?_getD, List.getElem?_eq_getElem hlt]
      rfl
    have HS : Hid (numV (a.take (j + 1)) = wrap64 (numV (a.take j) * 256) + ((a.getD j 0).toNat : Int)) := hs
    have hbb := UInt8.toNat_lt (a.getD j 0)
    clear hs
    generalize numV (a.take j) = nn at HS ⊢
    generalize (a.getD j 0).toNat = bb at HS hbb c
    go_wp2
    exact ⟨⟨j + 1, by omega, by go_num, by rw [bits_or nn bb hbb, HS.out], trivial⟩, by simp [intOf]; omega⟩
theorem numB_snoc (n : Int) : ∀ k, numB n (k + 1) = numB (n / 256) k ++ [byteOf n]
  | 0 => by simp [numB]
  | k + 1 => by
    rw [numB, numB_snoc n k, numB, List.cons_append]
    congr 2
    rw [show 8 * (k + 1) = 8 + 8 * k by omega, Int.pow_add, Int.ediv_ediv, if_neg (by rintro ⟨h, _⟩; omega), Int.sub_zero, show (2 : Int) ^ 8 = 256 by decide]
theorem nv1 (m : Int) : numV (numB m 1) = m % 256 := by
  rw [numB_snoc, numV_snoc, byteOf_nat]
  show wrap64 (0 * 256) + _ = _
  unfold wrap64
  omega
theorem nv2 (m : Int) : numV (numB m 2) = m % 65536 := by
  rw [numB_snoc, numV_snoc, byteOf_nat, nv1]
  unfold wrap64
  omega
theorem nv3 (m : Int) : numV (numB m 3) = m % 16777216 := by
  rw [numB_snoc, numV_snoc, byteOf_nat, nv2]
  unfold wrap64
  omega
theorem nv4 (m : Int) : numV (numB m 4) = m % 4294967296 := by
  rw [numB_snoc, numV_snoc, byteOf_nat, nv3]
  unfold wrap64
  omega
theorem nv5 (m : Int) : numV (numB m 5) = m % 1099511627776 := by
  rw [numB_snoc, numV_snoc, byteOf_nat, nv4]
  unfold wrap64
  omega
theorem nv6 (m : Int) : numV (numB m 6) = m % 281474976710656 := by
  rw [numB_snoc, numV_snoc, byteOf_nat, nv5]
  unfold wrap64
  omega
theorem nv7 (m : Int) : numV (numB m 7) = m % 72057594037927936 := by
  rw [numB_snoc, numV_snoc, byteOf_nat, nv6]
  unfold wrap64
  omega
theorem num8 (n : Int) (h0 : -9223372036854775808 ≤ n) (h1 : n ≤ 9223372036854775807) : numV (numB n 8) = n := by
  rw [numB_snoc, numV_snoc, byteOf_nat, nv7]
  unfold wrap64
  omega
end Go.Proofs.YtahdkffijlfmnaaGreatDoor.Hp

namespace Go.Proofs.YtahdkffijlfmnaaGreatDoor.Hp
open Go.RowKit
theorem may_parts {v : V} {kind : Int} {c : Nat} (h : mayS v kind c = true) : v.1 = kind ∧ okV v.1 v.2.1 v.2.2 = true := by
  unfold mayS at h
  simp only [Bool.and_eq_true, beq_iff_eq] at h
  exact h.1
theorem ok_parts {k n : Int} {s : ByteArray} (h : okV k n s = true) : (k = 2 → (n = 0 ∨ n = 1) ∧ s = e0) ∧ (k = 3 → n = 0 ∧ s.size ≤ 256) ∧ (k = 1 ∨ k = 4 → s = e0) := by
  unfold okV at h
  refine ⟨fun e => ?_, fun e => ?_, fun e => ?_⟩
  · subst e
    simp at h
    exact ⟨h.1, eq_e0 h.2⟩
  · subst e
    simp at h
    exact h
  · rcases e with rfl | rfl
    · simp at h
      exact eq_e0 h
    · simp at h
      exact eq_e0 h.2
set_option maxRecDepth 100000 in
set_option maxHeartbeats 4000000 in
theorem element_any (w : World) (rb : Nat) (k n : Int) (s : ByteArray) (b : List UInt8) (c : Nat) (hk : 1 ≤ k ∧ k ≤ 4) (hm : mayS (k, n, s) k c = true) (hn : -9223372036854775808 ≤ n ∧ n ≤ 9223372036854775807) (hl : (elB (k, n, s) ++ b).length ≤ 9223372036854775807) (h : Box2 w rb (.string (str (elB (k, n, s) ++ b))) (.bool false)) :
    Calls Tryz.prog 123 #[.pointer (some ⟨rb, 0, none⟩), .int .i64 k] w fun e w' => e = .returned (.agg #[.int .i64 k, .int .i64 n, .string s]) ∧ Hid (Box2 w' rb (.string (str b)) (.bool false) ∧ Kp (fun x => x = rb) w w') := by
  have hrl : rb < w.heap.size := block_lt_of_cell h.1.1
  obtain ⟨o2, o3, o1⟩ := ok_parts (k := k) (n := n) (s := s) (may_parts hm).2
  have B0 : Below w.heap.size w ((w.alloc (.cells #[.int .i64 0, .int .i64 0, .string e0] 52)).alloc (.cells #[.int .i64 k, .int .i64 0, .string e0] 52)) := ((Below.refl _ w).alloc (Nat.le_refl _) _).alloc (by simp) _
  have b4 := (Box3.new w 0 0 e0 52).alloc (.cells #[.int .i64 k, .int .i64 0, .string e0] 52)
  have b5 := Box3.new (w.alloc (.cells #[.int .i64 0, .int .i64 0, .string e0] 52)) k 0 e0 52
  rw [World.size_alloc] at b5
  have z0 : w.heap.size + 1 < ((w.alloc (.cells #[.int .i64 0, .int .i64 0, .string e0] 52)).alloc (.cells #[.int .i64 k, .int .i64 0, .string e0] 52)).heap.size := by simp
  -- what is left when the value has been read
  have FIN : ∀ (W : World), Kp (fun x => x = rb) w W → Box2 W rb (.string (str b)) (.bool false) → Box3 W w.heap.size 0 0 e0 → Box3 (put3 W w.heap.size k n s) w.heap.size k n s ∧ Hid (Box2 (put3 W w.heap.size k n s) rb (.string (str b)) (.bool false) ∧ Kp (fun x => x = rb) w (put3 W w.heap.size k n s)) := fun W hk hb h4 =>
    ⟨h4.put k n s, hb.same (put3_heap (by omega)), kp_put3 hk (.inr (Nat.le_refl _)) _ _ _⟩
  have HFIN : Hid _ := FIN
  clear FIN
  by_cases h2 : k = 2
  · obtain ⟨n01, rfl⟩ := o2 h2
    have he : elB (k, n, e0) = numB n 1 := by unfold elB; rw [if_pos h2]; simp [numB]
    rw [he] at h hl
    have hv : numV (numB n 1) = n := by rw [nv1]; omega
    subst h2
    clear o3 o1 he
    go_enter Tryz.func123, Tryz.ntmps123
    go_wp2_with fail
    generalize (w.alloc (.cells #[.int .i64 0, .int .i64 0, .string e0] 52)).alloc (.cells #[.int .i64 2, .int .i64 0, .string e0] 52) = X at B0 b4 b5 z0 ⊢
    have hnum := rnumber_any X rb (numB n 1) b hl (h.below B0 hrl)
    rw [numB_len, hv] at hnum
    refine hnum.mono ?_
    rintro e w1 ⟨rfl, hq⟩
    obtain ⟨q1, q2⟩ := hq.out
    have c4 := b4.same (q2.block _ (by omega) (by omega))
    have c5 := b5.same (q2.block _ z0 (by omega))
    have KP : Kp (fun x => x = rb) w w1 := (Kp.of B0).trans q2 (fun _ _ q => q)
    clear hnum b4 b5 hq
    obtain ⟨⟨⟨x0, f0⟩, ⟨x1, f1⟩⟩, x2, f2⟩ := id c4
    obtain ⟨⟨⟨y0, g0⟩, ⟨y1, g1⟩⟩, y2, g2⟩ := id c5
    have c4' := c4.set ⟨w.heap.size + 1, 1, none⟩ (.int .i64 n) (by show w.heap.size + 1 ≠ w.heap.size; omega)
    have k4' := KP.setCell (p := ⟨w.heap.size + 1, 1, none⟩) (.inr (Nat.le_succ _)) (.int .i64 n)
    have r4' : Box2 (w1.setCell ⟨w.heap.size + 1, 1, none⟩ (.int .i64 n)) rb (.string (str b)) (.bool false) := q1.same (set_heap (a := ⟨w.heap.size + 1, 1, none⟩) (by show rb ≠ w.heap.size + 1; omega))
    go_wp2
    change bodyPost Tryz.prog _ _ _ _ (put3 (w1.setCell ⟨w.heap.size + 1, 1, none⟩ (.int .i64 n)) w.heap.size _ _ _)
    obtain ⟨p, r⟩ := HFIN.out _ k4' r4' c4'
    obtain ⟨⟨⟨p0, -⟩, ⟨p1, -⟩⟩, p2, -⟩ := p
    exact bodyPost_ret (v := .agg #[.int .i64 2, .int .i64 n, .string e0]) (by simp [results, Tryz.results123, go_sem, p0, p1, p2]) rfl ⟨rfl, r⟩
  have h2' : (k == 2) = false := by simpa using h2
  by_cases h3 : k = 3
  · obtain ⟨rfl, hs⟩ := o3 h3
    have he : elB (k, 0, s) = numB (s.size : Int) 2 ++ s.data.toList := by unfold elB; rw [if_neg h2, if_pos h3]
    rw [he, List.append_assoc] at h hl
    have hv : numV (numB (s.size : Int) 2) = (s.size : Int) := by rw [nv2]; omega
    have hst : str s.data.toList = s := by simp [str]
    have hsl : (s.size : Int) = ((s.data.toList.length : Nat) : Int) := by rw [← Lib.size_eq]
    subst h3
    clear o2 o1 he h2
    go_enter Tryz.func123, Tryz.ntmps123
    go_wp2_with fail
    generalize (w.alloc (.cells #[.int .i64 0, .int .i64 0, .string e0] 52)).alloc (.cells #[.int .i64 3, .int .i64 0, .string e0] 52) = X at B0 b4 b5 z0 ⊢
    have hnum := rnumber_any X rb (numB (s.size : Int) 2) (s.data.toList ++ b) hl (h.below B0 hrl)
    rw [numB_len, hv] at hnum
    refine hnum.mono ?_
    rintro e w1 ⟨rfl, hq⟩
    obtain ⟨q1, q2⟩ := hq.out
    have hby := bytes_any w1 rb s.data.toList b (by rw [List.length_append] at hl; omega) q1
    rw [← hsl, hst] at hby
    have r1 : Box2 (w1.setCell ⟨rb, 0, none⟩ (.string (str b))) rb (.string (str b)) (.bool false) := by
      refine ⟨⟨World.cell?_setCell_same' _ _ _ (by rw [q1.1.1]; rfl), by rw [World.frozen?_setCell]; exact q1.1.2⟩, ?_, by rw [World.frozen?_setCell]; exact q1.2.2⟩
      rw [World.cell?_setCell_other _ _ _ _ (by simp)]
      exact q1.2.1
    have k1 : Kp (fun x => x = rb) w (w1.setCell ⟨rb, 0, none⟩ (.string (str b))) := ((Kp.of B0).trans q2 (fun _ _ q => q)).setCell (p := ⟨rb, 0, none⟩) (.inl rfl) _
    have e4 := b4.same ((set_heap (w := w1) (a := ⟨rb, 0, none⟩) (v := .string (str b)) (by show w.heap.size ≠ rb; omega)).trans (q2.block _ (by omega) (by omega)))
    have e5 := b5.same ((set_heap (w := w1) (a := ⟨rb, 0, none⟩) (v := .string (str b)) (by show w.heap.size + 1 ≠ rb; omega)).trans (q2.block _ z0 (by omega)))
    have z1 : w.heap.size + 1 < (w1.setCell ⟨rb, 0, none⟩ (.string (str b))).heap.size := by rw [set_size]; have := q2.size; omega
    have hr1 : rb < (w1.setCell ⟨rb, 0, none⟩ (.string (str b))).heap.size := block_lt_of_cell r1.1.1
    clear hnum b4 b5 hq hsl
    go_wp2_with fail
    refine hby.mono ?_
    rintro e w2 ⟨rfl, rfl⟩
    generalize w1.setCell ⟨rb, 0, none⟩ (.string (str b)) = W2 at r1 k1 e4 e5 z1 hr1 ⊢
    clear hby
    go_wp2_with fail
    refine (clone_any s W2 (by omega)).mono ?_
    rintro e w3 ⟨rfl, hb3⟩
    have c4 := e4.below hb3 (by omega)
    have c5 := e5.below hb3 z1
    have r3 := r1.below hb3 hr1
    have KP := k1.next hb3
    obtain ⟨⟨⟨x0, f0⟩, ⟨x1, f1⟩⟩, x2, f2⟩ := id c4
    obtain ⟨⟨⟨y0, g0⟩, ⟨y1, g1⟩⟩, y2, g2⟩ := id c5
    have c4' := c4.set ⟨w.heap.size + 1, 2, none⟩ (.string s) (by show w.heap.size + 1 ≠ w.heap.size; omega)
    have k4' := KP.setCell (p := ⟨w.heap.size + 1, 2, none⟩) (.inr (Nat.le_succ _)) (.string s)
    have r4' : Box2 (w3.setCell ⟨w.heap.size + 1, 2, none⟩ (.string s)) rb (.string (str b)) (.bool false) := r3.same (set_heap (a := ⟨w.heap.size + 1, 2, none⟩) (by show rb ≠ w.heap.size + 1; omega))
    go_wp2
    change bodyPost Tryz.prog _ _ _ _ (put3 (w3.setCell ⟨w.heap.size + 1, 2, none⟩ (.string s)) w.heap.size _ _ _)
    obtain ⟨p, r⟩ := HFIN.out _ k4' r4' c4'
    obtain ⟨⟨⟨p0, -⟩, ⟨p1, -⟩⟩, p2, -⟩ := p
    exact bodyPost_ret (v := .agg #[.int .i64 3, .int .i64 0, .string s]) (by simp [results, Tryz.results123, go_sem, p0, p1, p2]) rfl ⟨rfl, r⟩
  · have hs0 := o1 (by omega)
    subst hs0
    have he : elB (k, n, e0) = numB n 8 := by unfold elB; rw [if_neg h2, if_neg h3]
    rw [he] at h hl
    have hv : numV (numB n 8) = n := num8 n hn.1 hn.2
    have h3' : (k == 3) = false := by simpa using h3
    clear o2 o3 o1 he h2 h3
    go_enter Tryz.func123, Tryz.ntmps123
    go_wp2_with fail
    generalize (w.alloc (.cells #[.int .i64 0, .int .i64 0, .string e0] 52)).alloc (.cells #[.int .i64 k, .int .i64 0, .string e0] 52) = X at B0 b4 b5 z0 ⊢
    have hnum := rnumber_any X rb (numB n 8) b hl (h.below B0 hrl)
    rw [numB_len, hv] at hnum
    refine hnum.mono ?_
    rintro e w1 ⟨rfl, hq⟩
    obtain ⟨q1, q2⟩ := hq.out
    have c4 := b4.same (q2.block _ (by omega) (by omega))
    have c5 := b5.same (q2.block _ z0 (by omega))
    have KP : Kp (fun x => x = rb) w w1 := (Kp.of B0).trans q2 (fun _ _ q => q)
    clear hnum b4 b5 hq
    obtain ⟨⟨⟨x0, f0⟩, ⟨x1, f1⟩⟩, x2, f2⟩ := id c4
    obtain ⟨⟨⟨y0, g0⟩, ⟨y1, g1⟩⟩, y2, g2⟩ := id c5
    have c4' := c4.set ⟨w.heap.size + 1, 1, none⟩ (.int .i64 n) (by show w.heap.size + 1 ≠ w.heap.size; omega)
    have k4' := KP.setCell (p := ⟨w.heap.size + 1, 1, none⟩) (.inr (Nat.le_succ _)) (.int .i64 n)
    have r4' : Box2 (w1.setCell ⟨w.heap.size + 1, 1, none⟩ (.int .i64 n)) rb (.string (str b)) (.bool false) := q1.same (set_heap (a := ⟨w.heap.size + 1, 1, none⟩) (by show rb ≠ w.heap.size + 1; omega))
    go_wp2
    change bodyPost Tryz.prog _ _ _ _ (put3 (w1.setCell ⟨w.heap.size + 1, 1, none⟩ (.int .i64 n)) w.heap.size _ _ _)
    obtain ⟨p, r⟩ := HFIN.out _ k4' r4' c4'
    obtain ⟨⟨⟨p0, -⟩, ⟨p1, -⟩⟩, p2, -⟩ := p
    exact bodyPost_ret (v := .agg #[.int .i64 k, .int .i64 n, .string e0]) (by simp [results, Tryz.results123, go_sem, p0, p1, p2]) rfl ⟨rfl, r⟩
end Go.Proofs.YtahdkffijlfmnaaGreatDoor.Hp

namespace Go.Proofs.YtahdkffijlfmnaaGreatDoor.Hp
open Go.RowKit
def inR (n : Int) : Prop := -9223372036854775808 ≤ n ∧ n ≤ 9223372036854775807
structure Half (w : World) (p : Hpt) (lim : Nat) (A : Hp) (k : Int) (els : List V) (j c : Nat) (F : Nat → Prop) (q : Option Addr) (g o : Nat) : Prop where
  heap : ∃ As rq rn rg ro av, HeapG w p lim As rq rn rg ro av F (usedS (absA As), c) ∧ As.length = A.length + 1 ∧ absA As = A ++ [(k, els.take j ++ List.replicate (els.length - j) (k, 0, e0))] ∧ ∃ y, As[A.length]? = some y ∧ y.q = q ∧ y.g = g ∧ y.o = o
theorem Half.same {w w' : World} {p : Hpt} {lim : Nat} {A : Hp} {k : Int} {els : List V} {j c : Nat} {F : Nat → Prop} {q : Option Addr} {g o : Nat} (h : Half w p lim A k els j c F q g o) (hk : ∀ b, F b → w'.heap[b]? = w.heap[b]?) (hs : w.heap.size ≤ w'.heap.size) : Half w' p lim A k els j c F q g o := by
  obtain ⟨As, rq, rn, rg, ro, av, h1, h2⟩ := h.heap
  exact ⟨⟨As, rq, rn, rg, ro, av, h1.same hk hs, h2⟩⟩
theorem Half.flt {w : World} {p : Hpt} {lim : Nat} {A : Hp} {k : Int} {els : List V} {j c : Nat} {F : Nat → Prop} {q : Option Addr} {g o : Nat} (h : Half w p lim A k els j c F q g o) : ∀ b, F b → b < w.heap.size := by
  obtain ⟨As, rq, rn, rg, ro, av, h1, h2⟩ := h.heap
  exact h1.flt
theorem Half.next {w w' : World} {p : Hpt} {lim : Nat} {A : Hp} {k : Int} {els : List V} {j c : Nat} {F : Nat → Prop} {q : Option Addr} {g o : Nat} (h : Half w p lim A k els j c F q g o) (b : Below w.heap.size w w') : Half w' p lim A k els j c F q g o := h.same (fun x hx => b.block x (h.flt x hx)) b.size
theorem Half.kept {w w' : World} {p : Hpt} {lim : Nat} {A : Hp} {k : Int} {els : List V} {j c : Nat} {F G : Nat → Prop} {q : Option Addr} {g o : Nat} (h : Half w p lim A k els j c F q g o) (b : Kp G w w') (hd : ∀ x, F x → ¬ G x) : Half w' p lim A k els j c F q g o := h.same (fun x hx => b.block x (h.flt x hx) (hd x hx)) b.size
theorem modify_last {α : Type} (l : List α) (x : α) (f : α → α) : (l ++ [x]).modify l.length f = l ++ [f x] := by
  induction l with
  | nil => rfl
  | cons a l ih => rw [List.cons_append, List.length_cons, List.modify_succ_cons, ih]; rfl
theorem Half.put {w : World} {p : Hpt} {lim : Nat} {A : Hp} {k : Int} {els : List V} {j c : Nat} {F : Nat → Prop} {q : Option Addr} {g o : Nat} (h : Half w p lim A k els j c F q g o) (hj : j < els.length) (hm : mayS els[j] k c = true) :
    (q = some ⟨g, o, none⟩ ∧ w.there g (o + j * 3) 3 ∧ F g) ∧ Half (w.setCells g (o + j * 3) (vc els[j])) p lim A k els (j + 1) c F q g o := by
  obtain ⟨As, rq, rn, rg, ro, av, h1, h2, h3, y, h4, rfl, rfl, rfl⟩ := h.heap
  have hA : A.length < As.length := by omega
  have hy : As[A.length] = y := by rw [List.getElem?_eq_getElem hA] at h4; exact Option.some.inj h4
  have hab : (absA As)[A.length]? = some (k, els.take j ++ List.replicate (els.length - j) (k, 0, e0)) := by rw [h3]; simp
  have hye : y.kind = k ∧ y.els = els.take j ++ List.replicate (els.length - j) (k, 0, e0) := by
    unfold absA at hab
    rw [List.getElem?_map, h4] at hab
    have := Option.some.inj hab
    exact ⟨congrArg Prod.fst this, congrArg Prod.snd this⟩
  have hyl : y.els.length = els.length := by rw [hye.2, List.length_append, List.length_take, List.length_replicate]; omega
  have hne : y.els ≠ [] := fun e => by rw [e] at hyl; simp at hyl; omega
  obtain ⟨e1, e2, e3, e4⟩ := h1.els y (List.mem_of_getElem? h4) hne
  refine ⟨⟨e1, e2.there _ _ (by omega), e4⟩, ?_⟩
  have hp := h1.put A.length j hA (by rw [hy]; omega) els[j] (by rw [hy, hye.1]; exact hm)
  have hset : y.els.set j els[j] = els.take (j + 1) ++ List.replicate (els.length - (j + 1)) (k, 0, e0) := by
    rw [hye.2, List.set_append_right _ _ (by rw [List.length_take]; omega), List.length_take, Nat.min_eq_left (by omega), Nat.sub_self, List.take_succ_eq_append_getElem hj]
    rw [show els.length - j = (els.length - (j + 1)) + 1 by omega, List.replicate_succ, List.set_cons_zero, List.append_assoc]
    rfl
  have hab2 : absA (As.set A.length { As[A.length] with els := As[A.length].els.set j els[j] }) = A ++ [(k, els.take (j + 1) ++ List.replicate (els.length - (j + 1)) (k, 0, e0))] := by
    rw [abs_put, h3, modify_last, ← hset, hye.2]
  have hu : usedS (absA (As.set A.length { As[A.length] with els := As[A.length].els.set j els[j] })) = usedS (absA As) := by
    apply used_congr
    unfold absA
    rw [List.map_map, List.map_map, map_set_same _ As A.length hA]
    simp
  refine ⟨As.set A.length { As[A.length] with els := As[A.length].els.set j els[j] }, rq, rn, rg, ro, av, ?_, by rw [List.length_set]; exact h2, hab2, ?_⟩
  · rw [hu, ← hy]
    exact hp
  · refine ⟨{ As[A.length] with els := As[A.length].els.set j els[j] }, by rw [List.getElem?_set]; simp [hA], ?_, ?_, ?_⟩ <;> simp only [hy]
theorem arB_app (a : Int × List V) (b : List UInt8) : arB a ++ b = numB a.1 1 ++ (numB (a.2.length : Int) 8 ++ (a.2.flatMap elB ++ b)) := by
  have e : numB a.1 1 = [byteOf a.1] := by simp [numB]
  unfold arB
  rw [e]
  simp
end Go.Proofs.YtahdkffijlfmnaaGreatDoor.Hp

namespace Go.Proofs.YtahdkffijlfmnaaGreatDoor.Hp
open Go.RowKit
theorem half_start {w : World} {p : Hpt} {lim : Nat} {A : Hp} {k : Int} {els : List V} {c : Nat} {F : Nat → Prop} (h : HeapC w p lim (A ++ [(k, List.replicate els.length (k, 0, e0))]) c F) :
    ∃ q g o vq vcp, Half w p lim A k els 0 c F q g o ∧ w.cell? ⟨p.b, p.o + 3, none⟩ = some (.slice (some ⟨vq, 0, none⟩) (A.length + 1) vcp) ∧ w.cell? ⟨vq, A.length * 2 + 1, none⟩ = some (.slice q els.length els.length) := by
  obtain ⟨As, rq, rn, rg, ro, av, h1, h2⟩ := h
  have hl : As.length = A.length + 1 := by rw [← abs_len, h1]; simp
  have hlt : A.length < As.length := by omega
  have hy : (absA As)[A.length]? = some (k, List.replicate els.length (k, 0, e0)) := by rw [h1]; simp
  have hyl : As[A.length].els.length = els.length := by
    unfold absA at hy
    rw [List.getElem?_map, List.getElem?_eq_getElem hlt] at hy
    have := congrArg Prod.snd (Option.some.inj hy)
    simp only at this
    rw [this, List.length_replicate]
  obtain ⟨vq, vcp, rfl, _, hr⟩ := own_slice h2.arrs
  obtain ⟨vg, rfl, hr1⟩ := hr (by omega)
  have e1' := hr1 (A.length * 2 + 1) (.slice As[A.length].q As[A.length].els.length As[A.length].els.length) ((flat_at ac 2 (fun _ => rfl) As A.length 1 hlt (by decide)).trans rfl)
  rw [Nat.zero_add, hyl] at e1'
  refine ⟨As[A.length].q, As[A.length].g, As[A.length].o, vg, vcp, ⟨⟨As, rq, rn, rg, ro, _, h2, hl, by rw [h1]; simp, As[A.length], List.getElem?_eq_getElem hlt, rfl, rfl, rfl⟩⟩, ?_, e1'⟩
  rw [h2.c3, hl]
set_option maxRecDepth 100000 in
set_option maxHeartbeats 4000000 in
theorem read_any {w : World} {p : Hpt} {lim : Nat} {A : Hp} {c : Nat} {F : Nat → Prop} (h : HeapC w p lim A c F) (hz : Zt w) (hF0 : ¬ F 4) (rb : Nat) (hrb0 : rb ≠ 4) (hrF : ¬ F rb) (k : Int) (els : List V) (hk : 1 ≤ k ∧ k ≤ 4) (hle : usedS A + (els.length + 1) ≤ lim) (hlim : lim ≤ 100000)
    (hm : ∀ v ∈ els, mayS v k c = true ∧ inR v.2.1) (b : List UInt8) (hl : (arB (k, els) ++ b).length ≤ 9223372036854775807) (hr : Box2 w rb (.string (str (arB (k, els) ++ b))) (.bool false)) :
    Calls Tryz.prog 101 #[.pointer (some ⟨p.b, p.o, none⟩), .pointer (some ⟨rb, 0, none⟩), .int .i64 (c : Int)] w fun e w' => e = .returned (.bool true) ∧ Hid (∃ F', HeapC w' p lim (A ++ [(k, els)]) c F' ∧ Box2 w' rb (.string (str b)) (.bool false) ∧ Kp (fun x => F x ∨ x = rb) w w' ∧ ∀ x, F' x → F x ∨ w.heap.size ≤ x) := by
  rw [arB_app] at hr hl
  simp only at hr hl
  have hrl : rb < w.heap.size := block_lt_of_cell hr.1.1
  have hAl : A.length ≤ 100000 := by have := used_ge A; omega
  have n1 := rnumber_any w rb (numB k 1) _ hl hr
  rw [numB_len, nv1, show k % 256 = k by omega] at n1
  have hl2 : (numB (els.length : Int) 8 ++ (els.flatMap elB ++ b)).length ≤ 9223372036854775807 := by rw [List.length_append] at hl; omega
  have hl3 : (els.flatMap elB ++ b).length ≤ 9223372036854775807 := by rw [List.length_append] at hl2; omega
  have HM : Hid (makeH A lim k (els.length : Int) = (A ++ [(k, List.replicate els.length (k, 0, e0))], (4, (A.length : Int) + 1, e0), 0)) := by
    show makeH A lim k (els.length : Int) = _
    unfold makeH
    rw [if_neg (by omega), if_neg (by omega), if_neg (by omega), Int.toNat_natCast]
  clear hr hl
  go_enter Tryz.func101, Tryz.ntmps101
  go_wp2_with fail
  refine n1.mono ?_
  rintro e w1 ⟨rfl, hq1⟩
  obtain ⟨r1, k1⟩ := hq1.out
  have n2 := rnumber_any w1 rb (numB (els.length : Int) 8) _ hl2 r1
  rw [numB_len, num8 _ (by omega) (by omega)] at n2
  clear n1 hq1
  go_wp2_with fail
  refine n2.mono ?_
  rintro e w2 ⟨rfl, hq2⟩
  obtain ⟨r2, k2⟩ := hq2.out
  have k12 : Kp (fun x => x = rb) w w2 := k1.trans k2 (fun _ _ q => q)
  have h2 := h.kept k12 (fun x hx e => hrF (e ▸ hx))
  have hz2 : Zt w2 := hz.same (k12.block 4 hz.pos (fun e => hrb0 e.symm))
  have hmk := makeC_any h2 hz2 hF0 k (els.length : Int)
  rw [HM.out] at hmk
  simp only at hmk
  rw [show (vc (4, (A.length : Int) + 1, e0)).toArray = #[.int .i64 4, .int .i64 ((A.length : Int) + 1), .string e0] from rfl] at hmk
  clear n2 hq2 HM
  go_wp2_with fail
  refine hmk.mono ?_
  rintro e w3 ⟨rfl, hq3⟩
  obtain ⟨F3, h3, k3, s3⟩ := hq3.out
  have hrl2 : rb < w2.heap.size := block_lt_of_cell r2.1.1
  have r3 := r2.same (k3.block rb hrl2 fun q => hrF q.1)
  have nb : Below w3.heap.size w3 (w3.alloc (.cells #[.int .i64 4, .int .i64 ((A.length : Int) + 1), .string e0] 52)) := (Below.refl _ w3).alloc (Nat.le_refl _) _
  have rX := r3.below nb (block_lt_of_cell r3.1.1)
  obtain ⟨q, g, o, vq, vcp, HF, d3, dv⟩ := half_start (h3.next nb)
  have KX : Kp (fun x => F x ∨ x = rb) w (w3.alloc (.cells #[.int .i64 4, .int .i64 ((A.length : Int) + 1), .string e0] 52)) := by
    have q1 : Kp (fun x => F x ∨ x = rb) w w2 := ⟨k12.os, k12.tape, k12.output, k12.size, fun x hx hn => k12.block x hx (fun e => hn (.inr e))⟩
    exact (q1.trans k3 (fun x _ hx => .inl hx.1)).next nb
  have hF3 : ∀ x, F3 x → F x ∨ w.heap.size ≤ x := fun x hx => by
    rcases s3 x hx with r | r
    · exact .inl r
    · have := k12.size
      exact .inr (by omega)
  have hrF3 : ¬ F3 rb := fun r => by
    rcases hF3 rb r with r | r
    · exact hrF r
    · omega
  obtain ⟨⟨⟨x0, f0⟩, ⟨x1, f1⟩⟩, x2, f2⟩ := Box3.new w3 4 ((A.length : Int) + 1) e0 52
  have x4 := rX.2.1
  have HRX : Hid (Box2 (w3.alloc (.cells #[.int .i64 4, .int .i64 ((A.length : Int) + 1), .string e0] 52)) rb (.string (str (els.flatMap elB ++ b))) (.bool false)) := rX
  clear h h2 h3 hz2 hmk hq3 r1 r2 r3 k1 k2 k3 nb rX k12 s3 hz
  go_upto_region 5 with fail
  generalize w3.alloc (.cells #[.int .i64 4, .int .i64 ((A.length : Int) + 1), .string e0] 52) = X at HF d3 dv KX x0 x1 x2 f0 f1 f2 x4 HRX ⊢
  have y1 := cell_regrown x1
  have y3 := cell_regrown d3
  have yv := cell_regrown dv
  have hw : IntKind.i64.wrap (A.length : Int) = (A.length : Int) := by rw [IntKind.wrap_i64]; omega
  have hw' : wrap64 (A.length : Int) = (A.length : Int) := by unfold wrap64; omega
  have i0 : (0 : Int) ≤ (A.length : Int) := Int.natCast_nonneg _
  have i1 : (A.length : Int) < (A.length : Int) + 1 := Int.lt_succ _
  go_wp2_with fail
  refine wp_region_quiet_below (by kernel_rfl) (by kernel_rfl) ?_
  repeat (first | go_big_quiet_step (first | fail) | quiet_step (first | fail))
  refine wpQuiet_nil ?_
  intro _ hw'
  obtain ⟨⟨dq, osq⟩, hw''⟩ := hw'
  subst hw''
  have hY := below_regrown X dq osq
  change Exit.then _ _ Exit.normal _ (Sort.grow (redrawn X dq) osq)
  generalize Sort.grow (redrawn X dq) osq = Y at hY ⊢
  clear y1 y3 yv x0 x1 x2 f0 f1 f2 d3 dv x4 hw hw'
  have HF2 : Hid (Half Y p lim A k els 0 c F3 q g o) := HF.next hY
  have HR2 : Hid (Box2 Y rb (.string (str (els.flatMap elB ++ b))) (.bool false)) := HRX.out.below hY (block_lt_of_cell HRX.out.1.1)
  have HK2 : Hid (Kp (fun x => F x ∨ x = rb) w Y) := KX.next hY
  clear HF KX HRX hY
  go_wp2_with fail
  go_loopw [45] (fun v wr => ∃ j : Nat, j ≤ els.length ∧ v = .int .i64 (j : Int) ∧ Hid (Half wr p lim A k els j c F3 q g o) ∧ Hid (Box2 wr rb (.string (str ((els.drop j).flatMap elB ++ b))) (.bool false)) ∧ Hid (Kp (fun x => F x ∨ x = rb) w wr)) (fun v _ => els.length - (intOf v).toNat)
  case atStart => exact ⟨0, Nat.zero_le _, rfl, HF2, HR2, HK2⟩
  case round =>
    obtain ⟨j, hj, rfl, hH, hR, hK⟩ := hrel
    clear HF2 HR2 HK2
    by_cases hlt : j < els.length
    case neg =>
      obtain rfl : j = els.length := by omega
      rw [List.drop_length, List.flatMap_nil, List.nil_append] at hR
      have HFIN : Hid (∃ F', HeapC wr p lim (A ++ [(k, els)]) c F' ∧ Box2 wr rb (.string (str b)) (.bool false) ∧ Kp (fun x => F x ∨ x = rb) w wr ∧ ∀ x, F' x → F x ∨ w.heap.size ≤ x) := by
        obtain ⟨As, rq, rn, rg, ro, av, h1, _, h3, _⟩ := hH.out.heap
        rw [List.take_length, Nat.sub_self, List.replicate_zero, List.append_nil] at h3
        exact ⟨F3, ⟨As, rq, rn, rg, ro, av, h3, h1⟩, hR.out, hK.out, hF3⟩
      clear hH hR hK
      go_wp2
      first | (change bodyPost Tryz.prog Tryz.f101 _ Exit.ret _ _) | (simp only [Exit.noGoto])
      go_ret
      exact ⟨rfl, HFIN⟩
    have hmj := hm els[j] (List.getElem_mem hlt)
    have hdr : (els.drop j).flatMap elB ++ b = elB els[j] ++ ((els.drop (j + 1)).flatMap elB ++ b) := by rw [List.drop_eq_getElem_cons hlt, List.flatMap_cons, List.append_assoc]
    rw [hdr] at hR
    have hlj : (elB els[j] ++ ((els.drop (j + 1)).flatMap elB ++ b)).length ≤ 9223372036854775807 := by
      rw [← hdr]
      have e : els.flatMap elB = (els.take j).flatMap elB ++ (els.drop j).flatMap elB := by rw [← List.flatMap_append, List.take_append_drop]
      rw [e, List.append_assoc, List.length_append] at hl3
      omega
    have HPUT : Hid (∀ W, Half W p lim A k els j c F3 q g o → (q = some ⟨g, o, none⟩ ∧ W.there g (o + j * 3) 3 ∧ F3 g) ∧ Half (W.setCells g (o + j * 3) (vc els[j])) p lim A k els (j + 1) c F3 q g o) := fun W hW => hW.put hlt hmj.1
    clear hdr
    generalize els[j] = y at hmj hR hlj HPUT
    obtain ⟨vk, vn, vs⟩ := y
    have hvk : vk = k := (may_parts hmj.1).1
    subst hvk
    have hel := element_any wr rb vk vn vs ((els.drop (j + 1)).flatMap elB ++ b) c hk hmj.1 hmj.2 hlj hR.out
    have hsz : vs.size ≤ 256 := may_small hmj.1
    have j0 : (0 : Int) ≤ (j : Int) := by omega
    have j1 : (j : Int) < (els.length : Int) := by omega
    have hmay := fun W : World => mayBe_any vk vn vs vk c W (by omega)
    rw [hmj.1] at hmay
    have H1 : Hid ((#[.int .i64 vk, .int .i64 vn, .string vs] : Array Value).all (·.oneCell') = true) := one3 _ _ _
    have HNX : Hid (∀ W4, Box2 W4 rb (.string (str ((els.drop (j + 1)).flatMap elB ++ b))) (.bool false) → Kp (fun x => x = rb) wr W4 → ∀ W6, Below W4.heap.size W4 W6 → (q = some ⟨g, o, none⟩ ∧ W6.there g (o + j * 3) 3) ∧ Hid (Half (W6.setCells g (o + j * 3) (vc (vk, vn, vs))) p lim A vk els (j + 1) c F3 q g o) ∧ Hid (Box2 (W6.setCells g (o + j * 3) (vc (vk, vn, vs))) rb (.string (str ((els.drop (j + 1)).flatMap elB ++ b))) (.bool false)) ∧ Hid (Kp (fun x => F x ∨ x = rb) w (W6.setCells g (o + j * 3) (vc (vk, vn, vs))))) := fun W4 hb4 hk4 W6 hb6 => by
      have h4 := (hH.out.kept hk4 (fun x hx e => hrF3 (e ▸ hx))).next hb6
      obtain ⟨⟨t1, t2, t3⟩, t4⟩ := HPUT.out W6 h4
      have hgr : rb ≠ g := fun e => hrF3 (e ▸ t3)
      refine ⟨⟨t1, t2⟩, t4, (hb4.below hb6 (block_lt_of_cell hb4.1.1)).same (sets_heap hgr _ _ _), ?_⟩
      refine Kp.setCells (F := fun x => F x ∨ x = rb) ?_ _ _ ((hK.out.trans hk4 (fun _ _ e => .inr e)).next hb6)
      rcases hF3 g t3 with r | r
      · exact .inl (.inl r)
      · exact .inr r
    clear hH hR hK HPUT hmj hlj
    go_wp2_with fail
    refine hel.mono ?_
    rintro e w4 ⟨rfl, hq4⟩
    obtain ⟨r4, k4⟩ := hq4.out
    have NX := HNX.out w4 r4 k4
    clear HNX hel hq4
    have nb4 : Below w4.heap.size w4 (w4.alloc (.cells #[.int .i64 vk, .int .i64 vn, .string vs] 52)) := (Below.refl _ w4).alloc (Nat.le_refl _) _
    have b13 := Box3.new w4 vk vn vs 52
    obtain ⟨⟨⟨p0, g0⟩, ⟨p1, g1⟩⟩, p2, g2⟩ := id b13
    have l1 := (r4.below nb4 (block_lt_of_cell r4.1.1)).2.1
    have HNX2 : Hid (∀ W6, Below w4.heap.size w4 W6 → (q = some ⟨g, o, none⟩ ∧ W6.there g (o + j * 3) 3) ∧ Hid (Half (W6.setCells g (o + j * 3) (vc (vk, vn, vs))) p lim A vk els (j + 1) c F3 q g o) ∧ Hid (Box2 (W6.setCells g (o + j * 3) (vc (vk, vn, vs))) rb (.string (str ((els.drop (j + 1)).flatMap elB ++ b))) (.bool false)) ∧ Hid (Kp (fun x => F x ∨ x = rb) w (W6.setCells g (o + j * 3) (vc (vk, vn, vs))))) := NX
    clear NX r4 k4
    obtain ⟨⟨rfl, -⟩, -⟩ := HNX2.out w4 (Below.refl _ _)
    go_wp2_with (first
      | (go_at_call 124; refine (hmay _).mono ?_; rintro e w5 ⟨rfl, hb5⟩; obtain ⟨⟨-, hth⟩, n1, n2, n3⟩ := HNX2.out w5 (below2 nb4 hb5); obtain ⟨⟨⟨s0, -⟩, ⟨s1, -⟩⟩, s2, -⟩ := b13.below hb5 (by simp); have HTH : Hid (w5.there g (o + j * 3) (#[.int .i64 vk, .int .i64 vn, .string vs] : Array Value).size) := hth; clear hth)
      | (refine wpList_store_mid (by rfl) 52 (.tmp 65) (.tmp 64) (by rfl) g (o + j * 3) #[.int .i64 vk, .int .i64 vn, .string vs] (by rfl) (by rfl) HTH.out size37 H1.out ?_)
      | go_in)
    exact ⟨⟨j + 1, by omega, by go_num, n1, n2, n3⟩, by simp [intOf]; omega⟩
end Go.Proofs.YtahdkffijlfmnaaGreatDoor.Hp

namespace Go.Proofs.YtahdkffijlfmnaaGreatDoor.Hp
open Go.RowKit
def okH (A : Hp) (c : Nat) : Prop := ∀ a ∈ A, (1 ≤ a.1 ∧ a.1 ≤ 4) ∧ ∀ v ∈ a.2, mayS v a.1 c = true ∧ inR v.2.1
set_option maxRecDepth 100000 in
set_option maxHeartbeats 4000000 in
theorem load_any (w : World) (l : Int) (A : Hp) (hu : usedS A ≤ limS l) (hok : okH A A.length) (hz : Zt w) :
    Calls Tryz.prog 64 #[.int .i64 l, .string (str (saveS A))] w fun e w' => e = .returned (.tuple #[.pointer (some ⟨w.heap.size, 0, none⟩), .int .i64 0]) ∧ Hid (∃ F', HeapOf w' (Hp.hz w.heap.size) (limS l) A F' ∧ (∀ b, F' b → w.heap.size ≤ b) ∧ Below w.heap.size w w') := by
  have hlim := limS_le l
  have hAl : A.length ≤ 100000 := by have := used_ge A; omega
  have hsv : saveS A = numB 72 1 ++ (numB (A.length : Int) 8 ++ A.flatMap arB) := by
    have e : numB 72 1 = [72] := by decide
    unfold saveS
    rw [e]
    rfl
  have hbd : (A.flatMap arB).length ≤ 25800000 := by
    have h1 := ars_bound A (fun a ha v hv => may_small ((hok a ha).2 v hv).1)
    omega
  have hl1 : (numB 72 1 ++ (numB (A.length : Int) 8 ++ A.flatMap arB)).length ≤ 9223372036854775807 := by
    rw [List.length_append, List.length_append, numB_len, numB_len]
    omega
  have hl2 : (numB (A.length : Int) 8 ++ A.flatMap arB).length ≤ 9223372036854775807 := by
    rw [List.length_append, numB_len]
    omega
  rw [hsv]
  have nw := new_any l w
  generalize limS l = lim at nw hu hlim ⊢
  have v1 : numV (numB 72 1) = 72 := by rw [nv1]; rfl
  have v2 : numV (numB (A.length : Int) 8) = (A.length : Int) := num8 _ (by omega) (by omega)
  have HOK : Hid (okH A A.length) := hok
  clear hsv hok
  generalize htx : str (numB 72 1 ++ (numB (A.length : Int) 8 ++ A.flatMap arB)) = tx
  go_enter Tryz.func64, Tryz.ntmps64
  go_wp2_with fail
  refine nw.mono ?_
  rintro e w1 ⟨rfl, h1, b1⟩
  have hp1 : w.heap.size < w1.heap.size := h1.flt _ rfl
  have h1c : HeapC w1 (Hp.hz w.heap.size) lim [] A.length (fun b => b = w.heap.size) := by
    obtain ⟨As, rq, rn, rg, ro, av, e, q⟩ := h1
    have ea : As = [] := by
      unfold absA at e
      exact List.map_eq_nil_iff.1 e
    subst ea
    exact ⟨[], rq, rn, rg, ro, av, rfl, q.recount A.length (fun a ha => by cases ha)⟩
  have nb : Below w1.heap.size w1 (w1.alloc (.cells #[.string tx, .bool false] 152)) := (Below.refl _ w1).alloc (Nat.le_refl _) _
  have bx := Box2.new w1 (.string tx) (.bool false) 152
  have hX := h1c.next nb
  have BX : Below w.heap.size w (w1.alloc (.cells #[.string tx, .bool false] 152)) := below2 b1 nb
  have zX : w1.heap.size < (w1.alloc (.cells #[.string tx, .bool false] 152)).heap.size := by simp
  clear nw h1 h1c nb b1
  go_wp2_with fail
  generalize w1.alloc (.cells #[.string tx, .bool false] 152) = X at bx hX BX zX ⊢
  generalize w1.heap.size = rb at bx zX hp1 ⊢
  rw [← htx] at bx
  have n1 := rnumber_any X rb (numB 72 1) _ hl1 bx
  rw [numB_len, v1] at n1
  refine n1.mono ?_
  rintro e w2 ⟨rfl, hq2⟩
  obtain ⟨r2, k2⟩ := hq2.out
  have n2 := rnumber_any w2 rb (numB (A.length : Int) 8) _ hl2 r2
  rw [numB_len, v2] at n2
  clear n1 bx hq2
  go_wp2_with fail
  refine n2.mono ?_
  rintro e w3 ⟨rfl, hq3⟩
  obtain ⟨r3, k3⟩ := hq3.out
  have k23 : Kp (fun x => x = rb) X w3 := k2.trans k3 (fun _ _ q => q)
  have h3 := hX.kept k23 (fun x hx e => by omega)
  have B3 : Below w.heap.size w w3 := BX.trans (k23.below (fun k hk => by omega) (by have := BX.size; omega))
  have HST : Hid (∃ F', HeapC w3 (Hp.hz w.heap.size) lim (A.take 0) A.length F' ∧ Box2 w3 rb (.string (str ((A.drop 0).flatMap arB))) (.bool false) ∧ Below w.heap.size w w3 ∧ (∀ x, F' x → w.heap.size ≤ x) ∧ ¬ F' rb) := ⟨_, h3, r3, B3, fun x hx => by omega, fun e => by omega⟩
  clear n2 hq3 r2 r3 k2 k3 k23 h3 B3 hX BX v1 v2 hl1 hl2 htx
  have a0 : (0 : Int) ≤ (A.length : Int) := Int.natCast_nonneg _
  go_wp2_with fail
  go_loopw [10, 11] (fun g v wr => ∃ i : Nat, i ≤ A.length ∧ g = .bool true ∧ v = .int .i64 (i : Int) ∧ Hid (∃ F', HeapC wr (Hp.hz w.heap.size) lim (A.take i) A.length F' ∧ Box2 wr rb (.string (str ((A.drop i).flatMap arB))) (.bool false) ∧ Below w.heap.size w wr ∧ (∀ x, F' x → w.heap.size ≤ x) ∧ ¬ F' rb)) (fun _ v _ => A.length - (intOf v).toNat)
  case atStart => exact ⟨0, Nat.zero_le _, rfl, rfl, HST⟩
  case round =>
    obtain ⟨i, hi, rfl, rfl, hq⟩ := hrel
    clear HST
    obtain ⟨F', h4, r4, B4, hF4, hr4⟩ := hq.out
    by_cases hlt : i < A.length
    case neg =>
      obtain rfl : i = A.length := by omega
      rw [List.take_length] at h4
      rw [List.drop_length, List.flatMap_nil] at r4
      have l0 := r4.1.1
      have l1 := r4.2.1
      rw [show str [] = e0 from rfl] at l0
      have HFIN : Hid (∃ F', HeapOf wr (Hp.hz w.heap.size) lim A F' ∧ (∀ b, F' b → w.heap.size ≤ b) ∧ Below w.heap.size w wr) := ⟨F', h4.toOf (fun a ha v hv => ((HOK.out a ha).2 v hv).1), hF4, B4⟩
      clear h4 r4 hq
      go_wp2
      first | (change bodyPost Tryz.prog Tryz.f64 _ Exit.ret _ _) | (simp only [Exit.noGoto])
      exact bodyPost_ret (v := .tuple #[.pointer (some ⟨w.heap.size, 0, none⟩), .int .i64 0]) (by simp [results, Tryz.results64, go_sem]) rfl ⟨rfl, HFIN⟩
    have hmem : A[i] ∈ A := List.getElem_mem hlt
    have hdr : (A.drop i).flatMap arB = arB A[i] ++ (A.drop (i + 1)).flatMap arB := by rw [List.drop_eq_getElem_cons hlt, List.flatMap_cons]
    rw [hdr] at r4
    have hll : (arB A[i] ++ (A.drop (i + 1)).flatMap arB).length ≤ 9223372036854775807 := by
      rw [← hdr]
      have e : A.flatMap arB = (A.take i).flatMap arB ++ (A.drop i).flatMap arB := by rw [← List.flatMap_append, List.take_append_drop]
      rw [e, List.length_append] at hbd
      omega
    have hus : usedS (A.take i) + (A[i].2.length + 1) ≤ lim := by
      have e : A = A.take (i + 1) ++ A.drop (i + 1) := (List.take_append_drop _ _).symm
      have h5 := used_app (A.take (i + 1)) (A.drop (i + 1))
      rw [← e, List.take_succ_eq_append_getElem hlt, used_app] at h5
      have h6 : usedS [A[i]] = A[i].2.length + 1 := by simp [usedS]
      omega
    have hz4 : Zt wr := hz.same (B4.block 4 hz.pos)
    have hrd := read_any h4 hz4 (fun e => by have := hF4 4 e; have := hz.pos; omega) rb (by have := hz.pos; omega) hr4 A[i].1 A[i].2 (HOK.out _ hmem).1 hus hlim (HOK.out _ hmem).2 _ hll r4
    have htk : A.take i ++ [(A[i].1, A[i].2)] = A.take (i + 1) := by rw [List.take_succ_eq_append_getElem hlt]
    rw [htk] at hrd
    have HNX : Hid (∀ W, Hid (∃ F'', HeapC W (Hp.hz w.heap.size) lim (A.take (i + 1)) A.length F'' ∧ Box2 W rb (.string (str ((A.drop (i + 1)).flatMap arB))) (.bool false) ∧ Kp (fun x => F' x ∨ x = rb) wr W ∧ ∀ x, F'' x → F' x ∨ wr.heap.size ≤ x) → ∃ F', HeapC W (Hp.hz w.heap.size) lim (A.take (i + 1)) A.length F' ∧ Box2 W rb (.string (str ((A.drop (i + 1)).flatMap arB))) (.bool false) ∧ Below w.heap.size w W ∧ (∀ x, F' x → w.heap.size ≤ x) ∧ ¬ F' rb) := fun W hW => by
      obtain ⟨F'', q1, q2, q3, q4⟩ := hW.out
      refine ⟨F'', q1, q2, B4.trans (q3.below (fun k hk => by rcases hk with r | r; exact hF4 k r; omega) B4.size), fun x hx => ?_, fun e => ?_⟩
      · rcases q4 x hx with r | r
        · exact hF4 x r
        · have := B4.size
          omega
      · rcases q4 rb e with r | r
        · exact hr4 r
        · have := block_lt_of_cell r4.1.1
          simp only at this
          omega
    have i1 : (i : Int) < (A.length : Int) := Int.ofNat_lt.2 hlt
    clear hq h4 hdr hll hus htk hz4 r4 hbd
    go_wp2_with (first | (go_at_call 101; refine hrd.mono ?_; rintro e w5 ⟨rfl, hq5⟩) | go_in)
    exact ⟨⟨i + 1, by omega, rfl, by go_num, HNX.out w5 hq5⟩, by simp [intOf]; omega⟩
end Go.Proofs.YtahdkffijlfmnaaGreatDoor.Hp
