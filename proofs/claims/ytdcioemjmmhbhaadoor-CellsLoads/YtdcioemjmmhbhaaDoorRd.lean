import Derived.Test.YtdcioemjmmhbhaaDoorSave
namespace Go.Proofs.YtdcioemjmmhbhaaDoor
open Go.RowKit

def str (l : List UInt8) : ByteArray := ⟨l.toArray⟩
theorem str_size (l : List UInt8) : (str l).size = l.length := by simp [str, ByteArray.size]
theorem str_data (l : List UInt8) : (str l).data.toList = l := by simp [str]
theorem str_head (a b : List UInt8) : (str (a ++ b)).extract 0 a.length = str a := by
  apply ByteArray.ext
  simp [str, ByteArray.data_extract]
theorem str_tail (a b : List UInt8) : (str (a ++ b)).extract a.length (str (a ++ b)).size = str b := by
  apply ByteArray.ext
  rw [str_size]
  simp [str, ByteArray.data_extract]

set_option maxRecDepth 100000 in
set_option maxHeartbeats 1000000 in
theorem bytes_any (w : World) (rb : Nat) (a b : List UInt8) (hl : (a ++ b).length ≤ 9223372036854775807) (h : Box2 w rb (.string (str (a ++ b))) (.bool false)) :
    Calls Tryd.prog 54 #[.pointer (some ⟨rb, 0, none⟩), .int .i64 (a.length : Int)] w fun e w' => e = .returned (.string (str a)) ∧ w' = w.setCell ⟨rb, 0, none⟩ (.string (str b)) := by
  obtain ⟨⟨h0, f0⟩, h1, f1⟩ := h
  have hs := str_size (a ++ b)
  have e1 := str_head a b
  have e2 := str_tail a b
  have hal : (a.length : Int) ≤ ((str (a ++ b)).size : Int) := by rw [hs, List.length_append]; omega
  have hz : ((str (a ++ b)).size : Int) ≤ 9223372036854775807 := by rw [hs]; omega
  clear hs
  generalize str (a ++ b) = s at *
  have a0 : (0 : Int) ≤ (a.length : Int) := by omega
  go_enter Tryd.func54, Tryd.ntmps54
  go_wp2
  go_ret
  exact ⟨rfl, rfl⟩

theorem or_low (X b : Nat) (h : X % 256 = 0) (hb : b < 256) : X ||| b = X + b := by
  have e : X = (X / 256) <<< 8 := by rw [Nat.shiftLeft_eq]; omega
  rw [e, ← Nat.shiftLeft_add_eq_or_of_lt (i := 8) hb]
theorem bits_or (n : Int) (b : Nat) (hb : b < 256) : bits BinOp.or IntKind.i64 (wrap64 (n * 256)) (b : Int) = wrap64 (n * 256) + (b : Int) := by
  unfold bits
  simp only [BitVec.toNat_or, BitVec.toNat_ofInt]
  have h1 : (((b : Int) % ((2 ^ IntKind.i64.bits : Nat) : Int))).toNat = b := by
    show ((b : Int) % 18446744073709551616).toNat = b
    omega
  rw [h1]
  have h2 : ((wrap64 (n * 256) % ((2 ^ IntKind.i64.bits : Nat) : Int))).toNat = (wrap64 (n * 256) % 18446744073709551616).toNat := rfl
  rw [h2, or_low _ _ (by unfold wrap64; omega) hb, IntKind.wrap_i64]
  unfold wrap64
  omega
/-- What the bytes say. -/
def numV (l : List UInt8) : Int := l.foldl (fun n b => wrap64 (n * 256) + (b.toNat : Int)) 0
theorem numV_snoc (l : List UInt8) (b : UInt8) : numV (l ++ [b]) = wrap64 (numV l * 256) + (b.toNat : Int) := by
  unfold numV
  rw [List.foldl_append]
  rfl
set_option maxRecDepth 100000 in
set_option maxHeartbeats 2000000 in
theorem number_any (w : World) (rb : Nat) (a b : List UInt8) (hl : (a ++ b).length ≤ 9223372036854775807) (h : Box2 w rb (.string (str (a ++ b))) (.bool false)) :
    Calls Tryd.prog 40 #[.pointer (some ⟨rb, 0, none⟩), .int .i64 (a.length : Int)] w fun e w' => e = .returned (.int .i64 (numV a)) ∧ Hid (Box2 w' rb (.string (str b)) (.bool false) ∧ Kp (fun x => x = rb) w w') := by
  have hby := bytes_any w rb a b hl h
  have hrl : rb < w.heap.size := block_lt_of_cell h.1.1
  have h2 : Box2 (w.setCell ⟨rb, 0, none⟩ (.string (str b))) rb (.string (str b)) (.bool false) := by
    refine ⟨⟨World.cell?_setCell_same' _ _ _ (by rw [h.1.1]; rfl), by rw [World.frozen?_setCell]; exact h.1.2⟩, ?_, by rw [World.frozen?_setCell]; exact h.2.2⟩
    rw [World.cell?_setCell_other _ _ _ _ (by simp)]
    exact h.2.1
  have k2 : Kp (fun x => x = rb) w (w.setCell ⟨rb, 0, none⟩ (.string (str b))) := (Kp.refl (fun x => x = rb) w).setCell (p := ⟨rb, 0, none⟩) (.inl rfl) _
  have hr2 : rb < (w.setCell ⟨rb, 0, none⟩ (.string (str b))).heap.size := by rw [set_size]; exact hrl
  generalize w.setCell ⟨rb, 0, none⟩ (.string (str b)) = W at hby h2 k2 hr2
  have hcv := Lib.run_convert_string_bytes (P := Tryd.prog) W 9 87 5 (str a) Tryd.underlying9 Tryd.underlying87 Tryd.underlying5
  rw [str_size] at hcv
  have HB : Hid (Below W.heap.size W (Lib.bytesWorld W 5 (str a))) := ⟨rfl, rfl, rfl, by rw [Lib.bytesWorld_size]; omega, fun k hk => Lib.bytesWorld_at_old W 5 (str a) k hk⟩
  have HC : Hid (∀ j, j < a.length → (Lib.bytesWorld W 5 (str a)).cell? ⟨W.heap.size, j, none⟩ = some (.int .u8 ((a.getD j 0).toNat : Int))) := fun j hj => by
    have := Lib.bytesWorld_cell W 5 (str a) j (by rw [str_size]; exact hj)
    rwa [str_data] at this
  generalize Lib.bytesWorld W 5 (str a) = W2 at hcv HB HC
  generalize grownCap W a.length 0 5 = cp at hcv
  have hal : (a.length : Int) ≤ 9223372036854775807 := by rw [List.length_append] at hl; omega
  clear h
  go_enter Tryd.func40, Tryd.ntmps40
  go_wp2_with (first | (go_at_call 54; refine hby.mono ?_; rintro e w1 ⟨rfl, rfl⟩) | fail)
  go_loopw [5, 13] (fun n v wr => ∃ j : Nat, j ≤ a.length ∧ v = .int .i64 (j : Int) ∧ n = .int .i64 (numV (a.take j)) ∧ wr = W2) (fun _ v _ => a.length - (intOf v).toNat)
  case atStart => exact ⟨0, Nat.zero_le _, rfl, rfl, rfl⟩
  case round =>
    obtain ⟨j, hj, rfl, rfl, rfl⟩ := hrel
    by_cases hlt : j < a.length
    case neg =>
      obtain rfl : j = a.length := by omega
      rw [List.take_length]
      go_wp2
      first | (change bodyPost Tryd.prog Tryd.f40 _ Exit.ret _ _) | (simp only [Exit.noGoto])
      go_ret
      exact ⟨rfl, h2.below HB.out hr2, k2.next HB.out⟩
    have c := HC.out j hlt
    have j0 : (0 : Int) ≤ (j : Int) := by omega
    have j1 : (j : Int) < (a.length : Int) := by omega
    have hs : numV (a.take (j + 1)) = wrap64 (numV (a.take j) * 256) + ((a.getD j 0).toNat : Int) := by
      rw [List.take_succ_eq_append_getElem hlt, numV_snoc, List.getD_eq_getElem?_getD, List.getElem?_eq_getElem hlt]
      rfl
    have HS : Hid (numV (a.take (j + 1)) = wrap64 (numV (a.take j) * 256) + ((a.getD j 0).toNat : Int)) := hs
    have hbb := UInt8.toNat_lt (a.getD j 0)
    clear hs
    generalize numV (a.take j) = nn at HS ⊢
    generalize (a.getD j 0).toNat = bb at HS hbb c
    go_wp2
    exact ⟨⟨j + 1, by omega, by go_num, by rw [bits_or nn bb hbb, HS.out], trivial⟩, by simp [intOf]; omega⟩

theorem numB_snoc (n : Int) : ∀ k, numB n (k + 1) = numB (n / 256) k ++ [byteOf n]
  | 0 => by simp [numB]
  | k + 1 => by
    rw [numB, numB_snoc n k, numB, List.cons_append]
    congr 2
    rw [show 8 * (k + 1) = 8 + 8 * k by omega, Int.pow_add, Int.ediv_ediv, if_neg (by rintro ⟨h, _⟩; omega), Int.sub_zero, show (2 : Int) ^ 8 = 256 by decide]
theorem nv1 (m : Int) : numV (numB m 1) = m % 256 := by
  rw [numB_snoc, numV_snoc, byteOf_nat]
  show wrap64 (0 * 256) + _ = _
  unfold wrap64
  omega
theorem nv2 (m : Int) : numV (numB m 2) = m % 65536 := by
  rw [numB_snoc, numV_snoc, byteOf_nat, nv1]
  unfold wrap64
  omega
theorem nv3 (m : Int) : numV (numB m 3) = m % 16777216 := by
  rw [numB_snoc, numV_snoc, byteOf_nat, nv2]
  unfold wrap64
  omega
theorem nv4 (m : Int) : numV (numB m 4) = m % 4294967296 := by
  rw [numB_snoc, numV_snoc, byteOf_nat, nv3]
  unfold wrap64
  omega
theorem nv5 (m : Int) : numV (numB m 5) = m % 1099511627776 := by
  rw [numB_snoc, numV_snoc, byteOf_nat, nv4]
  unfold wrap64
  omega
theorem nv6 (m : Int) : numV (numB m 6) = m % 281474976710656 := by
  rw [numB_snoc, numV_snoc, byteOf_nat, nv5]
  unfold wrap64
  omega
theorem nv7 (m : Int) : numV (numB m 7) = m % 72057594037927936 := by
  rw [numB_snoc, numV_snoc, byteOf_nat, nv6]
  unfold wrap64
  omega
theorem num8 (n : Int) (h0 : -9223372036854775808 ≤ n) (h1 : n ≤ 9223372036854775807) : numV (numB n 8) = n := by
  rw [numB_snoc, numV_snoc, byteOf_nat, nv7]
  unfold wrap64
  omega
end Go.Proofs.YtdcioemjmmhbhaaDoor
