import Derived.Test.YtdcioemjmmhbhaaDoorRd
import Derived.Test.YtdcioemjmmhbhaaDoorRdEl
import Derived.Test.YtdcioemjmmhbhaaDoorRead
namespace Go.Proofs.YtdcioemjmmhbhaaDoor
open Go.RowKit

set_option maxRecDepth 100000 in
set_option maxHeartbeats 1000000 in
/-- More is asked for than there is. -/
theorem bytes_short (w : World) (rb : Nat) (s : ByteArray) (n : Nat) (bd : Bool) (hl : s.size < n) (h : Box2 w rb (.string s) (.bool bd)) :
    Calls Tryd.prog 54 #[.pointer (some ⟨rb, 0, none⟩), .int .i64 (n : Int)] w fun e w' => e = .returned (.string ⟨#[]⟩) ∧ w' = w.setCell ⟨rb, 1, none⟩ (.bool true) := by
  obtain ⟨⟨h0, f0⟩, h1, f1⟩ := h
  have hal : (s.size : Int) < (n : Int) := by omega
  go_enter Tryd.func54, Tryd.ntmps54
  go_wp2
  go_ret
  exact ⟨rfl, rfl⟩

set_option maxRecDepth 100000 in
set_option maxHeartbeats 1000000 in
/-- As many as there are, whether or not more was asked for before. -/
theorem bytes_full (w : World) (rb : Nat) (a b : List UInt8) (bd : Bool) (hl : (a ++ b).length ≤ 9223372036854775807) (h : Box2 w rb (.string (str (a ++ b))) (.bool bd)) :
    Calls Tryd.prog 54 #[.pointer (some ⟨rb, 0, none⟩), .int .i64 (a.length : Int)] w fun e w' => e = .returned (.string (str a)) ∧ w' = w.setCell ⟨rb, 0, none⟩ (.string (str b)) := by
  obtain ⟨⟨h0, f0⟩, h1, f1⟩ := h
  have hs := str_size (a ++ b)
  have e1 := str_head a b
  have e2 := str_tail a b
  have hal : (a.length : Int) ≤ ((str (a ++ b)).size : Int) := by rw [hs, List.length_append]; omega
  have hz : ((str (a ++ b)).size : Int) ≤ 9223372036854775807 := by rw [hs]; omega
  clear hs
  generalize str (a ++ b) = s at *
  have a0 : (0 : Int) ≤ (a.length : Int) := by omega
  go_enter Tryd.func54, Tryd.ntmps54
  go_wp2
  go_ret
  exact ⟨rfl, rfl⟩

set_option maxRecDepth 100000 in
set_option maxHeartbeats 2000000 in
theorem number_core (w W : World) (rb n : Nat) (a : List UInt8) (s : ByteArray) (bd : Bool) (hal : (a.length : Int) ≤ 9223372036854775807) (hby : Calls Tryd.prog 54 #[.pointer (some ⟨rb, 0, none⟩), .int .i64 (n : Int)] w fun e w' => e = .returned (.string (str a)) ∧ w' = W) (h2 : Box2 W rb (.string s) (.bool bd)) (k2 : Kp (fun x => x = rb) w W) (hr2 : rb < W.heap.size) :
    Calls Tryd.prog 40 #[.pointer (some ⟨rb, 0, none⟩), .int .i64 (n : Int)] w fun e w' => e = .returned (.int .i64 (numV a)) ∧ Hid (Box2 w' rb (.string s) (.bool bd) ∧ Kp (fun x => x = rb) w w') := by
  have hcv := Lib.run_convert_string_bytes (P := Tryd.prog) W 9 87 5 (str a) Tryd.underlying9 Tryd.underlying87 Tryd.underlying5
  rw [str_size] at hcv
  have HB : Hid (Below W.heap.size W (Lib.bytesWorld W 5 (str a))) := ⟨rfl, rfl, rfl, by rw [Lib.bytesWorld_size]; omega, fun k hk => Lib.bytesWorld_at_old W 5 (str a) k hk⟩
  have HC : Hid (∀ j, j < a.length → (Lib.bytesWorld W 5 (str a)).cell? ⟨W.heap.size, j, none⟩ = some (.int .u8 ((a.getD j 0).toNat : Int))) := fun j hj => by
    have := Lib.bytesWorld_cell W 5 (str a) j (by rw [str_size]; exact hj)
    rwa [str_data] at this
  generalize Lib.bytesWorld W 5 (str a) = W2 at hcv HB HC
  generalize grownCap W a.length 0 5 = cp at hcv
  go_enter Tryd.func40, Tryd.ntmps40
  go_wp2_with (first | (go_at_call 54; refine hby.mono ?_; rintro e w1 ⟨rfl, rfl⟩) | fail)
  go_loopw [5, 13] (fun n v wr => ∃ j : Nat, j ≤ a.length ∧ v = .int .i64 (j : Int) ∧ n = .int .i64 (numV (a.take j)) ∧ wr = W2) (fun _ v _ => a.length - (intOf v).toNat)
  case atStart => exact ⟨0, Nat.zero_le _, rfl, rfl, rfl⟩
  case round =>
    obtain ⟨j, hj, rfl, rfl, rfl⟩ := hrel
    by_cases hlt : j < a.length
    case neg =>
      obtain rfl : j = a.length := by omega
      rw [List.take_length]
      go_wp2
      first | (change bodyPost Tryd.prog Tryd.f40 _ Exit.ret _ _) | (simp only [Exit.noGoto])
      go_ret
      exact ⟨rfl, h2.below HB.out hr2, k2.next HB.out⟩
    have c := HC.out j hlt
    have j0 : (0 : Int) ≤ (j : Int) := by omega
    have j1 : (j : Int) < (a.length : Int) := by omega
    have hs : numV (a.take (j + 1)) = wrap64 (numV (a.take j) * 256) + ((a.getD j 0).toNat : Int) := by
      rw [List.take_succ_eq_append_getElem hlt, numV_snoc, List.getD_eq_getElem?_getD, List.getElem?_eq_getElem hlt]
      rfl
    have HS : Hid (numV (a.take (j + 1)) = wrap64 (numV (a.take j) * 256) + ((a.getD j 0).toNat : Int)) := hs
    have hbb := UInt8.toNat_lt (a.getD j 0)
    clear hs
    generalize numV (a.take j) = nn at HS ⊢
    generalize (a.getD j 0).toNat = bb at HS hbb c
    go_wp2
    exact ⟨⟨j + 1, by omega, by go_num, by rw [bits_or nn bb hbb, HS.out], trivial⟩, by simp [intOf]; omega⟩
theorem number_full (w : World) (rb : Nat) (a b : List UInt8) (bd : Bool) (hl : (a ++ b).length ≤ 9223372036854775807) (h : Box2 w rb (.string (str (a ++ b))) (.bool bd)) :
    Calls Tryd.prog 40 #[.pointer (some ⟨rb, 0, none⟩), .int .i64 (a.length : Int)] w fun e w' => e = .returned (.int .i64 (numV a)) ∧ Hid (Box2 w' rb (.string (str b)) (.bool bd) ∧ Kp (fun x => x = rb) w w') := by
  have hrl : rb < w.heap.size := block_lt_of_cell h.1.1
  refine number_core w _ rb a.length a (str b) bd (by rw [List.length_append] at hl; omega) (bytes_full w rb a b bd hl h) ?_ ((Kp.refl (fun x => x = rb) w).setCell (p := ⟨rb, 0, none⟩) (.inl rfl) _) (by rw [set_size]; exact hrl)
  refine ⟨⟨World.cell?_setCell_same' _ _ _ (by rw [h.1.1]; rfl), by rw [World.frozen?_setCell]; exact h.1.2⟩, ?_, by rw [World.frozen?_setCell]; exact h.2.2⟩
  rw [World.cell?_setCell_other _ _ _ _ (by simp)]
  exact h.2.1
theorem number_short (w : World) (rb : Nat) (s : ByteArray) (n : Nat) (bd : Bool) (hl : s.size < n) (h : Box2 w rb (.string s) (.bool bd)) :
    Calls Tryd.prog 40 #[.pointer (some ⟨rb, 0, none⟩), .int .i64 (n : Int)] w fun e w' => e = .returned (.int .i64 0) ∧ Hid (Box2 w' rb (.string s) (.bool true) ∧ Kp (fun x => x = rb) w w') := by
  have hrl : rb < w.heap.size := block_lt_of_cell h.1.1
  refine number_core w _ rb n [] s true (by simp) (bytes_short w rb s n bd hl h) ?_ ((Kp.refl (fun x => x = rb) w).setCell (p := ⟨rb, 1, none⟩) (.inl rfl) _) (by rw [set_size]; exact hrl)
  refine ⟨⟨?_, by rw [World.frozen?_setCell]; exact h.1.2⟩, World.cell?_setCell_same' _ _ _ (by rw [h.2.1]; rfl), by rw [World.frozen?_setCell]; exact h.2.2⟩
  rw [World.cell?_setCell_other _ _ _ _ (by simp)]
  exact h.1.1
end Go.Proofs.YtdcioemjmmhbhaaDoor
namespace Go.Proofs.YtdcioemjmmhbhaaDoor
open Go.RowKit

theorem byteOf_low {n m : Int} (e : n % 72057594037927936 = m % 72057594037927936) {a : Int} (h : a = 1 ∨ a = 256 ∨ a = 65536 ∨ a = 16777216 ∨ a = 4294967296 ∨ a = 1099511627776 ∨ a = 281474976710656) : byteOf (n / a) = byteOf (m / a) := by
  unfold byteOf
  rcases h with rfl | rfl | rfl | rfl | rfl | rfl | rfl <;> congr 2 <;> omega
theorem numB_low {n m : Int} (e : n % 72057594037927936 = m % 72057594037927936) : ∀ k, k ≤ 7 → numB n k = numB m k
  | 0, _ => rfl
  | k + 1, h => by
    rw [numB, numB, numB_low e k (by omega)]
    congr 1
    refine byteOf_low e ?_
    match k, h with
    | 0, _ => decide
    | 1, _ => decide
    | 2, _ => decide
    | 3, _ => decide
    | 4, _ => decide
    | 5, _ => decide
    | 6, _ => decide
theorem byteOf_of (x : Int) (b : UInt8) (h : x % 256 = (b.toNat : Int)) : byteOf x = b := by
  apply UInt8.toNat_inj.1
  have := byteOf_nat x
  omega
/-- What was read is written as it was. -/
theorem numB_numV : ∀ k (l : List UInt8), l.length = k → k ≤ 8 → numB (numV l) k = l
  | 0, l, h, _ => by rw [List.length_eq_zero_iff.1 h]; rfl
  | k + 1, l, h, hk => by
    obtain ⟨i, b, rfl⟩ : ∃ i b, l = i ++ [b] := ⟨l.dropLast, l.getLast (by intro e; simp [e] at h), (List.dropLast_concat_getLast _).symm⟩
    have hi : i.length = k := by simpa using h
    have ih := numB_numV k i hi (by omega)
    have hb := b.toNat_lt
    rw [numB_snoc, numV_snoc]
    have e1 : byteOf (wrap64 (numV i * 256) + (b.toNat : Int)) = b := byteOf_of _ _ (by unfold wrap64; omega)
    rw [e1]
    congr 1
    refine Eq.trans (numB_low (m := numV i) ?_ k (by omega)) ih
    unfold wrap64
    omega
end Go.Proofs.YtdcioemjmmhbhaaDoor
namespace Go.Proofs.YtdcioemjmmhbhaaDoor
open Go.RowKit

theorem str_all (s : ByteArray) : str s.data.toList = s := by simp [str]
theorem cut_at (s : ByteArray) (n : Nat) (h : n ≤ s.size) : ∃ a b : List UInt8, s = str (a ++ b) ∧ a.length = n := by
  refine ⟨s.data.toList.take n, s.data.toList.drop n, by rw [List.take_append_drop, str_all], ?_⟩
  have : s.data.toList.length = s.size := by rw [← Lib.size_eq]
  rw [List.length_take]
  omega
/-- Bytes of any rest: what was read and what is left, or the mark. -/
theorem bytes_gen (w : World) (rb n : Nat) (s : ByteArray) (bd : Bool) (hs : s.size ≤ 9223372036854775807) (h : Box2 w rb (.string s) (.bool bd)) :
    Calls Tryd.prog 54 #[.pointer (some ⟨rb, 0, none⟩), .int .i64 (n : Int)] w fun e w' => ∃ (t s' : ByteArray) (fl : Bool), e = .returned (.string t) ∧ Hid (Box2 w' rb (.string s') (.bool fl) ∧ Kp (fun x => x = rb) w w' ∧ s'.size ≤ s.size ∧ t.size ≤ s.size ∧ (fl = false → bd = false ∧ ∃ a b : List UInt8, s = str (a ++ b) ∧ s' = str b ∧ t = str a ∧ a.length = n)) := by
  by_cases hn : n ≤ s.size
  · obtain ⟨a, b, rfl, rfl⟩ := cut_at s n hn
    rw [str_size] at hs
    refine (bytes_full w rb a b bd hs h).mono fun e w' ⟨e1, e2⟩ => ⟨str a, str b, bd, e1, ?_⟩
    subst e2
    refine ⟨⟨⟨World.cell?_setCell_same' _ _ _ (by rw [h.1.1]; rfl), by rw [World.frozen?_setCell]; exact h.1.2⟩, ?_, by rw [World.frozen?_setCell]; exact h.2.2⟩, (Kp.refl (fun x => x = rb) w).setCell (p := ⟨rb, 0, none⟩) (.inl rfl) _, by rw [str_size, str_size, List.length_append]; omega, by rw [str_size, str_size, List.length_append]; omega, fun q => ⟨q, a, b, rfl, rfl, rfl, rfl⟩⟩
    rw [World.cell?_setCell_other _ _ _ _ (by simp)]
    exact h.2.1
  · refine (bytes_short w rb s n bd (by omega) h).mono fun e w' ⟨e1, e2⟩ => ⟨⟨#[]⟩, s, true, e1, ?_⟩
    subst e2
    refine ⟨⟨⟨?_, by rw [World.frozen?_setCell]; exact h.1.2⟩, World.cell?_setCell_same' _ _ _ (by rw [h.2.1]; rfl), by rw [World.frozen?_setCell]; exact h.2.2⟩, (Kp.refl (fun x => x = rb) w).setCell (p := ⟨rb, 1, none⟩) (.inl rfl) _, Nat.le_refl _, Nat.zero_le _, fun q => by cases q⟩
    rw [World.cell?_setCell_other _ _ _ _ (by simp)]
    exact h.1.1
/-- A number of any rest: it is written as the bytes that were read, or there is the mark. -/
theorem number_gen (w : World) (rb n : Nat) (s : ByteArray) (bd : Bool) (hs : s.size ≤ 9223372036854775807) (hn8 : n ≤ 8) (h : Box2 w rb (.string s) (.bool bd)) :
    Calls Tryd.prog 40 #[.pointer (some ⟨rb, 0, none⟩), .int .i64 (n : Int)] w fun e w' => ∃ (m : Int) (s' : ByteArray) (fl : Bool), e = .returned (.int .i64 m) ∧ Hid (Box2 w' rb (.string s') (.bool fl) ∧ Kp (fun x => x = rb) w w' ∧ s'.size ≤ s.size ∧ (∃ a : List UInt8, m = numV a ∧ a.length ≤ n) ∧ (fl = false → bd = false ∧ ∃ b : List UInt8, s = str (numB m n ++ b) ∧ s' = str b)) := by
  by_cases hn : n ≤ s.size
  · obtain ⟨a, b, rfl, rfl⟩ := cut_at s n hn
    rw [str_size] at hs
    refine (number_full w rb a b bd hs h).mono fun e w' ⟨e1, e2⟩ => ⟨numV a, str b, bd, e1, ?_⟩
    exact ⟨e2.out.1, e2.out.2, by rw [str_size, str_size, List.length_append]; omega, ⟨a, rfl, Nat.le_refl _⟩, fun q => ⟨q, b, by rw [numB_numV a.length a rfl hn8], rfl⟩⟩
  · refine (number_short w rb s n bd (by omega) h).mono fun e w' ⟨e1, e2⟩ => ⟨0, s, true, e1, ?_⟩
    exact ⟨e2.out.1, e2.out.2, Nat.le_refl _, ⟨[], rfl, Nat.zero_le _⟩, fun q => by cases q⟩
end Go.Proofs.YtdcioemjmmhbhaaDoor
namespace Go.Proofs.YtdcioemjmmhbhaaDoor
open Go.RowKit

theorem wrap_small (p : Nat) (h : p ≤ 255) : wrap64 ((p : Int) * 256) = (p : Int) * 256 := by unfold wrap64; omega
theorem numV_two (a : List UInt8) (h : a.length ≤ 2) : 0 ≤ numV a ∧ numV a ≤ 65535 := by
  have e1 : ∀ x : UInt8, numV [x] = (x.toNat : Int) := fun x => by
    have := numV_snoc [] x
    rw [List.nil_append] at this
    rw [this, show numV [] = 0 from rfl, show wrap64 (0 * 256) = 0 by unfold wrap64; omega, Int.zero_add]
  match a, h with
  | [], _ => exact ⟨Int.le_refl _, show (0 : Int) ≤ 65535 by decide⟩
  | [x], _ =>
    have := x.toNat_lt
    rw [e1]
    omega
  | [x, y], _ =>
    have hx := x.toNat_lt
    have hy := y.toNat_lt
    have := numV_snoc [x] y
    rw [List.singleton_append, e1, wrap_small _ (by omega)] at this
    rw [this]
    omega
theorem numV_range (a : List UInt8) : inR (numV a) := by
  rcases List.eq_nil_or_concat a with rfl | ⟨i, b, rfl⟩
  · exact ⟨by decide, by decide⟩
  · have hb := b.toNat_lt
    rw [List.concat_eq_append, numV_snoc]
    unfold inR wrap64
    omega
/-- What the reader makes of any rest: an element that is written as the bytes that were read, or the mark. -/
def Elm (w w' : World) (rb : Nat) (k n : Int) (t s : ByteArray) (bd : Bool) : Prop := ∃ (s' : ByteArray) (fl : Bool), Box2 w' rb (.string s') (.bool fl) ∧ Kp (fun x => x = rb) w w' ∧ s'.size ≤ s.size ∧ (inR n ∧ t.size ≤ 281474976710656) ∧ (fl = false → bd = false ∧ ∃ b : List UInt8, s = str (elB (k, n, t) ++ b) ∧ s' = str b)

set_option maxRecDepth 100000 in
set_option maxHeartbeats 4000000 in
theorem element_gen (w : World) (rb : Nat) (k : Int) (s : ByteArray) (bd : Bool) (hs : s.size ≤ 281474976710656) (h : Box2 w rb (.string s) (.bool bd)) :
    Calls Tryd.prog 55 #[.pointer (some ⟨rb, 0, none⟩), .int .i64 k] w fun e w' => ∃ (n : Int) (t : ByteArray), e = .returned (.agg #[.int .i64 k, .int .i64 n, .string t]) ∧ Hid (Elm w w' rb k n t s bd) := by
  have hrl : rb < w.heap.size := block_lt_of_cell h.1.1
  have B0 : Below w.heap.size w ((w.alloc (.cells #[.int .i64 0, .int .i64 0, .string e0] 37)).alloc (.cells #[.int .i64 k, .int .i64 0, .string e0] 37)) := ((Below.refl _ w).alloc (Nat.le_refl _) _).alloc (by simp) _
  have b4 := (Box3.new w 0 0 e0 37).alloc (.cells #[.int .i64 k, .int .i64 0, .string e0] 37)
  have b5 := Box3.new (w.alloc (.cells #[.int .i64 0, .int .i64 0, .string e0] 37)) k 0 e0 37
  rw [World.size_alloc] at b5
  have z0 : w.heap.size + 1 < ((w.alloc (.cells #[.int .i64 0, .int .i64 0, .string e0] 37)).alloc (.cells #[.int .i64 k, .int .i64 0, .string e0] 37)).heap.size := by simp
  have HFIN : Hid (∀ (W : World) (n : Int) (t s' : ByteArray) (fl : Bool), Kp (fun x => x = rb) w W → Box2 W rb (.string s') (.bool fl) → Box3 W w.heap.size 0 0 e0 → s'.size ≤ s.size → inR n ∧ t.size ≤ 281474976710656 → (fl = false → bd = false ∧ ∃ b : List UInt8, s = str (elB (k, n, t) ++ b) ∧ s' = str b) → Box3 (put3 W w.heap.size k n t) w.heap.size k n t ∧ Hid (Elm w (put3 W w.heap.size k n t) rb k n t s bd)) := fun W n t s' fl hk hb h4 hz hn hf =>
    ⟨h4.put k n t, s', fl, hb.same (put3_heap (by omega)), kp_put3 hk (.inr (Nat.le_refl _)) _ _ _, hz, hn, hf⟩
  by_cases h2 : k = 2
  · subst h2
    go_enter Tryd.func55, Tryd.ntmps55
    go_wp2_with fail
    generalize (w.alloc (.cells #[.int .i64 0, .int .i64 0, .string e0] 37)).alloc (.cells #[.int .i64 2, .int .i64 0, .string e0] 37) = X at B0 b4 b5 z0 ⊢
    refine (number_gen X rb 1 s bd (by omega) (by omega) (h.below B0 hrl)).mono ?_
    rintro e w1 ⟨m, s', fl, rfl, hq⟩
    obtain ⟨q1, q2, q3, ⟨a9, ha9, -⟩, q5⟩ := hq.out
    have HIN : Hid (inR m) := by show inR m; rw [ha9]; exact numV_range a9
    clear ha9
    have HEL : Hid (fl = false → bd = false ∧ ∃ b : List UInt8, s = str (elB (2, m, e0) ++ b) ∧ s' = str b) := by
      have he : elB (2, m, e0) = numB m 1 := by unfold elB; rw [if_pos rfl]; simp [numB]
      rw [he]; exact q5
    have c4 := b4.same (q2.block _ (by omega) (by omega))
    have c5 := b5.same (q2.block _ z0 (by omega))
    have KP : Kp (fun x => x = rb) w w1 := (Kp.of B0).trans q2 (fun _ _ q => q)
    clear b4 b5 hq q5
    obtain ⟨⟨⟨x0, f0⟩, ⟨x1, f1⟩⟩, x2, f2⟩ := id c4
    obtain ⟨⟨⟨y0, g0⟩, ⟨y1, g1⟩⟩, y2, g2⟩ := id c5
    have c4' := c4.set ⟨w.heap.size + 1, 1, none⟩ (.int .i64 m) (by show w.heap.size + 1 ≠ w.heap.size; omega)
    have k4' := KP.setCell (p := ⟨w.heap.size + 1, 1, none⟩) (.inr (Nat.le_succ _)) (.int .i64 m)
    have r4' : Box2 (w1.setCell ⟨w.heap.size + 1, 1, none⟩ (.int .i64 m)) rb (.string s') (.bool fl) := q1.same (set_heap (a := ⟨w.heap.size + 1, 1, none⟩) (by show rb ≠ w.heap.size + 1; omega))
    go_wp2
    change bodyPost Tryd.prog _ _ _ _ (put3 (w1.setCell ⟨w.heap.size + 1, 1, none⟩ (.int .i64 m)) w.heap.size _ _ _)
    obtain ⟨p, r⟩ := HFIN.out _ m e0 s' fl k4' r4' c4' q3 ⟨HIN.out, Nat.zero_le _⟩ HEL.out
    obtain ⟨⟨⟨p0, -⟩, ⟨p1, -⟩⟩, p2, -⟩ := p
    exact bodyPost_ret (v := .agg #[.int .i64 2, .int .i64 m, .string e0]) (by simp [results, Tryd.results55, go_sem, p0, p1, p2]) rfl ⟨m, e0, rfl, r⟩
  have h2' : (k == 2) = false := by simpa using h2
  by_cases h3 : k = 3
  · subst h3
    go_enter Tryd.func55, Tryd.ntmps55
    go_wp2_with fail
    generalize (w.alloc (.cells #[.int .i64 0, .int .i64 0, .string e0] 37)).alloc (.cells #[.int .i64 3, .int .i64 0, .string e0] 37) = X at B0 b4 b5 z0 ⊢
    refine (number_gen X rb 2 s bd (by omega) (by omega) (h.below B0 hrl)).mono ?_
    rintro e w1 ⟨m, s1, f1, rfl, hq⟩
    obtain ⟨q1, q2, q3, ⟨a2, ha2, ha2'⟩, q5⟩ := hq.out
    obtain ⟨m0, m1⟩ := numV_two a2 ha2'
    rw [← ha2] at m0 m1
    obtain ⟨mn, rfl⟩ : ∃ mn : Nat, m = (mn : Int) := ⟨m.toNat, by omega⟩
    have HQ5 : Hid (f1 = false → bd = false ∧ ∃ b : List UInt8, s = str (numB (mn : Int) 2 ++ b) ∧ s1 = str b) := q5
    have e4 := b4.same (q2.block _ (by omega) (by omega))
    have e5 := b5.same (q2.block _ z0 (by omega))
    have k1 : Kp (fun x => x = rb) w w1 := (Kp.of B0).trans q2 (fun _ _ q => q)
    have z1 : w.heap.size + 1 < w1.heap.size := by have := q2.size; omega
    have hby := bytes_gen w1 rb mn s1 f1 (by omega) q1
    clear b4 b5 hq q5 ha2 ha2' q2
    go_wp2_with fail
    refine hby.mono ?_
    rintro e W2 ⟨t, s2, f2, rfl, hq⟩
    obtain ⟨r1, k2, r3, r4, r5⟩ := hq.out
    have hr2 : rb < W2.heap.size := block_lt_of_cell r1.1.1
    have d4 := e4.same (k2.block _ (by omega) (by omega))
    have d5 := e5.same (k2.block _ z1 (by omega))
    have z2 : w.heap.size + 1 < W2.heap.size := by have := k2.size; omega
    have k3 : Kp (fun x => x = rb) w W2 := k1.trans k2 (fun _ _ q => q)
    have HEL : Hid (f2 = false → bd = false ∧ ∃ b : List UInt8, s = str (elB (3, 0, t) ++ b) ∧ s2 = str b) := fun q => by
      obtain ⟨g1, a, b, g2, g3, g4, g5⟩ := r5 q
      obtain ⟨g6, b', g7, g8⟩ := HQ5.out g1
      refine ⟨g6, b, ?_, g3⟩
      have hb' : b' = a ++ b := by
        have := congrArg (fun x : ByteArray => x.data.toList) (g8.symm.trans g2)
        simpa [str] using this
      have he : elB (3, 0, t) = numB (mn : Int) 2 ++ a := by
        unfold elB
        rw [if_neg (show ¬ (3 : Int) = 2 by decide), if_pos rfl]
        show numB ((t.size : Nat) : Int) 2 ++ t.data.toList = _
        rw [g4, str_size, str_data, g5]
      rw [he, g7, hb', List.append_assoc]
    clear hby hq r5 e4 e5 k1 k2
    go_wp2_with fail
    refine (clone_any t W2 (by omega)).mono ?_
    rintro e w3 ⟨rfl, hb3⟩
    have c4 := d4.below hb3 (by omega)
    have c5 := d5.below hb3 z2
    have r3' := r1.below hb3 hr2
    have KP := k3.next hb3
    obtain ⟨⟨⟨x0, f0⟩, ⟨x1, fx1⟩⟩, x2, fx2⟩ := id c4
    obtain ⟨⟨⟨y0, g0⟩, ⟨y1, g1⟩⟩, y2, g2⟩ := id c5
    have c4' := c4.set ⟨w.heap.size + 1, 2, none⟩ (.string t) (by show w.heap.size + 1 ≠ w.heap.size; omega)
    have k4' := KP.setCell (p := ⟨w.heap.size + 1, 2, none⟩) (.inr (Nat.le_succ _)) (.string t)
    have r4' : Box2 (w3.setCell ⟨w.heap.size + 1, 2, none⟩ (.string t)) rb (.string s2) (.bool f2) := r3'.same (set_heap (a := ⟨w.heap.size + 1, 2, none⟩) (by show rb ≠ w.heap.size + 1; omega))
    go_wp2
    change bodyPost Tryd.prog _ _ _ _ (put3 (w3.setCell ⟨w.heap.size + 1, 2, none⟩ (.string t)) w.heap.size _ _ _)
    obtain ⟨p, r⟩ := HFIN.out _ 0 t s2 f2 k4' r4' c4' (by omega) ⟨⟨by decide, by decide⟩, by omega⟩ HEL.out
    obtain ⟨⟨⟨p0, -⟩, ⟨p1, -⟩⟩, p2, -⟩ := p
    exact bodyPost_ret (v := .agg #[.int .i64 3, .int .i64 0, .string t]) (by simp [results, Tryd.results55, go_sem, p0, p1, p2]) rfl ⟨0, t, rfl, r⟩
  have h3' : (k == 3) = false := by simpa using h3
  go_enter Tryd.func55, Tryd.ntmps55
  go_wp2_with fail
  generalize (w.alloc (.cells #[.int .i64 0, .int .i64 0, .string e0] 37)).alloc (.cells #[.int .i64 k, .int .i64 0, .string e0] 37) = X at B0 b4 b5 z0 ⊢
  refine (number_gen X rb 8 s bd (by omega) (by omega) (h.below B0 hrl)).mono ?_
  rintro e w1 ⟨m, s', fl, rfl, hq⟩
  obtain ⟨q1, q2, q3, ⟨a9, ha9, -⟩, q5⟩ := hq.out
  have HIN : Hid (inR m) := by show inR m; rw [ha9]; exact numV_range a9
  clear ha9
  have HEL : Hid (fl = false → bd = false ∧ ∃ b : List UInt8, s = str (elB (k, m, e0) ++ b) ∧ s' = str b) := by
    have he : elB (k, m, e0) = numB m 8 := by unfold elB; rw [if_neg h2, if_neg h3]
    rw [he]; exact q5
  have c4 := b4.same (q2.block _ (by omega) (by omega))
  have c5 := b5.same (q2.block _ z0 (by omega))
  have KP : Kp (fun x => x = rb) w w1 := (Kp.of B0).trans q2 (fun _ _ q => q)
  clear b4 b5 hq q5
  obtain ⟨⟨⟨x0, f0⟩, ⟨x1, f1⟩⟩, x2, f2⟩ := id c4
  obtain ⟨⟨⟨y0, g0⟩, ⟨y1, g1⟩⟩, y2, g2⟩ := id c5
  have c4' := c4.set ⟨w.heap.size + 1, 1, none⟩ (.int .i64 m) (by show w.heap.size + 1 ≠ w.heap.size; omega)
  have k4' := KP.setCell (p := ⟨w.heap.size + 1, 1, none⟩) (.inr (Nat.le_succ _)) (.int .i64 m)
  have r4' : Box2 (w1.setCell ⟨w.heap.size + 1, 1, none⟩ (.int .i64 m)) rb (.string s') (.bool fl) := q1.same (set_heap (a := ⟨w.heap.size + 1, 1, none⟩) (by show rb ≠ w.heap.size + 1; omega))
  go_wp2
  change bodyPost Tryd.prog _ _ _ _ (put3 (w1.setCell ⟨w.heap.size + 1, 1, none⟩ (.int .i64 m)) w.heap.size _ _ _)
  obtain ⟨p, r⟩ := HFIN.out _ m e0 s' fl k4' r4' c4' q3 ⟨HIN.out, Nat.zero_le _⟩ HEL.out
  obtain ⟨⟨⟨p0, -⟩, ⟨p1, -⟩⟩, p2, -⟩ := p
  exact bodyPost_ret (v := .agg #[.int .i64 k, .int .i64 m, .string e0]) (by simp [results, Tryd.results55, go_sem, p0, p1, p2]) rfl ⟨m, e0, rfl, r⟩
end Go.Proofs.YtdcioemjmmhbhaaDoor
