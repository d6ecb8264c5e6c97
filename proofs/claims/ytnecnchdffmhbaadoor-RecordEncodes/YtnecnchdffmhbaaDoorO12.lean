import Derived.Test.YtnecnchdffmhbaaDoorO09
import Derived.Test.YtnecnchdffmhbaaDoorO11
import Derived.Test.YtnecnchdffmhbaaDoorO01
namespace Go.Proofs.YtnecnchdffmhbaaDoor
open Go.RowKit

theorem sl_to {s x : ByteArray} {k : Nat} (hk : k ≤ s.size) (hx : x.data.toList = s.data.toList.take k) : ∀ wx : World, (Instr.slice 9 (.string s) none (some (.int .i64 (k : Int))) none).run Tryd.prog wx = .ok (.string x) wx := fun wx => by
  have h1 : (0 : Int) ≤ (k : Int) := by omega
  have h2 : (k : Int) ≤ (s.size : Int) := by omega
  have e : s.extract 0 k = x := by
    have h3 : (s.extract 0 k).data.toList = x.data.toList := by rw [Lib.extract_data, hx]; simp
    cases x with | mk d => cases hs : s.extract 0 k with | mk d2 => rw [hs] at h3; simp at h3; rw [h3]
  rw [← e]
  simp [go_sem, h1, h2]
theorem sl_from {s x : ByteArray} {k : Nat} (hk : k ≤ s.size) (hx : x.data.toList = s.data.toList.drop k) : ∀ wx : World, (Instr.slice 9 (.string s) (some (.int .i64 (k : Int))) none none).run Tryd.prog wx = .ok (.string x) wx := fun wx => by
  have h1 : (0 : Int) ≤ (k : Int) := by omega
  have h2 : (k : Int) ≤ (s.size : Int) := by omega
  have hsz := Lib.size_eq s
  have e : s.extract k s.size = x := by
    have h3 : (s.extract k s.size).data.toList = x.data.toList := by rw [Lib.extract_data, hx, List.take_of_length_le (by rw [List.length_drop]; omega)]
    cases x with | mk d => cases hs : s.extract k s.size with | mk d2 => rw [hs] at h3; simp at h3; rw [h3]
  rw [← e]
  simp [go_sem, h1, h2]
/-- The same with a number of the program's own as a bound. -/
theorem sl_toU {s x : ByteArray} {k : Nat} (hk : k ≤ s.size) (hx : x.data.toList = s.data.toList.take k) : ∀ wx : World, (Instr.slice 9 (.string s) none (some (.int .u64 (k : Int))) none).run Tryd.prog wx = .ok (.string x) wx := fun wx => by
  have h1 : (0 : Int) ≤ (k : Int) := by omega
  have h2 : (k : Int) ≤ (s.size : Int) := by omega
  have e : s.extract 0 k = x := by
    have h3 : (s.extract 0 k).data.toList = x.data.toList := by rw [Lib.extract_data, hx]; simp
    cases x with | mk d => cases hs : s.extract 0 k with | mk d2 => rw [hs] at h3; simp at h3; rw [h3]
  rw [← e]
  simp [go_sem, h1, h2]
theorem sl_fromU {s x : ByteArray} {k : Nat} (hk : k ≤ s.size) (hx : x.data.toList = s.data.toList.drop k) : ∀ wx : World, (Instr.slice 9 (.string s) (some (.int .u64 (k : Int))) none none).run Tryd.prog wx = .ok (.string x) wx := fun wx => by
  have h1 : (0 : Int) ≤ (k : Int) := by omega
  have h2 : (k : Int) ≤ (s.size : Int) := by omega
  have hsz := Lib.size_eq s
  have e : s.extract k s.size = x := by
    have h3 : (s.extract k s.size).data.toList = x.data.toList := by rw [Lib.extract_data, hx, List.take_of_length_le (by rw [List.length_drop]; omega)]
    cases x with | mk d => cases hs : s.extract k s.size with | mk d2 => rw [hs] at h3; simp at h3; rw [h3]
  rw [← e]
  simp [go_sem, h1, h2]
/-- Blocks of other kinds than the reader's are as they were. -/
def OthR (W W' : World) : Prop := ∀ g t vs, Full W g t vs → t ≠ 9 → t ≠ 130 → Full W' g t vs
theorem OthR.refl (W : World) : OthR W W := fun _ _ _ h _ _ => h
theorem OthR.trans {a b c : World} (h : OthR a b) (k : OthR b c) : OthR a c := fun g t vs f h1 h2 => k g t vs (h g t vs f h1 h2) h1 h2
theorem OthR.of {a b : World} (h : Below a.heap.size a b) : OthR a b := fun _ _ _ f _ _ => f.next h
/-- The reader in memory. -/
structure Rdr (B : Nat) (W : World) (P : Nat) (s : Rd) (nv : Value) : Prop where
  low : B ≤ P
  box : Full W P 130 [.int .i64 s.nd, nv, sV s.r]
  names : W.ownsRow B 9 1 nv s.ns.length (s.ns.map sV)
theorem Rdr.next {B : Nat} {W W' : World} {P : Nat} {s : Rd} {nv : Value} (h : Rdr B W P s nv) (k : Below W.heap.size W W') : Rdr B W' P s nv := ⟨h.low, h.box.next k, own_next h.names k⟩
theorem Rdr.size {B : Nat} {W : World} {P : Nat} {s : Rd} {nv : Value} (h : Rdr B W P s nv) : B ≤ W.heap.size := Nat.le_of_lt (Nat.lt_of_le_of_lt h.low h.box.lt)
def RdS (B : Nat) (W : World) (P : Nat) (s : Rd) : Prop := ∃ nv, Rdr B W P s nv
theorem RdS.next {B : Nat} {W W' : World} {P : Nat} {s : Rd} (h : RdS B W P s) (k : Below W.heap.size W W') : RdS B W' P s := by
  obtain ⟨nv, h⟩ := h
  exact ⟨nv, h.next k⟩
theorem RdS.size {B : Nat} {W : World} {P : Nat} {s : Rd} (h : RdS B W P s) : B ≤ W.heap.size := by
  obtain ⟨nv, h⟩ := h
  exact h.size
/-- What is known of a reader behind a call. -/
def RdQ (B : Nat) (W : World) (P : Nat) (s : Rd) (W' : World) : Prop := Hid (RdS B W' P s ∧ Below B W W' ∧ OthR W W')
theorem RdQ.of {B : Nat} {W W' : World} {P : Nat} {s : Rd} (h : RdS B W P s) (k : Below W.heap.size W W') : RdQ B W P s W' := ⟨h.next k, k.mono h.size, OthR.of k⟩
theorem RdQ.trans {B : Nat} {a b c : World} {P : Nat} {s s' : Rd} (h : RdQ B a P s b) (k : RdQ B b P s' c) : RdQ B a P s' c := ⟨k.out.1, h.out.2.1.trans k.out.2.1, h.out.2.2.trans k.out.2.2⟩
/-- Another rest. -/
theorem RdS.rest {B : Nat} {W : World} {P : Nat} {s : Rd} (h : RdS B W P s) (r : List UInt8) : RdQ B W P ⟨s.nd, s.ns, r⟩ (W.setCell ⟨P, 2, none⟩ (sV r)) := by
  obtain ⟨nv, h⟩ := h
  exact ⟨⟨nv, h.low, Full.put1 (a := [.int .i64 s.nd, nv]) (d := []) h.box (sV r), own_oth h.names h.box (by decide) 2 _⟩, (Below.refl B W).setCell (p := ⟨P, 2, none⟩) h.low _, fun _ _ _ f _ h3 => f.other1 (f.ne h.box h3)⟩
/-- Another node. -/
theorem RdS.node {B : Nat} {W : World} {P : Nat} {s : Rd} (h : RdS B W P s) (n : Int) : RdQ B W P ⟨n, s.ns, s.r⟩ (W.setCell ⟨P, 0, none⟩ (.int .i64 n)) := by
  obtain ⟨nv, h⟩ := h
  exact ⟨⟨nv, h.low, Full.put1 (a := []) (d := [nv, sV s.r]) h.box (.int .i64 n), own_oth h.names h.box (by decide) 0 _⟩, (Below.refl B W).setCell (p := ⟨P, 0, none⟩) h.low _, fun _ _ _ f _ h3 => f.other1 (f.ne h.box h3)⟩
theorem RdS.cells {B : Nat} {W : World} {P : Nat} {s : Rd} (h : RdS B W P s) : ∃ q cap, (W.cell? ⟨P, 0, none⟩ = some (.int .i64 s.nd) ∧ W.frozen? ⟨P, 0, none⟩ = false) ∧ (W.cell? ⟨P, 1, none⟩ = some (.slice q s.ns.length cap) ∧ W.frozen? ⟨P, 1, none⟩ = false) ∧ W.cell? ⟨P, 2, none⟩ = some (sV s.r) ∧ W.frozen? ⟨P, 2, none⟩ = false ∧ Row W W.heap.size q s.ns.length (s.ns.map sV) := by
  obtain ⟨nv, h⟩ := h
  obtain ⟨q, cap, rfl, -, -⟩ := own_slice h.names
  obtain ⟨h0, h1, h2⟩ := h.box.three
  exact ⟨q, cap, h0, h1, h2.1, h2.2, row_of_own h.names⟩
section
variable {B : Nat} {W : World} {P : Nat} {s : Rd}
set_option maxRecDepth 100000 in
theorem rbyte (h : RdS B W P s) (hz : s.r.length ≤ 140737488355328) :
    Calls Tryd.prog 66 #[.pointer (some ⟨P, 0, none⟩)] W fun e w' => e = .returned (.int .u8 ((byteR s.r).1.toNat : Int)) ∧ RdQ B W P ⟨s.nd, s.ns, (byteR s.r).2⟩ w' := by
  obtain ⟨nd, ns, r⟩ := s
  obtain ⟨q, cap, ⟨c0, f0⟩, ⟨c1, f1⟩, c2, f2, -⟩ := h.cells
  cases r with
  | nil =>
    have HQ : RdQ B W P ⟨nd, ns, (byteR []).2⟩ W := RdQ.of h (Below.refl _ _)
    change W.cell? ⟨P, 2, none⟩ = some (.string ⟨#[]⟩) at c2
    have hem : (⟨#[]⟩ : ByteArray).toList.isEmpty = true := by rw [toL]; rfl
    clear h
    go_enter Tryd.func66, Tryd.ntmps66
    go_wp2_with fail
    go_ret
    exact ⟨rfl, HQ⟩
  | cons b r =>
    obtain ⟨sb, hsb⟩ : ∃ x : ByteArray, x.data.toList = b :: r := ⟨⟨(b :: r).toArray⟩, rfl⟩
    obtain ⟨tb, htb⟩ : ∃ x : ByteArray, x.data.toList = r := ⟨⟨r.toArray⟩, rfl⟩
    rw [show sV (⟨nd, ns, b :: r⟩ : Rd).r = .string sb from sV_at hsb] at c2
    have hsz : sb.size = r.length + 1 := by rw [Lib.size_eq, hsb]; rfl
    have R1 : ∀ wx : World, (Instr.slice 9 (.string sb) (some (.int .i64 1)) none none).run Tryd.prog wx = .ok (.string tb) wx := sl_from (s := sb) (x := tb) (k := 1) (by omega) (by rw [hsb, htb]; rfl)
    have HQ : RdQ B W P ⟨nd, ns, r⟩ (W.setCell ⟨P, 2, none⟩ (.string tb)) := by
      have := h.rest r
      rw [sV_at htb] at this
      exact this
    have hne : (sb.toList == (⟨#[]⟩ : ByteArray).toList) = false := by rw [toL, toL, hsb]; rfl
    have hem : sb.toList.isEmpty = false := by rw [toL, hsb]; rfl
    have hlt : 0 < sb.size := by omega
    obtain ⟨c, hc⟩ : ∃ c, sb[0]'hlt = c := ⟨_, rfl⟩
    have hcb : c = b := by
      have e : sb.data.toList[0]? = some b := by rw [hsb]; rfl
      rw [List.getElem?_eq_getElem (by rw [hsb]; simp)] at e
      rw [← hc]
      exact Option.some.inj e
    have HV : Hid (c.toNat = (byteR (b :: r)).1.toNat) := by rw [hcb]; rfl
    have qlt : (0 : Int) < (sb.size : Int) := by omega
    have hct := UInt8.toNat_lt c
    clear h hsb htb hcb hsz hz
    go_enter Tryd.func66, Tryd.ntmps66
    go_wp2_with fail
    go_ret
    exact ⟨congrArg (fun x : Nat => Ending.returned (.int .u8 (x : Int))) HV.out, HQ⟩
set_option maxRecDepth 100000 in
theorem rbytes (h : RdS B W P s) (n : Nat) (hn : n < 18446744073709551616) (hz : s.r.length ≤ 140737488355328) :
    Calls Tryd.prog 72 #[.pointer (some ⟨P, 0, none⟩), .int .u64 (n : Int)] W fun e w' => e = .returned (sV (s.r.take n)) ∧ RdQ B W P ⟨s.nd, s.ns, s.r.drop n⟩ w' := by
  obtain ⟨nd, ns, r⟩ := s
  obtain ⟨q, cap, ⟨c0, f0⟩, ⟨c1, f1⟩, c2, f2, -⟩ := h.cells
  simp only at hz ⊢
  obtain ⟨sb, hsb⟩ : ∃ x : ByteArray, x.data.toList = r := ⟨⟨r.toArray⟩, rfl⟩
  rw [show sV (⟨nd, ns, r⟩ : Rd).r = .string sb from sV_at hsb] at c2
  have hsz : sb.size = r.length := by rw [Lib.size_eq, hsb]
  have hk : (min (n : Int) (sb.size : Int)).toNat = min n sb.size := by omega
  have hta : (sb.extract 0 (min (n : Int) (sb.size : Int)).toNat).data.toList = r.take n := by
    rw [Lib.extract_data, hk, hsb, List.drop_zero, Nat.sub_zero, hsz]
    by_cases hle : n ≤ r.length
    · rw [Nat.min_eq_left hle]
    · rw [Nat.min_eq_right (by omega), List.take_of_length_le (Nat.le_refl _), List.take_of_length_le (by omega)]
  have htb : (sb.extract (min (n : Int) (sb.size : Int)).toNat sb.size).data.toList = r.drop n := by
    rw [Lib.extract_data, hk, hsb, hsz]
    by_cases hle : n ≤ r.length
    · rw [Nat.min_eq_left hle, List.take_of_length_le (by rw [List.length_drop]; omega)]
    · rw [Nat.min_eq_right (by omega), List.drop_of_length_le (Nat.le_refl _), List.drop_of_length_le (by omega), List.take_nil]
  have HQ : RdQ B W P ⟨nd, ns, r.drop n⟩ (W.setCell ⟨P, 2, none⟩ (.string (sb.extract (min (n : Int) (sb.size : Int)).toNat sb.size))) := by
    have := h.rest (r.drop n)
    rw [sV_at htb] at this
    exact this
  rw [show sV (r.take n) = .string (sb.extract 0 (min (n : Int) (sb.size : Int)).toNat) from sV_at hta]
  have qs : (sb.size : Int) < 18446744073709551616 := by omega
  have qz : (0 : Int) ≤ (n : Int) := by omega
  clear h hsb hta htb hsz hz hk
  go_enter Tryd.func72, Tryd.ntmps72
  go_wp2_with fail
  go_ret
  exact ⟨rfl, HQ⟩
theorem numR_step (k sh acc : Nat) (r : List UInt8) : numR (k + 1) sh acc r = if (byteR r).1.toNat < 128 then (acc + (byteR r).1.toNat % 128 * 2 ^ sh % 18446744073709551616, (byteR r).2) else numR k (sh + 7) (acc + (byteR r).1.toNat % 128 * 2 ^ sh % 18446744073709551616) (byteR r).2 := by
  cases r with
  | nil => simp [numR, byteR]
  | cons b r => rfl
set_option maxRecDepth 100000 in
set_option maxHeartbeats 4000000 in
theorem rnumber (h : RdS B W P s) (hz : s.r.length ≤ 140737488355328) :
    Calls Tryd.prog 73 #[.pointer (some ⟨P, 0, none⟩)] W fun e w' => e = .returned (.int .u64 ((nR s.r).1 : Int)) ∧ RdQ B W P ⟨s.nd, s.ns, (nR s.r).2⟩ w' := by
  have HS : Hid (s.r.length ≤ 140737488355328) := hz
  have HQ0 : RdQ B W P s W := RdQ.of h (Below.refl _ _)
  obtain ⟨RV, HRV⟩ : ∃ RV, Hid (nR s.r = RV) := ⟨_, (rfl : nR s.r = _)⟩
  rw [HRV.out]
  clear h hz
  go_enter Tryd.func73, Tryd.ntmps73
  go_wp2_with fail
  go_loopw [3, 4] (fun v sv wr => ∃ (t acc : Nat) (r : List UInt8), sv = .int .i64 (7 * (t : Int)) ∧ v = .int .u64 (acc : Int) ∧ t ≤ 10 ∧ acc < 2 ^ (7 * t) ∧ acc < 18446744073709551616 ∧ Hid (RV = numR (10 - t) (7 * t) acc r ∧ r.length ≤ 140737488355328) ∧ RdQ B W P ⟨s.nd, s.ns, r⟩ wr) (fun _ sv _ => 71 - (intOf sv).toNat)
  case atStart => exact ⟨0, 0, s.r, rfl, rfl, by omega, by omega, by omega, ⟨HRV.out.symm, HS.out⟩, HQ0⟩
  case round =>
    obtain ⟨t, acc, r, rfl, rfl, ht, hac, ha64, HN, HQ⟩ := hrel
    have HC := rbyte HQ.out.1 HN.out.2
    obtain ⟨c, hc⟩ : ∃ c, (byteR r).1 = c := ⟨_, rfl⟩
    simp only [hc] at HC
    have h127 := u8_and127 (c.toNat : Int) (by omega) (by have := UInt8.toNat_lt c; omega)
    have hct := UInt8.toNat_lt c
    have q0 : (0 : Int) ≤ (acc : Int) := by omega
    have q1 : (acc : Int) < 18446744073709551616 := by omega
    obtain ⟨m, hm⟩ : ∃ m, c.toNat % 128 = m := ⟨_, rfl⟩
    rw [show (c.toNat : Int) % 128 = (m : Int) by omega] at h127
    have m0 : (0 : Int) ≤ (m : Int) := by omega
    have m1 : (m : Int) < 128 := by omega
    have hcs : t = 0 ∨ t = 1 ∨ t = 2 ∨ t = 3 ∨ t = 4 ∨ t = 5 ∨ t = 6 ∨ t = 7 ∨ t = 8 ∨ t = 9 ∨ t = 10 := by omega
    rcases hcs with rfl | rfl | rfl | rfl | rfl | rfl | rfl | rfl | rfl | rfl | rfl
    · have hac2 : acc < 1 := hac
      have he : RV = if c.toNat < 128 then (acc + m * 1, (byteR r).2) else numR 9 7 (acc + m * 1) (byteR r).2 := by
        have h := HN.out.1
        rw [show numR (10 - 0) (7 * 0) acc r = numR (9 + 1) 0 acc r from rfl, numR_step, hc, hm] at h
        rw [h]
        rw [show m * 2 ^ 0 % 18446744073709551616 = m * 1 by omega]
      obtain ⟨a2, ha2⟩ : ∃ a2, acc + m * 1 = a2 := ⟨_, rfl⟩
      have ho : bits .or .u64 (acc : Int) (m : Int) = ((acc + m * 1 : Nat) : Int) := by
        have h := u64_orv0 (acc : Int) ((m : Int) * 1) q0 (by omega) (by omega) (by omega) (by omega)
        rw [Int.mul_one] at h
        rw [h]
        omega
      rw [ha2] at ho he
      have hb2 : a2 < 18446744073709551616 ∧ a2 < 2 ^ (7 * 1) := by rw [← ha2]; constructor <;> omega
      have HE : Hid (RV = if c.toNat < 128 then (a2, (byteR r).2) else numR 9 7 a2 (byteR r).2) := he
      have HR2 : Hid ((byteR r).2.length ≤ 140737488355328) := by
        have := HN.out.2
        show _ ≤ _
        cases r with
        | nil => simp [byteR]
        | cons b r => simp only [byteR, List.length_cons] at this ⊢; omega
      clear he hac hac2 HN ha2
      go_wp2_with fail
      refine HC.mono ?_
      rintro e w2 ⟨rfl, hw2⟩
      clear HC
      by_cases hs : c.toNat < 128
      · have qs : (c.toNat : Int) < 128 := by omega
        have HV : Hid (RV = (a2, (byteR r).2)) := by have h := HE.out; rw [if_pos hs] at h; exact h
        have HQ2 := HQ.trans hw2
        clear HE hs HQ hw2
        go_wp2_with fail
        go_ret
        exact ⟨congrArg (fun x : Nat × List UInt8 => Ending.returned (.int .u64 (x.1 : Int))) HV.out.symm, by rw [HV.out]; exact HQ2⟩
      · have qs : ¬ (c.toNat : Int) < 128 := by omega
        have HV : Hid (RV = numR 9 7 a2 (byteR r).2) := by have h := HE.out; rw [if_neg hs] at h; exact h
        have HQ2 := HQ.trans hw2
        clear HE hs HQ hw2 q0 q1
        go_wp2_with fail
        exact ⟨⟨1, a2, (byteR r).2, by go_num, rfl, by omega, hb2.2, hb2.1, ⟨by rw [show (10 - 1 : Nat) = 9 from rfl, show (7 * 1 : Nat) = 7 from rfl]; exact HV.out, HR2.out⟩, HQ2⟩, by simp [intOf]⟩
    · have hac2 : acc < 128 := hac
      have he : RV = if c.toNat < 128 then (acc + m * 128, (byteR r).2) else numR 8 14 (acc + m * 128) (byteR r).2 := by
        have h := HN.out.1
        rw [show numR (10 - 1) (7 * 1) acc r = numR (8 + 1) 7 acc r from rfl, numR_step, hc, hm] at h
        rw [h]
        rw [show m * 2 ^ 7 % 18446744073709551616 = m * 128 by omega]
      obtain ⟨a2, ha2⟩ : ∃ a2, acc + m * 128 = a2 := ⟨_, rfl⟩
      have ho : bits .or .u64 (acc : Int) ((m : Int) * 128) = ((acc + m * 128 : Nat) : Int) := by
        have h := u64_orv7 (acc : Int) ((m : Int) * 128) q0 (by omega) (by omega) (by omega) (by omega)
        skip
        rw [h]
        omega
      rw [ha2] at ho he
      have hb2 : a2 < 18446744073709551616 ∧ a2 < 2 ^ (7 * 2) := by rw [← ha2]; constructor <;> omega
      have HE : Hid (RV = if c.toNat < 128 then (a2, (byteR r).2) else numR 8 14 a2 (byteR r).2) := he
      have HR2 : Hid ((byteR r).2.length ≤ 140737488355328) := by
        have := HN.out.2
        show _ ≤ _
        cases r with
        | nil => simp [byteR]
        | cons b r => simp only [byteR, List.length_cons] at this ⊢; omega
      clear he hac hac2 HN ha2
      go_wp2_with fail
      refine HC.mono ?_
      rintro e w2 ⟨rfl, hw2⟩
      clear HC
      by_cases hs : c.toNat < 128
      · have qs : (c.toNat : Int) < 128 := by omega
        have HV : Hid (RV = (a2, (byteR r).2)) := by have h := HE.out; rw [if_pos hs] at h; exact h
        have HQ2 := HQ.trans hw2
        clear HE hs HQ hw2
        go_wp2_with fail
        go_ret
        exact ⟨congrArg (fun x : Nat × List UInt8 => Ending.returned (.int .u64 (x.1 : Int))) HV.out.symm, by rw [HV.out]; exact HQ2⟩
      · have qs : ¬ (c.toNat : Int) < 128 := by omega
        have HV : Hid (RV = numR 8 14 a2 (byteR r).2) := by have h := HE.out; rw [if_neg hs] at h; exact h
        have HQ2 := HQ.trans hw2
        clear HE hs HQ hw2 q0 q1
        go_wp2_with fail
        exact ⟨⟨2, a2, (byteR r).2, by go_num, rfl, by omega, hb2.2, hb2.1, ⟨by rw [show (10 - 2 : Nat) = 8 from rfl, show (7 * 2 : Nat) = 14 from rfl]; exact HV.out, HR2.out⟩, HQ2⟩, by simp [intOf]⟩
    · have hac2 : acc < 16384 := hac
      have he : RV = if c.toNat < 128 then (acc + m * 16384, (byteR r).2) else numR 7 21 (acc + m * 16384) (byteR r).2 := by
        have h := HN.out.1
        rw [show numR (10 - 2) (7 * 2) acc r = numR (7 + 1) 14 acc r from rfl, numR_step, hc, hm] at h
        rw [h]
        rw [show m * 2 ^ 14 % 18446744073709551616 = m * 16384 by omega]
      obtain ⟨a2, ha2⟩ : ∃ a2, acc + m * 16384 = a2 := ⟨_, rfl⟩
      have ho : bits .or .u64 (acc : Int) ((m : Int) * 16384) = ((acc + m * 16384 : Nat) : Int) := by
        have h := u64_orv14 (acc : Int) ((m : Int) * 16384) q0 (by omega) (by omega) (by omega) (by omega)
        skip
        rw [h]
        omega
      rw [ha2] at ho he
      have hb2 : a2 < 18446744073709551616 ∧ a2 < 2 ^ (7 * 3) := by rw [← ha2]; constructor <;> omega
      have HE : Hid (RV = if c.toNat < 128 then (a2, (byteR r).2) else numR 7 21 a2 (byteR r).2) := he
      have HR2 : Hid ((byteR r).2.length ≤ 140737488355328) := by
        have := HN.out.2
        show _ ≤ _
        cases r with
        | nil => simp [byteR]
        | cons b r => simp only [byteR, List.length_cons] at this ⊢; omega
      clear he hac hac2 HN ha2
      go_wp2_with fail
      refine HC.mono ?_
      rintro e w2 ⟨rfl, hw2⟩
      clear HC
      by_cases hs : c.toNat < 128
      · have qs : (c.toNat : Int) < 128 := by omega
        have HV : Hid (RV = (a2, (byteR r).2)) := by have h := HE.out; rw [if_pos hs] at h; exact h
        have HQ2 := HQ.trans hw2
        clear HE hs HQ hw2
        go_wp2_with fail
        go_ret
        exact ⟨congrArg (fun x : Nat × List UInt8 => Ending.returned (.int .u64 (x.1 : Int))) HV.out.symm, by rw [HV.out]; exact HQ2⟩
      · have qs : ¬ (c.toNat : Int) < 128 := by omega
        have HV : Hid (RV = numR 7 21 a2 (byteR r).2) := by have h := HE.out; rw [if_neg hs] at h; exact h
        have HQ2 := HQ.trans hw2
        clear HE hs HQ hw2 q0 q1
        go_wp2_with fail
        exact ⟨⟨3, a2, (byteR r).2, by go_num, rfl, by omega, hb2.2, hb2.1, ⟨by rw [show (10 - 3 : Nat) = 7 from rfl, show (7 * 3 : Nat) = 21 from rfl]; exact HV.out, HR2.out⟩, HQ2⟩, by simp [intOf]⟩
    · have hac2 : acc < 2097152 := hac
      have he : RV = if c.toNat < 128 then (acc + m * 2097152, (byteR r).2) else numR 6 28 (acc + m * 2097152) (byteR r).2 := by
        have h := HN.out.1
        rw [show numR (10 - 3) (7 * 3) acc r = numR (6 + 1) 21 acc r from rfl, numR_step, hc, hm] at h
        rw [h]
        rw [show m * 2 ^ 21 % 18446744073709551616 = m * 2097152 by omega]
      obtain ⟨a2, ha2⟩ : ∃ a2, acc + m * 2097152 = a2 := ⟨_, rfl⟩
      have ho : bits .or .u64 (acc : Int) ((m : Int) * 2097152) = ((acc + m * 2097152 : Nat) : Int) := by
        have h := u64_orv21 (acc : Int) ((m : Int) * 2097152) q0 (by omega) (by omega) (by omega) (by omega)
        skip
        rw [h]
        omega
      rw [ha2] at ho he
      have hb2 : a2 < 18446744073709551616 ∧ a2 < 2 ^ (7 * 4) := by rw [← ha2]; constructor <;> omega
      have HE : Hid (RV = if c.toNat < 128 then (a2, (byteR r).2) else numR 6 28 a2 (byteR r).2) := he
      have HR2 : Hid ((byteR r).2.length ≤ 140737488355328) := by
        have := HN.out.2
        show _ ≤ _
        cases r with
        | nil => simp [byteR]
        | cons b r => simp only [byteR, List.length_cons] at this ⊢; omega
      clear he hac hac2 HN ha2
      go_wp2_with fail
      refine HC.mono ?_
      rintro e w2 ⟨rfl, hw2⟩
      clear HC
      by_cases hs : c.toNat < 128
      · have qs : (c.toNat : Int) < 128 := by omega
        have HV : Hid (RV = (a2, (byteR r).2)) := by have h := HE.out; rw [if_pos hs] at h; exact h
        have HQ2 := HQ.trans hw2
        clear HE hs HQ hw2
        go_wp2_with fail
        go_ret
        exact ⟨congrArg (fun x : Nat × List UInt8 => Ending.returned (.int .u64 (x.1 : Int))) HV.out.symm, by rw [HV.out]; exact HQ2⟩
      · have qs : ¬ (c.toNat : Int) < 128 := by omega
        have HV : Hid (RV = numR 6 28 a2 (byteR r).2) := by have h := HE.out; rw [if_neg hs] at h; exact h
        have HQ2 := HQ.trans hw2
        clear HE hs HQ hw2 q0 q1
        go_wp2_with fail
        exact ⟨⟨4, a2, (byteR r).2, by go_num, rfl, by omega, hb2.2, hb2.1, ⟨by rw [show (10 - 4 : Nat) = 6 from rfl, show (7 * 4 : Nat) = 28 from rfl]; exact HV.out, HR2.out⟩, HQ2⟩, by simp [intOf]⟩
    · have hac2 : acc < 268435456 := hac
      have he : RV = if c.toNat < 128 then (acc + m * 268435456, (byteR r).2) else numR 5 35 (acc + m * 268435456) (byteR r).2 := by
        have h := HN.out.1
        rw [show numR (10 - 4) (7 * 4) acc r = numR (5 + 1) 28 acc r from rfl, numR_step, hc, hm] at h
        rw [h]
        rw [show m * 2 ^ 28 % 18446744073709551616 = m * 268435456 by omega]
      obtain ⟨a2, ha2⟩ : ∃ a2, acc + m * 268435456 = a2 := ⟨_, rfl⟩
      have ho : bits .or .u64 (acc : Int) ((m : Int) * 268435456) = ((acc + m * 268435456 : Nat) : Int) := by
        have h := u64_orv28 (acc : Int) ((m : Int) * 268435456) q0 (by omega) (by omega) (by omega) (by omega)
        skip
        rw [h]
        omega
      rw [ha2] at ho he
      have hb2 : a2 < 18446744073709551616 ∧ a2 < 2 ^ (7 * 5) := by rw [← ha2]; constructor <;> omega
      have HE : Hid (RV = if c.toNat < 128 then (a2, (byteR r).2) else numR 5 35 a2 (byteR r).2) := he
      have HR2 : Hid ((byteR r).2.length ≤ 140737488355328) := by
        have := HN.out.2
        show _ ≤ _
        cases r with
        | nil => simp [byteR]
        | cons b r => simp only [byteR, List.length_cons] at this ⊢; omega
      clear he hac hac2 HN ha2
      go_wp2_with fail
      refine HC.mono ?_
      rintro e w2 ⟨rfl, hw2⟩
      clear HC
      by_cases hs : c.toNat < 128
      · have qs : (c.toNat : Int) < 128 := by omega
        have HV : Hid (RV = (a2, (byteR r).2)) := by have h := HE.out; rw [if_pos hs] at h; exact h
        have HQ2 := HQ.trans hw2
        clear HE hs HQ hw2
        go_wp2_with fail
        go_ret
        exact ⟨congrArg (fun x : Nat × List UInt8 => Ending.returned (.int .u64 (x.1 : Int))) HV.out.symm, by rw [HV.out]; exact HQ2⟩
      · have qs : ¬ (c.toNat : Int) < 128 := by omega
        have HV : Hid (RV = numR 5 35 a2 (byteR r).2) := by have h := HE.out; rw [if_neg hs] at h; exact h
        have HQ2 := HQ.trans hw2
        clear HE hs HQ hw2 q0 q1
        go_wp2_with fail
        exact ⟨⟨5, a2, (byteR r).2, by go_num, rfl, by omega, hb2.2, hb2.1, ⟨by rw [show (10 - 5 : Nat) = 5 from rfl, show (7 * 5 : Nat) = 35 from rfl]; exact HV.out, HR2.out⟩, HQ2⟩, by simp [intOf]⟩
    · have hac2 : acc < 34359738368 := hac
      have he : RV = if c.toNat < 128 then (acc + m * 34359738368, (byteR r).2) else numR 4 42 (acc + m * 34359738368) (byteR r).2 := by
        have h := HN.out.1
        rw [show numR (10 - 5) (7 * 5) acc r = numR (4 + 1) 35 acc r from rfl, numR_step, hc, hm] at h
        rw [h]
        rw [show m * 2 ^ 35 % 18446744073709551616 = m * 34359738368 by omega]
      obtain ⟨a2, ha2⟩ : ∃ a2, acc + m * 34359738368 = a2 := ⟨_, rfl⟩
      have ho : bits .or .u64 (acc : Int) ((m : Int) * 34359738368) = ((acc + m * 34359738368 : Nat) : Int) := by
        have h := u64_orv35 (acc : Int) ((m : Int) * 34359738368) q0 (by omega) (by omega) (by omega) (by omega)
        skip
        rw [h]
        omega
      rw [ha2] at ho he
      have hb2 : a2 < 18446744073709551616 ∧ a2 < 2 ^ (7 * 6) := by rw [← ha2]; constructor <;> omega
      have HE : Hid (RV = if c.toNat < 128 then (a2, (byteR r).2) else numR 4 42 a2 (byteR r).2) := he
      have HR2 : Hid ((byteR r).2.length ≤ 140737488355328) := by
        have := HN.out.2
        show _ ≤ _
        cases r with
        | nil => simp [byteR]
        | cons b r => simp only [byteR, List.length_cons] at this ⊢; omega
      clear he hac hac2 HN ha2
      go_wp2_with fail
      refine HC.mono ?_
      rintro e w2 ⟨rfl, hw2⟩
      clear HC
      by_cases hs : c.toNat < 128
      · have qs : (c.toNat : Int) < 128 := by omega
        have HV : Hid (RV = (a2, (byteR r).2)) := by have h := HE.out; rw [if_pos hs] at h; exact h
        have HQ2 := HQ.trans hw2
        clear HE hs HQ hw2
        go_wp2_with fail
        go_ret
        exact ⟨congrArg (fun x : Nat × List UInt8 => Ending.returned (.int .u64 (x.1 : Int))) HV.out.symm, by rw [HV.out]; exact HQ2⟩
      · have qs : ¬ (c.toNat : Int) < 128 := by omega
        have HV : Hid (RV = numR 4 42 a2 (byteR r).2) := by have h := HE.out; rw [if_neg hs] at h; exact h
        have HQ2 := HQ.trans hw2
        clear HE hs HQ hw2 q0 q1
        go_wp2_with fail
        exact ⟨⟨6, a2, (byteR r).2, by go_num, rfl, by omega, hb2.2, hb2.1, ⟨by rw [show (10 - 6 : Nat) = 4 from rfl, show (7 * 6 : Nat) = 42 from rfl]; exact HV.out, HR2.out⟩, HQ2⟩, by simp [intOf]⟩
    · have hac2 : acc < 4398046511104 := hac
      have he : RV = if c.toNat < 128 then (acc + m * 4398046511104, (byteR r).2) else numR 3 49 (acc + m * 4398046511104) (byteR r).2 := by
        have h := HN.out.1
        rw [show numR (10 - 6) (7 * 6) acc r = numR (3 + 1) 42 acc r from rfl, numR_step, hc, hm] at h
        rw [h]
        rw [show m * 2 ^ 42 % 18446744073709551616 = m * 4398046511104 by omega]
      obtain ⟨a2, ha2⟩ : ∃ a2, acc + m * 4398046511104 = a2 := ⟨_, rfl⟩
      have ho : bits .or .u64 (acc : Int) ((m : Int) * 4398046511104) = ((acc + m * 4398046511104 : Nat) : Int) := by
        have h := u64_orv42 (acc : Int) ((m : Int) * 4398046511104) q0 (by omega) (by omega) (by omega) (by omega)
        skip
        rw [h]
        omega
      rw [ha2] at ho he
      have hb2 : a2 < 18446744073709551616 ∧ a2 < 2 ^ (7 * 7) := by rw [← ha2]; constructor <;> omega
      have HE : Hid (RV = if c.toNat < 128 then (a2, (byteR r).2) else numR 3 49 a2 (byteR r).2) := he
      have HR2 : Hid ((byteR r).2.length ≤ 140737488355328) := by
        have := HN.out.2
        show _ ≤ _
        cases r with
        | nil => simp [byteR]
        | cons b r => simp only [byteR, List.length_cons] at this ⊢; omega
      clear he hac hac2 HN ha2
      go_wp2_with fail
      refine HC.mono ?_
      rintro e w2 ⟨rfl, hw2⟩
      clear HC
      by_cases hs : c.toNat < 128
      · have qs : (c.toNat : Int) < 128 := by omega
        have HV : Hid (RV = (a2, (byteR r).2)) := by have h := HE.out; rw [if_pos hs] at h; exact h
        have HQ2 := HQ.trans hw2
        clear HE hs HQ hw2
        go_wp2_with fail
        go_ret
        exact ⟨congrArg (fun x : Nat × List UInt8 => Ending.returned (.int .u64 (x.1 : Int))) HV.out.symm, by rw [HV.out]; exact HQ2⟩
      · have qs : ¬ (c.toNat : Int) < 128 := by omega
        have HV : Hid (RV = numR 3 49 a2 (byteR r).2) := by have h := HE.out; rw [if_neg hs] at h; exact h
        have HQ2 := HQ.trans hw2
        clear HE hs HQ hw2 q0 q1
        go_wp2_with fail
        exact ⟨⟨7, a2, (byteR r).2, by go_num, rfl, by omega, hb2.2, hb2.1, ⟨by rw [show (10 - 7 : Nat) = 3 from rfl, show (7 * 7 : Nat) = 49 from rfl]; exact HV.out, HR2.out⟩, HQ2⟩, by simp [intOf]⟩
    · have hac2 : acc < 562949953421312 := hac
      have he : RV = if c.toNat < 128 then (acc + m * 562949953421312, (byteR r).2) else numR 2 56 (acc + m * 562949953421312) (byteR r).2 := by
        have h := HN.out.1
        rw [show numR (10 - 7) (7 * 7) acc r = numR (2 + 1) 49 acc r from rfl, numR_step, hc, hm] at h
        rw [h]
        rw [show m * 2 ^ 49 % 18446744073709551616 = m * 562949953421312 by omega]
      obtain ⟨a2, ha2⟩ : ∃ a2, acc + m * 562949953421312 = a2 := ⟨_, rfl⟩
      have ho : bits .or .u64 (acc : Int) ((m : Int) * 562949953421312) = ((acc + m * 562949953421312 : Nat) : Int) := by
        have h := u64_orv49 (acc : Int) ((m : Int) * 562949953421312) q0 (by omega) (by omega) (by omega) (by omega)
        skip
        rw [h]
        omega
      rw [ha2] at ho he
      have hb2 : a2 < 18446744073709551616 ∧ a2 < 2 ^ (7 * 8) := by rw [← ha2]; constructor <;> omega
      have HE : Hid (RV = if c.toNat < 128 then (a2, (byteR r).2) else numR 2 56 a2 (byteR r).2) := he
      have HR2 : Hid ((byteR r).2.length ≤ 140737488355328) := by
        have := HN.out.2
        show _ ≤ _
        cases r with
        | nil => simp [byteR]
        | cons b r => simp only [byteR, List.length_cons] at this ⊢; omega
      clear he hac hac2 HN ha2
      go_wp2_with fail
      refine HC.mono ?_
      rintro e w2 ⟨rfl, hw2⟩
      clear HC
      by_cases hs : c.toNat < 128
      · have qs : (c.toNat : Int) < 128 := by omega
        have HV : Hid (RV = (a2, (byteR r).2)) := by have h := HE.out; rw [if_pos hs] at h; exact h
        have HQ2 := HQ.trans hw2
        clear HE hs HQ hw2
        go_wp2_with fail
        go_ret
        exact ⟨congrArg (fun x : Nat × List UInt8 => Ending.returned (.int .u64 (x.1 : Int))) HV.out.symm, by rw [HV.out]; exact HQ2⟩
      · have qs : ¬ (c.toNat : Int) < 128 := by omega
        have HV : Hid (RV = numR 2 56 a2 (byteR r).2) := by have h := HE.out; rw [if_neg hs] at h; exact h
        have HQ2 := HQ.trans hw2
        clear HE hs HQ hw2 q0 q1
        go_wp2_with fail
        exact ⟨⟨8, a2, (byteR r).2, by go_num, rfl, by omega, hb2.2, hb2.1, ⟨by rw [show (10 - 8 : Nat) = 2 from rfl, show (7 * 8 : Nat) = 56 from rfl]; exact HV.out, HR2.out⟩, HQ2⟩, by simp [intOf]⟩
    · have hac2 : acc < 72057594037927936 := hac
      have he : RV = if c.toNat < 128 then (acc + m * 72057594037927936, (byteR r).2) else numR 1 63 (acc + m * 72057594037927936) (byteR r).2 := by
        have h := HN.out.1
        rw [show numR (10 - 8) (7 * 8) acc r = numR (1 + 1) 56 acc r from rfl, numR_step, hc, hm] at h
        rw [h]
        rw [show m * 2 ^ 56 % 18446744073709551616 = m * 72057594037927936 by omega]
      obtain ⟨a2, ha2⟩ : ∃ a2, acc + m * 72057594037927936 = a2 := ⟨_, rfl⟩
      have ho : bits .or .u64 (acc : Int) ((m : Int) * 72057594037927936) = ((acc + m * 72057594037927936 : Nat) : Int) := by
        have h := u64_orv56 (acc : Int) ((m : Int) * 72057594037927936) q0 (by omega) (by omega) (by omega) (by omega)
        skip
        rw [h]
        omega
      rw [ha2] at ho he
      have hb2 : a2 < 18446744073709551616 ∧ a2 < 2 ^ (7 * 9) := by rw [← ha2]; constructor <;> omega
      have HE : Hid (RV = if c.toNat < 128 then (a2, (byteR r).2) else numR 1 63 a2 (byteR r).2) := he
      have HR2 : Hid ((byteR r).2.length ≤ 140737488355328) := by
        have := HN.out.2
        show _ ≤ _
        cases r with
        | nil => simp [byteR]
        | cons b r => simp only [byteR, List.length_cons] at this ⊢; omega
      clear he hac hac2 HN ha2
      go_wp2_with fail
      refine HC.mono ?_
      rintro e w2 ⟨rfl, hw2⟩
      clear HC
      by_cases hs : c.toNat < 128
      · have qs : (c.toNat : Int) < 128 := by omega
        have HV : Hid (RV = (a2, (byteR r).2)) := by have h := HE.out; rw [if_pos hs] at h; exact h
        have HQ2 := HQ.trans hw2
        clear HE hs HQ hw2
        go_wp2_with fail
        go_ret
        exact ⟨congrArg (fun x : Nat × List UInt8 => Ending.returned (.int .u64 (x.1 : Int))) HV.out.symm, by rw [HV.out]; exact HQ2⟩
      · have qs : ¬ (c.toNat : Int) < 128 := by omega
        have HV : Hid (RV = numR 1 63 a2 (byteR r).2) := by have h := HE.out; rw [if_neg hs] at h; exact h
        have HQ2 := HQ.trans hw2
        clear HE hs HQ hw2 q0 q1
        go_wp2_with fail
        exact ⟨⟨9, a2, (byteR r).2, by go_num, rfl, by omega, hb2.2, hb2.1, ⟨by rw [show (10 - 9 : Nat) = 1 from rfl, show (7 * 9 : Nat) = 63 from rfl]; exact HV.out, HR2.out⟩, HQ2⟩, by simp [intOf]⟩
    · have hac2 : acc < 9223372036854775808 := hac
      have he : RV = if c.toNat < 128 then (acc + m * 9223372036854775808 % 18446744073709551616, (byteR r).2) else numR 0 70 (acc + m * 9223372036854775808 % 18446744073709551616) (byteR r).2 := by
        have h := HN.out.1
        rw [show numR (10 - 9) (7 * 9) acc r = numR (0 + 1) 63 acc r from rfl, numR_step, hc, hm] at h
        rw [h]
        skip
      obtain ⟨a2, ha2⟩ : ∃ a2, acc + m * 9223372036854775808 % 18446744073709551616 = a2 := ⟨_, rfl⟩
      have ho : bits .or .u64 (acc : Int) ((m : Int) * 9223372036854775808 % 18446744073709551616) = ((acc + m * 9223372036854775808 % 18446744073709551616 : Nat) : Int) := by
        rw [u64_orv63 (acc : Int) ((m : Int) * 9223372036854775808 % 18446744073709551616) q0 (by omega) (by omega) (by omega) (by omega)]
        omega
      have ho2 : bits .or .u64 (acc : Int) (IntKind.u64.wrap ((m : Int) * 9223372036854775808)) = ((acc + m * 9223372036854775808 % 18446744073709551616 : Nat) : Int) := by
        rw [IntKind.wrap_u64]
        exact ho
      rw [ha2] at ho he ho2
      have hb2 : a2 < 18446744073709551616 ∧ a2 < 2 ^ (7 * 10) := by rw [← ha2]; constructor <;> omega
      have HE : Hid (RV = if c.toNat < 128 then (a2, (byteR r).2) else numR 0 70 a2 (byteR r).2) := he
      have HR2 : Hid ((byteR r).2.length ≤ 140737488355328) := by
        have := HN.out.2
        show _ ≤ _
        cases r with
        | nil => simp [byteR]
        | cons b r => simp only [byteR, List.length_cons] at this ⊢; omega
      clear he hac hac2 HN ha2
      go_wp2_with fail
      refine HC.mono ?_
      rintro e w2 ⟨rfl, hw2⟩
      clear HC
      by_cases hs : c.toNat < 128
      · have qs : (c.toNat : Int) < 128 := by omega
        have HV : Hid (RV = (a2, (byteR r).2)) := by have h := HE.out; rw [if_pos hs] at h; exact h
        have HQ2 := HQ.trans hw2
        clear HE hs HQ hw2
        go_wp2_with fail
        go_ret
        exact ⟨congrArg (fun x : Nat × List UInt8 => Ending.returned (.int .u64 (x.1 : Int))) HV.out.symm, by rw [HV.out]; exact HQ2⟩
      · have qs : ¬ (c.toNat : Int) < 128 := by omega
        have HV : Hid (RV = numR 0 70 a2 (byteR r).2) := by have h := HE.out; rw [if_neg hs] at h; exact h
        have HQ2 := HQ.trans hw2
        clear HE hs HQ hw2 q0 q1
        go_wp2_with fail
        exact ⟨⟨10, a2, (byteR r).2, by go_num, rfl, by omega, hb2.2, hb2.1, ⟨by rw [show (10 - 10 : Nat) = 0 from rfl, show (7 * 10 : Nat) = 70 from rfl]; exact HV.out, HR2.out⟩, HQ2⟩, by simp [intOf]⟩
    · have HV : Hid (RV = (acc, r)) := HN.out.1
      clear HC HN
      go_wp2_with fail
      go_ret
      exact ⟨congrArg (fun x : Nat × List UInt8 => Ending.returned (.int .u64 (x.1 : Int))) HV.out.symm, by rw [HV.out]; exact HQ⟩
end
end Go.Proofs.YtnecnchdffmhbaaDoor

namespace Go.Proofs.YtnecnchdffmhbaaDoor
open Go.RowKit

set_option maxRecDepth 100000 in
theorem end_any (W : World) (ph tr : Int) (out : ByteArray) (inp : Int) (q : Option Addr) (n cap : Nat) :
    Calls Tryd.prog 22 #[.agg (recC ph tr out inp q n cap)] W fun e w' => e = .returned (.bool (endOk ph tr inp)) ∧ Below W.heap.size W w' := by
  unfold recC
  have HC := outcome_any (W.alloc (.cells #[.int .i64 ph, .int .i64 tr, .string out, .int .i64 inp, .slice q n cap] 28)) ph tr
  have f1 : Full (W.alloc (.cells #[.int .i64 ph, .int .i64 tr, .string out, .int .i64 inp, .slice q n cap] 28)) W.heap.size 28 [.int .i64 ph, .int .i64 tr, .string out, .int .i64 inp, .slice q n cap] := Full.new W _ _
  have HF : Hid (Full (W.alloc (.cells #[.int .i64 ph, .int .i64 tr, .string out, .int .i64 inp, .slice q n cap] 28)) W.heap.size 28 [.int .i64 ph, .int .i64 tr, .string out, .int .i64 inp, .slice q n cap] ∧ Below W.heap.size W (W.alloc (.cells #[.int .i64 ph, .int .i64 tr, .string out, .int .i64 inp, .slice q n cap] 28))) := ⟨f1, (Below.refl _ W).alloc (Nat.le_refl _) _⟩
  clear f1
  have hc : outOk ph tr = true ∨ outOk ph tr = false := by cases outOk ph tr <;> simp
  rcases hc with ho | ho
  all_goals
    rw [ho] at HC
    go_enter Tryd.func22, Tryd.ntmps22
    go_wp2_with fail
    refine HC.mono ?_
    rintro e w2 ⟨rfl, hb⟩
    have g3 := ((HF.out.1.next hb).cell 3 _ rfl).1
    have HB : Hid (Below W.heap.size W w2) := below2 HF.out.2 hb
    have HE : Hid (endOk ph tr inp = (outOk ph tr && decide (0 ≤ inp) && decide (inp ≤ 1000))) := rfl
    clear HC HF hb
    go_wp2
    all_goals
      go_ret
      refine ⟨congrArg (fun b => Ending.returned (.bool b)) ?_, HB.out⟩
      rw [HE.out, ho, Bool.eq_iff_iff]
      simp_all
      try omega
section
variable (W : World) (vn : Int) (vs : ByteArray)
set_option maxRecDepth 100000 in
theorem may_0 (hz : vs.size ≤ 140737488355328) : Calls Tryd.prog 55 #[.agg #[.int .i64 0, .int .i64 vn, .string vs]] W fun e w' => e = .returned (.bool (valOk 0 vn vs.data.toList)) ∧ Below W.heap.size W w' := by
  have hsz : vs.size = vs.toList.length := by rw [toL]; exact Lib.size_eq vs
  have hq : (vs.size : Int) ≤ 9223372036854775807 := by omega
  clear hz
  go_enter Tryd.func55, Tryd.ntmps55
  go_wp2_with fail
  all_goals
    go_ret
    refine ⟨congrArg (fun b => Ending.returned (.bool b)) ?_, (Below.refl _ W).alloc (Nat.le_refl _) _⟩
    rw [Bool.eq_iff_iff]
    unfold valOk
    rw [← toL]
    simp_all
    try omega
set_option maxRecDepth 100000 in
theorem may_1 (hz : vs.size ≤ 140737488355328) : Calls Tryd.prog 58 #[.agg #[.int .i64 1, .int .i64 vn, .string vs]] W fun e w' => e = .returned (.bool (valOk 1 vn vs.data.toList)) ∧ Below W.heap.size W w' := by
  have hsz : vs.size = vs.toList.length := by rw [toL]; exact Lib.size_eq vs
  have hq : (vs.size : Int) ≤ 9223372036854775807 := by omega
  clear hz
  go_enter Tryd.func58, Tryd.ntmps58
  go_wp2_with fail
  all_goals
    go_ret
    refine ⟨congrArg (fun b => Ending.returned (.bool b)) ?_, (Below.refl _ W).alloc (Nat.le_refl _) _⟩
    rw [Bool.eq_iff_iff]
    unfold valOk
    rw [← toL]
    simp_all
    try omega
set_option maxRecDepth 100000 in
theorem may_2 (hz : vs.size ≤ 140737488355328) : Calls Tryd.prog 63 #[.agg #[.int .i64 2, .int .i64 vn, .string vs]] W fun e w' => e = .returned (.bool (valOk 2 vn vs.data.toList)) ∧ Below W.heap.size W w' := by
  have hsz : vs.size = vs.toList.length := by rw [toL]; exact Lib.size_eq vs
  have hq : (vs.size : Int) ≤ 9223372036854775807 := by omega
  clear hz
  go_enter Tryd.func63, Tryd.ntmps63
  go_wp2_with fail
  all_goals
    go_ret
    refine ⟨congrArg (fun b => Ending.returned (.bool b)) ?_, (Below.refl _ W).alloc (Nat.le_refl _) _⟩
    rw [Bool.eq_iff_iff]
    unfold valOk
    rw [← toL]
    simp_all
    try omega
set_option maxRecDepth 100000 in
theorem may_3 (hz : vs.size ≤ 140737488355328) : Calls Tryd.prog 67 #[.agg #[.int .i64 3, .int .i64 vn, .string vs]] W fun e w' => e = .returned (.bool (valOk 3 vn vs.data.toList)) ∧ Below W.heap.size W w' := by
  have hsz : vs.size = vs.toList.length := by rw [toL]; exact Lib.size_eq vs
  have hq : (vs.size : Int) ≤ 9223372036854775807 := by omega
  clear hz
  go_enter Tryd.func67, Tryd.ntmps67
  go_wp2_with fail
  all_goals
    go_ret
    refine ⟨congrArg (fun b => Ending.returned (.bool b)) ?_, (Below.refl _ W).alloc (Nat.le_refl _) _⟩
    rw [Bool.eq_iff_iff]
    unfold valOk
    rw [← toL]
    simp_all
    try omega
set_option maxRecDepth 100000 in
theorem may_4 (hz : vs.size ≤ 140737488355328) : Calls Tryd.prog 74 #[.agg #[.int .i64 4, .int .i64 vn, .string vs]] W fun e w' => e = .returned (.bool (valOk 4 vn vs.data.toList)) ∧ Below W.heap.size W w' := by
  have hsz : vs.size = vs.toList.length := by rw [toL]; exact Lib.size_eq vs
  have hq : (vs.size : Int) ≤ 9223372036854775807 := by omega
  clear hz
  go_enter Tryd.func74, Tryd.ntmps74
  go_wp2_with fail
  all_goals
    go_ret
    refine ⟨congrArg (fun b => Ending.returned (.bool b)) ?_, (Below.refl _ W).alloc (Nat.le_refl _) _⟩
    rw [Bool.eq_iff_iff]
    unfold valOk
    rw [← toL]
    simp_all
    try omega
end
end Go.Proofs.YtnecnchdffmhbaaDoor

namespace Go.Proofs.YtnecnchdffmhbaaDoor
open Go.RowKit

theorem fixedOf_step (n : Nat) (c : UInt8) (hn : n < 16777216) : bits .or .u32 ((n : Int) * 256) (c.toNat : Int) = ((n * 256 + c.toNat : Nat) : Int) := by
  have h := bits_join_low .u32 32 (by decide) wraps_u32 8 (c.toNat : Int) ((n : Int) * 256) (by omega) (by have := UInt8.toNat_lt c; omega) (by have := UInt8.toNat_lt c; omega) (by omega) (by omega) (by omega)
  have hc : bits .or .u32 ((n : Int) * 256) (c.toNat : Int) = bits .or .u32 (c.toNat : Int) ((n : Int) * 256) := by
    unfold bits
    simp only [BitVec.or_comm]
  rw [hc, h]
  omega
theorem fxO_next (b : List UInt8) (i : Nat) (c : UInt8) (h : b[i]? = some c) : fxO (b.take (i + 1)) = fxO (b.take i) * 256 + c.toNat := by
  unfold fxO
  rw [List.take_add_one, h]
  simp
set_option maxRecDepth 100000 in
set_option maxHeartbeats 1000000 in
theorem fixedOf_any (W : World) (s : ByteArray) (hs : s.size ≤ 4) :
    Calls Tryd.prog 84 #[.string s] W fun e w' => e = .returned (.int .u32 (fxO s.data.toList : Int)) ∧ Below W.heap.size W w' := by
  have hsz : Hid (s.size = s.data.toList.length) := Lib.size_eq s
  have hq : (s.size : Int) ≤ 4 := by omega
  have hcv := Lib.run_convert_string_bytes (P := Tryd.prog) W 9 44 5 s Tryd.underlying9 Tryd.underlying44 Tryd.underlying5
  have HBW : Hid (Below W.heap.size W (Lib.bytesWorld W 5 s) ∧ ∀ j, j < s.size → (Lib.bytesWorld W 5 s).cell? ⟨W.heap.size, j, none⟩ = some (.int .u8 ((s.data.toList.getD j 0).toNat : Int))) :=
    ⟨⟨rfl, rfl, rfl, by rw [Lib.bytesWorld_size]; omega, fun k hk => Lib.bytesWorld_at_old W 5 s k hk⟩, fun j hj => Lib.bytesWorld_cell W 5 s j hj⟩
  obtain ⟨X, hX⟩ : ∃ X, Lib.bytesWorld W 5 s = X := ⟨_, rfl⟩
  rw [hX] at hcv HBW
  obtain ⟨G, hG⟩ : ∃ G, W.heap.size = G := ⟨_, rfl⟩
  clear hs
  go_enter Tryd.func84, Tryd.ntmps84
  go_wp2_with fail
  go_loopw [3, 9] (fun v ix wr => ∃ (i n : Nat), ix = .int .i64 (i : Int) ∧ i ≤ s.size ∧ wr = X ∧ v = .int .u32 (n : Int) ∧ Hid (n = fxO (s.data.toList.take i))) (fun _ ix _ => s.size - (intOf ix).toNat)
  case atStart => exact ⟨0, 0, rfl, Nat.zero_le _, rfl, rfl, by show 0 = _; rw [List.take_zero]; rfl⟩
  case round =>
    obtain ⟨i, n, rfl, hi, rfl, rfl, HN⟩ := hrel
    have hi0 : (0 : Int) ≤ (i : Int) := by omega
    by_cases hend : i = s.size
    · have HV : Hid (n = fxO s.data.toList) := by
        have h1 := HN.out
        rw [hend, hsz.out, List.take_length] at h1
        exact h1
      subst hend
      have HB0 : Hid (Below W.heap.size W wr) := HBW.out.1
      clear HN HBW hcv hX
      go_wp2
      go_ret
      exact ⟨congrArg (fun x : Nat => Ending.returned (.int .u32 (x : Int))) HV.out, HB0.out⟩
    · have hlt : i < s.size := by omega
      have hil : (i : Int) < (s.size : Int) := by omega
      obtain ⟨c, hc⟩ : ∃ c, s.data.toList[i]? = some c := ⟨_, List.getElem?_eq_getElem (by rw [← hsz.out]; exact hlt)⟩
      have cc := HBW.out.2 i hlt
      rw [List.getD_eq_getElem?_getD, hc] at cc
      simp only [Option.getD_some] at cc
      rw [hG] at cc
      have hn24 : n < 16777216 := by
        have h1 := fxO_lt (s.data.toList.take i)
        rw [← HN.out, List.length_take] at h1
        have h2 : (256 : Nat) ^ (min i s.data.toList.length) ≤ 256 ^ 3 := Nat.pow_le_pow_right (by decide) (by omega)
        have h3 : (256 : Nat) ^ 3 = 16777216 := by decide
        omega
      have he := fixedOf_step n c hn24
      obtain ⟨n2, hn2⟩ : ∃ n2, n * 256 + c.toNat = n2 := ⟨_, rfl⟩
      rw [hn2] at he
      have HN2 : Hid (n2 = fxO (s.data.toList.take (i + 1))) := by
        show n2 = _
        rw [fxO_next _ _ _ hc, ← HN.out, hn2]
      have hct := UInt8.toNat_lt c
      have qn : IntKind.u32.wrap ((n : Int) * 256) = (n : Int) * 256 := by rw [IntKind.wrap_u32]; omega
      clear hn24 hc hn2 HN HBW hcv hX hend
      go_wp2
      exact ⟨⟨i + 1, n2, by go_num, by omega, trivial, rfl, HN2⟩, by simp [intOf]; omega⟩
end Go.Proofs.YtnecnchdffmhbaaDoor

namespace Go.Proofs.YtnecnchdffmhbaaDoor
open Go.RowKit

theorem sl_mid {s x : ByteArray} {i k : Nat} (K1 K2 : IntKind) (hik : i ≤ k) (hk : k ≤ s.size) (hx : x.data.toList = (s.data.toList.take k).drop i) : ∀ wx : World, (Instr.slice 9 (.string s) (some (.int K1 (i : Int))) (some (.int K2 (k : Int))) none).run Tryd.prog wx = .ok (.string x) wx := fun wx => by
  have h0 : (0 : Int) ≤ (i : Int) := by omega
  have h1 : (i : Int) ≤ (k : Int) := by omega
  have h2 : (k : Int) ≤ (s.size : Int) := by omega
  have e : s.extract i k = x := by
    have h3 : (s.extract i k).data.toList = x.data.toList := by rw [Lib.extract_data, hx, List.drop_take]
    cases x with | mk d => cases hs : s.extract i k with | mk d2 => rw [hs] at h3; simp at h3; rw [h3]
  rw [← e]
  simp [go_sem, h0, h1, h2]
set_option maxRecDepth 100000 in
set_option maxHeartbeats 1000000 in
theorem first_any (W : World) (b : ByteArray) (hT : SumT W) (hs : b.size ≤ 140737488355328) :
    Calls Tryd.prog 52 #[.string b] W fun e w' => Hid ((∃ x : ByteArray, e = .returned (.tuple #[.string x, .bool (firstS b.data.toList).isSome]) ∧ ∀ y, firstS b.data.toList = some y → x.data.toList = y) ∧ Below W.heap.size W w') := by
  have hsz := Lib.size_eq b
  have qb : (b.size : Int) ≤ 140737488355328 := by omega
  by_cases h8 : b.size < 8
  · have q8 : (b.size : Int) < 8 := by omega
    have HV : Hid (firstS b.data.toList = none) := by show firstS _ = none; unfold firstS; rw [if_pos (by omega)]
    clear hT hs hsz
    go_enter Tryd.func52, Tryd.ntmps52
    go_wp2_with fail
    go_ret2
    exact ⟨⟨⟨#[]⟩, by rw [HV.out]; rfl, fun y h => by rw [HV.out] at h; cases h⟩, Below.refl _ _⟩
  · have q8 : ¬ (b.size : Int) < 8 := by omega
    obtain ⟨t4, ht4⟩ : ∃ x : ByteArray, x.data.toList = b.data.toList.take 4 := ⟨⟨(b.data.toList.take 4).toArray⟩, rfl⟩
    have hz4 : t4.size = 4 := by rw [Lib.size_eq, ht4, List.length_take]; omega
    have R1 : ∀ wx : World, (Instr.slice 9 (.string b) none (some (.int .i64 4)) none).run Tryd.prog wx = .ok (.string t4) wx := sl_to (s := b) (x := t4) (k := 4) (by omega) ht4
    have HC := fixedOf_any W t4 (by omega)
    obtain ⟨n, hn⟩ : ∃ n, fxO t4.data.toList = n := ⟨_, rfl⟩
    have hn32 : n < 4294967296 := by
      have := fxO_lt t4.data.toList
      rw [hn, ← Lib.size_eq, hz4] at this
      exact Nat.lt_of_lt_of_le this (by decide)
    rw [hn] at HC
    rw [ht4] at hn
    have HT : Hid (SumT W) := hT
    have HN : Hid (fxO (b.data.toList.take 4) = n) := hn
    have HSz : Hid (b.size = b.data.toList.length ∧ ¬ b.size < 8 ∧ b.size ≤ 140737488355328) := ⟨hsz, h8, hs⟩
    clear hT hn ht4 hz4 hs hsz h8
    by_cases hbad : n = 0 ∨ b.size - 8 < n
    · have HV : Hid (firstS b.data.toList = none) := by
        show firstS _ = none
        unfold firstS
        rw [if_neg (by have := HSz.out; omega), HN.out, if_pos (by have := HSz.out; omega)]
      go_enter Tryd.func52, Tryd.ntmps52
      go_wp2_with fail
      refine HC.mono ?_
      rintro e w2 ⟨rfl, hb2⟩
      have HB2 : Hid (Below W.heap.size W w2) := hb2
      have q88 : (0 : Int) ≤ (b.size : Int) - 8 := by omega
      have qw : IntKind.u64.wrap ((b.size : Int) - 8) = (b.size : Int) - 8 := by rw [IntKind.wrap_u64]; omega
      have qn0 : (0 : Int) ≤ (n : Int) := by omega
      have qn1 : (n : Int) < 4294967296 := by omega
      clear HC hb2
      rcases hbad with rfl | hbig
      · go_wp2_with fail
        go_ret2
        exact ⟨⟨⟨#[]⟩, by rw [HV.out]; rfl, fun y h => by rw [HV.out] at h; cases h⟩, HB2.out⟩
      · by_cases h0 : n = 0
        · subst h0
          go_wp2_with fail
          go_ret2
          exact ⟨⟨⟨#[]⟩, by rw [HV.out]; rfl, fun y h => by rw [HV.out] at h; cases h⟩, HB2.out⟩
        · have qe : ((n : Int) == 0) = false := by rw [beq_eq_false_iff_ne]; omega
          have qg : (b.size : Int) - 8 < (n : Int) := by have := HSz.out; omega
          have qwn : IntKind.u64.wrap (n : Int) = (n : Int) := by rw [IntKind.wrap_u64]; omega
          clear hn32 qn1
          go_wp2_with fail
          go_ret2
          exact ⟨⟨⟨#[]⟩, by rw [HV.out]; rfl, fun y h => by rw [HV.out] at h; cases h⟩, HB2.out⟩
    · have hn0 : n ≠ 0 := by omega
      have hnb : n + 8 ≤ b.size := by have := HSz.out; omega
      go_enter Tryd.func52, Tryd.ntmps52
      go_wp2_with fail
      refine HC.mono ?_
      rintro e w2 ⟨rfl, hb2⟩
      have HB2 : Hid (Below W.heap.size W w2) := hb2
      have HT2 : Hid (SumT w2) := HT.out.next hb2
      have qw : IntKind.u64.wrap ((b.size : Int) - 8) = (b.size : Int) - 8 := by rw [IntKind.wrap_u64]; omega
      have qn0 : (0 : Int) ≤ (n : Int) := by omega
      have qe : ((n : Int) == 0) = false := by rw [beq_eq_false_iff_ne]; omega
      have qg : (n : Int) ≤ (b.size : Int) - 8 := by omega
      have qs4 : IntKind.u64.wrap (4 + (n : Int)) = 4 + (n : Int) := by rw [IntKind.wrap_u64]; omega
      have qs8 : IntKind.u64.wrap (4 + (n : Int) + 4) = 4 + (n : Int) + 4 := by rw [IntKind.wrap_u64]; omega
      have qwn : IntKind.u64.wrap (n : Int) = (n : Int) := by rw [IntKind.wrap_u64]; omega
      have e4 : (((4 + n : Nat)) : Int) = 4 + (n : Int) := by omega
      have e8 : (((4 + n + 4 : Nat)) : Int) = 4 + (n : Int) + 4 := by omega
      obtain ⟨tA, htA⟩ : ∃ x : ByteArray, x.data.toList = b.data.toList.take (4 + n) := ⟨⟨(b.data.toList.take (4 + n)).toArray⟩, rfl⟩
      obtain ⟨tB, htB⟩ : ∃ x : ByteArray, x.data.toList = (b.data.toList.take (4 + n + 4)).drop (4 + n) := ⟨⟨((b.data.toList.take (4 + n + 4)).drop (4 + n)).toArray⟩, rfl⟩
      obtain ⟨tC, htC⟩ : ∃ x : ByteArray, x.data.toList = (b.data.toList.take (4 + n)).drop 4 := ⟨⟨((b.data.toList.take (4 + n)).drop 4).toArray⟩, rfl⟩
      have RA := sl_toU (s := b) (x := tA) (k := 4 + n) (by omega) htA
      have RB := sl_mid (s := b) (x := tB) (i := 4 + n) (k := 4 + n + 4) .u64 .u64 (by omega) (by omega) htB
      have RC := sl_mid (s := b) (x := tC) (i := 4) (k := 4 + n) .i64 .u64 (by omega) (by omega) htC
      rw [e4] at RA RB RC
      rw [e8] at RB
      have RC : ∀ wx : World, (Instr.slice 9 (.string b) (some (.int .i64 4)) (some (.int .u64 (4 + (n : Int)))) none).run Tryd.prog wx = .ok (.string tC) wx := RC
      have hzA : tA.size ≤ 140737488355328 := by rw [Lib.size_eq, htA, List.length_take]; have := HSz.out; omega
      have hzB : tB.size ≤ 4 := by rw [Lib.size_eq, htB, List.length_drop, List.length_take]; omega
      obtain ⟨sm, hsm⟩ : ∃ sm, sumS tA.data.toList = sm := ⟨_, rfl⟩
      obtain ⟨fx, hfx⟩ : ∃ fx, fxO tB.data.toList = fx := ⟨_, rfl⟩
      have p1 : ∀ d os, Calls Tryd.prog 43 #[.string tA] (Sort.grow (redrawn w2 d) os) fun e w'' => e = .returned (.int .u32 (sm : Int)) ∧ ∃ p : Regrown, w'' = Sort.grow (redrawn w2 p.d) p.os := fun d os => by
        have h := sum_any (Sort.grow (redrawn w2 d) os) tA (HT2.out.next (below_regrown w2 d os)) hzA
        rw [hsm] at h
        exact Calls.regrown_of (h.mono fun _ _ q => ⟨q.1, by rw [q.2]; exact Below.refl _ _⟩)
      have p2 : ∀ d os, Calls Tryd.prog 84 #[.string tB] (Sort.grow (redrawn w2 d) os) fun e w'' => e = .returned (.int .u32 (fx : Int)) ∧ ∃ p : Regrown, w'' = Sort.grow (redrawn w2 p.d) p.os := fun d os => by
        have h := fixedOf_any (Sort.grow (redrawn w2 d) os) tB hzB
        rw [hfx] at h
        exact Calls.regrown_of h
      have HV : Hid (firstS b.data.toList = if sm = fx then some tC.data.toList else none) := by
        show firstS _ = _
        unfold firstS
        have e5 : (b.data.toList.drop (4 + n)).take 4 = tB.data.toList := by rw [htB, List.drop_take]; congr 1; omega
        rw [if_neg (by have := HSz.out; omega), HN.out, if_neg (by have := HSz.out; omega), ← htA, hsm, e5, hfx, htC, htA]
      clear HC hb2 hbad htA htB htC hsm hfx hzA hzB e4 e8 hnb hn0 hn32
      go_upto_region 7 with fail
      refine wp_region_quiet_below (by kernel_rfl) (by kernel_rfl) ?_
      repeat (first | go_big_quiet_step (first | with_reducible exact p1 _ _ | with_reducible exact p2 _ _) | quiet_step (first | with_reducible exact p1 _ _ | with_reducible exact p2 _ _))
      refine wpQuiet_nil ?_
      intro _ hw'
      obtain ⟨⟨dq, osq⟩, hw''⟩ := hw'
      subst hw''
      have hY := below_regrown w2 dq osq
      first | (change Exit.then _ _ Exit.normal _ (Sort.grow (redrawn w2 dq) osq)) | skip
      generalize Sort.grow (redrawn w2 dq) osq = Y8 at hY ⊢
      clear p1 p2
      go_wp2
      go_ret2
      have hb : ((sm : Int) == (fx : Int)) = (firstS b.data.toList).isSome := by
        rw [HV.out]
        by_cases h : sm = fx
        · rw [if_pos h, h]; simp
        · rw [if_neg h]
          show _ = false
          rw [beq_eq_false_iff_ne]
          omega
      refine ⟨⟨tC, congrArg (fun x => Ending.returned (.tuple #[.string tC, .bool x])) hb, fun y h => ?_⟩, HB2.out.trans (hY.mono HB2.out.size)⟩
      rw [HV.out] at h
      by_cases hf : sm = fx
      · rw [if_pos hf] at h
        exact Option.some.inj h
      · rw [if_neg hf] at h
        cases h
end Go.Proofs.YtnecnchdffmhbaaDoor

namespace Go.Proofs.YtnecnchdffmhbaaDoor
open Go.RowKit

/-- Texts of an event are not beyond measure. -/
def EvSz (e : Ev) : Prop := e.nm.length ≤ 140737488355328 ∧ e.vs.length ≤ 140737488355328
theorem rowOf_no (W : World) (n : Int) (hn : ¬ (0 ≤ n ∧ n < 5)) : Calls Tryd.prog 39 #[.int .i64 n] W fun e w' => e = .returned (.tuple #[.agg #[.nilFunc, .nilFunc, .nilFunc], .bool false]) ∧ Below W.heap.size W w' := by
  have h := rowOf_any W n
  rw [if_neg hn, decide_eq_false hn] at h
  exact h
theorem all_next (L : List Ev) (i : Nat) (e : Ev) (h : L[i]? = some e) : (L.take (i + 1)).all evOk = ((L.take i).all evOk && evOk e) := by
  rw [List.take_add_one, h]; simp
theorem all_no (L : List Ev) (i : Nat) (e : Ev) (h : L[i]? = some e) (he : evOk e = false) : L.all evOk = false := by
  rw [List.all_eq_false]
  exact ⟨e, List.mem_of_getElem? h, by simp [he]⟩
set_option maxRecDepth 100000 in
set_option maxHeartbeats 40000000 in
theorem evm_any (W : World) (q : Option Addr) (cap : Nat) (L : List Ev) (hR : Row W W.heap.size q L.length (L.flatMap ec)) (hz : ∀ e ∈ L, EvSz e) (hn : L.length ≤ 140737488355328) :
    Calls Tryd.prog 23 #[.slice q L.length cap] W fun e w' => e = .returned (.bool (L.all evOk)) ∧ Below W.heap.size W w' := by
  obtain ⟨n, hnn⟩ : ∃ n, L.length = n := ⟨_, rfl⟩
  rw [hnn] at hR hn ⊢
  have HR : Hid (Row W W.heap.size q n (L.flatMap ec)) := hR
  have HN : Hid (L.length = n) := hnn
  have HZ : Hid (∀ e ∈ L, EvSz e) := hz
  clear hR hnn hz
  obtain ⟨RV, HRV⟩ : ∃ RV, Hid (L.all evOk = RV) := ⟨_, (rfl : L.all evOk = _)⟩
  rw [HRV.out]
  go_enter Tryd.func23, Tryd.ntmps23
  go_wp2_with fail
  go_loopw [9] (fun v wr => ∃ (i : Nat), v = .int .i64 (i : Int) ∧ i ≤ n ∧ Hid ((L.take i).all evOk = true) ∧ Hid (Below W.heap.size W wr)) (fun v _ => n - (intOf v).toNat)
  case atStart => exact ⟨0, rfl, Nat.zero_le _, by show _ = _; simp, Below.refl _ _⟩
  case round =>
    obtain ⟨i, rfl, him, HA, HB⟩ := hrel
    by_cases hlt : i < n
    · have qi : (i : Int) < (n : Int) := by omega
      have q0 : (0 : Int) ≤ (i : Int) := by omega
      obtain ⟨e, he⟩ : ∃ e, L[i]? = some e := ⟨L[i]'(by rw [HN.out]; exact hlt), List.getElem?_eq_getElem _⟩
      obtain ⟨g, o, rfl, hgB, hrg⟩ := HR.out (by omega)
      have cc : ∀ j v, (ec e)[j]? = some v → wr.cell? ⟨g, o + (i * 6 + j), none⟩ = some v := fun j v hv => by
        rw [← hrg (i * 6 + j) v (ec_at L i e he j v hv)]
        exact World.cell?_of_block (w := W) (w' := wr) (a := ⟨g, o + (i * 6 + j), none⟩) (HB.out.block g hgB)
      have hzz := HZ.out e (List.mem_of_getElem? he)
      have hfalse := all_no L i e he
      have htrue := all_next L i e he
      rw [HA.out, Bool.true_and] at htrue
      rw [HRV.out] at hfalse
      obtain ⟨k, en, nmL, vk, vn, vsL⟩ := e
      obtain ⟨nm, hnm⟩ : ∃ b : ByteArray, b.data.toList = nmL := ⟨⟨nmL.toArray⟩, rfl⟩
      obtain ⟨vs, hvs⟩ : ∃ b : ByteArray, b.data.toList = vsL := ⟨⟨vsL.toArray⟩, rfl⟩
      have c0 := cc 0 _ rfl
      have c1 := cc 1 _ rfl
      have c2 := cc 2 _ rfl
      have c3 := cc 3 _ rfl
      have c4 := cc 4 _ rfl
      have c5 := cc 5 _ rfl
      simp only [← Nat.add_assoc, Nat.add_zero] at c0 c1 c2 c3 c4 c5
      rw [sV_at hnm] at c2
      rw [sV_at hvs] at c5
      have hsn : nm.size = nmL.length := by rw [← hnm]; exact Lib.size_eq nm
      have hsv : vs.size = vsL.length := by rw [← hvs]; exact Lib.size_eq vs
      obtain ⟨z1, z2⟩ := hzz
      simp only at z1 z2
      have HFa : Hid (evOk ⟨k, en, nmL, vk, vn, vsL⟩ = false → RV = false) := hfalse
      have HTr : Hid (evOk ⟨k, en, nmL, vk, vn, vsL⟩ = true → (L.take (i + 1)).all evOk = true) := fun h => by rw [htrue]; exact h
      have HEv : Hid (evOk ⟨k, en, nmL, vk, vn, vsL⟩ = (valOk vk vn vs.data.toList && decide (1 ≤ k) && decide (k ≤ 8) && decide (0 ≤ en) && decide (en < 40000) && decide (nm.size ≤ 24))) := by
        show evOk _ = _
        unfold evOk
        simp only [hsn, hvs]
      have qn : (nm.size : Int) ≤ 9223372036854775807 := by omega
      have z3 : vs.size ≤ 140737488355328 := by omega
      clear cc he hrg hfalse htrue hnm hvs hsn hsv z1 z2 HA
      obtain ⟨wz, hwz⟩ : ∃ wz, wr.alloc (.cells #[.int .i64 k, .int .i64 en, .string nm, .int .i64 vk, .int .i64 vn, .string vs] 54) = wz := ⟨_, rfl⟩
      obtain ⟨A, hAA⟩ : ∃ A, wr.heap.size = A := ⟨_, rfl⟩
      have HBz : Hid (Below W.heap.size W wz) := by rw [← hwz]; exact HB.out.alloc HB.out.size _
      have HFz : Hid (Full wz A 54 [.int .i64 k, .int .i64 en, .string nm, .int .i64 vk, .int .i64 vn, .string vs]) := by rw [← hwz, ← hAA]; exact Full.new wr _ _
      by_cases hk : 0 ≤ vk ∧ vk < 5
      · have hc : vk = 0 ∨ vk = 1 ∨ vk = 2 ∨ vk = 3 ∨ vk = 4 := by omega
        clear hk HB
        rcases hc with rfl | rfl | rfl | rfl | rfl
        · have HC := rowOf_at wz 0 0 rfl (by decide)
          obtain ⟨f0, f1, f2, f3, f4, f5⟩ := HFz.out.six
          go_wp2_with fail
          refine HC.mono ?_
          rintro e w2 ⟨rfl, hb2⟩
          unfold rowV
          obtain ⟨w3, hw3⟩ : ∃ w3, w2.alloc (.cells #[.func (.func 55) #[] #[], .func (.func 56) #[] #[], .func (.func 57) #[] #[]] 88) = w3 := ⟨_, rfl⟩
          obtain ⟨R, hRR⟩ : ∃ R, w2.heap.size = R := ⟨_, rfl⟩
          have nb : Below w2.heap.size w2 w3 := by rw [← hw3]; exact (Below.refl _ _).alloc (Nat.le_refl _) _
          have HF3 : Hid (Full w3 A 54 [.int .i64 k, .int .i64 en, .string nm, .int .i64 0, .int .i64 vn, .string vs]) := (HFz.out.next hb2).next nb
          have HR3 : Hid (Full w3 R 88 [.func (.func 55) #[] #[], .func (.func 56) #[] #[], .func (.func 57) #[] #[]]) := by rw [← hw3, ← hRR]; exact Full.new w2 _ _
          have HB3 : Hid (Below W.heap.size W w3) := (HBz.out.trans (hb2.mono HBz.out.size)).trans (nb.mono (Nat.le_trans HBz.out.size hb2.size))
          clear HC f0 f1 f2 f3 f4 f5 c0 c1 c2 c3 c4 c5 hb2 nb HFz hwz HBz
          obtain ⟨f0, f1, f2, f3, f4, f5⟩ := HF3.out.six
          have r0 := (HR3.out.cell 0 _ rfl).1
          obtain ⟨m, hm⟩ : ∃ m, valOk 0 vn vs.data.toList = m := ⟨_, rfl⟩
          have HM := may_0 w3 vn vs z3
          rw [hm] at HM
          rw [hm] at HEv
          clear hm HR3
          go_wp2_with fail
          refine HM.mono ?_
          rintro e w4 ⟨rfl, hb4⟩
          have HF4 : Hid (Full w4 A 54 [.int .i64 k, .int .i64 en, .string nm, .int .i64 0, .int .i64 vn, .string vs]) := HF3.out.next hb4
          have HBY : Hid (Below W.heap.size W w4) := HB3.out.trans (hb4.mono HB3.out.size)
          clear f0 f1 f2 f3 f4 f5 r0 hw3 HM hb4 HF3 HB3
          obtain ⟨f0, f1, f2, f3, f4, f5⟩ := HF4.out.six
          have hcase : m = false ∨ (m = true ∧ k < 1) ∨ (m = true ∧ 1 ≤ k ∧ 8 < k) ∨ (m = true ∧ 1 ≤ k ∧ k ≤ 8 ∧ en < 0) ∨ (m = true ∧ 1 ≤ k ∧ k ≤ 8 ∧ 0 ≤ en ∧ 40000 ≤ en) ∨ (m = true ∧ 1 ≤ k ∧ k ≤ 8 ∧ 0 ≤ en ∧ en < 40000 ∧ 24 < (nm.size : Int)) ∨ (m = true ∧ 1 ≤ k ∧ k ≤ 8 ∧ 0 ≤ en ∧ en < 40000 ∧ (nm.size : Int) ≤ 24) := by
            cases m
            · simp
            · simp only [true_and, reduceCtorEq, false_or]; omega
          rcases hcase with rfl | ⟨rfl, y1⟩ | ⟨rfl, y1, y2⟩ | ⟨rfl, y1, y2, y3⟩ | ⟨rfl, y1, y2, y3, y4⟩ | ⟨rfl, y1, y2, y3, y4, y5⟩ | ⟨rfl, y1, y2, y3, y4, y5⟩
          all_goals
            go_wp2
          · go_ret
            exact ⟨congrArg (fun b => Ending.returned (.bool b)) (HFa.out (by rw [HEv.out]; rfl)).symm, HBY.out⟩
          iterate 5
            · go_ret
              exact ⟨congrArg (fun b => Ending.returned (.bool b)) (HFa.out (by rw [HEv.out, Bool.eq_false_iff]; simp; omega)).symm, HBY.out⟩
          · exact ⟨⟨i + 1, by go_num, by omega, HTr.out (by rw [HEv.out]; simp; omega), HBY⟩, by simp [intOf]; omega⟩
        · have HC := rowOf_at wz 1 1 rfl (by decide)
          obtain ⟨f0, f1, f2, f3, f4, f5⟩ := HFz.out.six
          go_wp2_with fail
          refine HC.mono ?_
          rintro e w2 ⟨rfl, hb2⟩
          unfold rowV
          obtain ⟨w3, hw3⟩ : ∃ w3, w2.alloc (.cells #[.func (.func 58) #[] #[], .func (.func 59) #[] #[], .func (.func 61) #[] #[]] 88) = w3 := ⟨_, rfl⟩
          obtain ⟨R, hRR⟩ : ∃ R, w2.heap.size = R := ⟨_, rfl⟩
          have nb : Below w2.heap.size w2 w3 := by rw [← hw3]; exact (Below.refl _ _).alloc (Nat.le_refl _) _
          have HF3 : Hid (Full w3 A 54 [.int .i64 k, .int .i64 en, .string nm, .int .i64 1, .int .i64 vn, .string vs]) := (HFz.out.next hb2).next nb
          have HR3 : Hid (Full w3 R 88 [.func (.func 58) #[] #[], .func (.func 59) #[] #[], .func (.func 61) #[] #[]]) := by rw [← hw3, ← hRR]; exact Full.new w2 _ _
          have HB3 : Hid (Below W.heap.size W w3) := (HBz.out.trans (hb2.mono HBz.out.size)).trans (nb.mono (Nat.le_trans HBz.out.size hb2.size))
          clear HC f0 f1 f2 f3 f4 f5 c0 c1 c2 c3 c4 c5 hb2 nb HFz hwz HBz
          obtain ⟨f0, f1, f2, f3, f4, f5⟩ := HF3.out.six
          have r0 := (HR3.out.cell 0 _ rfl).1
          obtain ⟨m, hm⟩ : ∃ m, valOk 1 vn vs.data.toList = m := ⟨_, rfl⟩
          have HM := may_1 w3 vn vs z3
          rw [hm] at HM
          rw [hm] at HEv
          clear hm HR3
          go_wp2_with fail
          refine HM.mono ?_
          rintro e w4 ⟨rfl, hb4⟩
          have HF4 : Hid (Full w4 A 54 [.int .i64 k, .int .i64 en, .string nm, .int .i64 1, .int .i64 vn, .string vs]) := HF3.out.next hb4
          have HBY : Hid (Below W.heap.size W w4) := HB3.out.trans (hb4.mono HB3.out.size)
          clear f0 f1 f2 f3 f4 f5 r0 hw3 HM hb4 HF3 HB3
          obtain ⟨f0, f1, f2, f3, f4, f5⟩ := HF4.out.six
          have hcase : m = false ∨ (m = true ∧ k < 1) ∨ (m = true ∧ 1 ≤ k ∧ 8 < k) ∨ (m = true ∧ 1 ≤ k ∧ k ≤ 8 ∧ en < 0) ∨ (m = true ∧ 1 ≤ k ∧ k ≤ 8 ∧ 0 ≤ en ∧ 40000 ≤ en) ∨ (m = true ∧ 1 ≤ k ∧ k ≤ 8 ∧ 0 ≤ en ∧ en < 40000 ∧ 24 < (nm.size : Int)) ∨ (m = true ∧ 1 ≤ k ∧ k ≤ 8 ∧ 0 ≤ en ∧ en < 40000 ∧ (nm.size : Int) ≤ 24) := by
            cases m
            · simp
            · simp only [true_and, reduceCtorEq, false_or]; omega
          rcases hcase with rfl | ⟨rfl, y1⟩ | ⟨rfl, y1, y2⟩ | ⟨rfl, y1, y2, y3⟩ | ⟨rfl, y1, y2, y3, y4⟩ | ⟨rfl, y1, y2, y3, y4, y5⟩ | ⟨rfl, y1, y2, y3, y4, y5⟩
          all_goals
            go_wp2
          · go_ret
            exact ⟨congrArg (fun b => Ending.returned (.bool b)) (HFa.out (by rw [HEv.out]; rfl)).symm, HBY.out⟩
          iterate 5
            · go_ret
              exact ⟨congrArg (fun b => Ending.returned (.bool b)) (HFa.out (by rw [HEv.out, Bool.eq_false_iff]; simp; omega)).symm, HBY.out⟩
          · exact ⟨⟨i + 1, by go_num, by omega, HTr.out (by rw [HEv.out]; simp; omega), HBY⟩, by simp [intOf]; omega⟩
        · have HC := rowOf_at wz 2 2 rfl (by decide)
          obtain ⟨f0, f1, f2, f3, f4, f5⟩ := HFz.out.six
          go_wp2_with fail
          refine HC.mono ?_
          rintro e w2 ⟨rfl, hb2⟩
          unfold rowV
          obtain ⟨w3, hw3⟩ : ∃ w3, w2.alloc (.cells #[.func (.func 63) #[] #[], .func (.func 64) #[] #[], .func (.func 65) #[] #[]] 88) = w3 := ⟨_, rfl⟩
          obtain ⟨R, hRR⟩ : ∃ R, w2.heap.size = R := ⟨_, rfl⟩
          have nb : Below w2.heap.size w2 w3 := by rw [← hw3]; exact (Below.refl _ _).alloc (Nat.le_refl _) _
          have HF3 : Hid (Full w3 A 54 [.int .i64 k, .int .i64 en, .string nm, .int .i64 2, .int .i64 vn, .string vs]) := (HFz.out.next hb2).next nb
          have HR3 : Hid (Full w3 R 88 [.func (.func 63) #[] #[], .func (.func 64) #[] #[], .func (.func 65) #[] #[]]) := by rw [← hw3, ← hRR]; exact Full.new w2 _ _
          have HB3 : Hid (Below W.heap.size W w3) := (HBz.out.trans (hb2.mono HBz.out.size)).trans (nb.mono (Nat.le_trans HBz.out.size hb2.size))
          clear HC f0 f1 f2 f3 f4 f5 c0 c1 c2 c3 c4 c5 hb2 nb HFz hwz HBz
          obtain ⟨f0, f1, f2, f3, f4, f5⟩ := HF3.out.six
          have r0 := (HR3.out.cell 0 _ rfl).1
          obtain ⟨m, hm⟩ : ∃ m, valOk 2 vn vs.data.toList = m := ⟨_, rfl⟩
          have HM := may_2 w3 vn vs z3
          rw [hm] at HM
          rw [hm] at HEv
          clear hm HR3
          go_wp2_with fail
          refine HM.mono ?_
          rintro e w4 ⟨rfl, hb4⟩
          have HF4 : Hid (Full w4 A 54 [.int .i64 k, .int .i64 en, .string nm, .int .i64 2, .int .i64 vn, .string vs]) := HF3.out.next hb4
          have HBY : Hid (Below W.heap.size W w4) := HB3.out.trans (hb4.mono HB3.out.size)
          clear f0 f1 f2 f3 f4 f5 r0 hw3 HM hb4 HF3 HB3
          obtain ⟨f0, f1, f2, f3, f4, f5⟩ := HF4.out.six
          have hcase : m = false ∨ (m = true ∧ k < 1) ∨ (m = true ∧ 1 ≤ k ∧ 8 < k) ∨ (m = true ∧ 1 ≤ k ∧ k ≤ 8 ∧ en < 0) ∨ (m = true ∧ 1 ≤ k ∧ k ≤ 8 ∧ 0 ≤ en ∧ 40000 ≤ en) ∨ (m = true ∧ 1 ≤ k ∧ k ≤ 8 ∧ 0 ≤ en ∧ en < 40000 ∧ 24 < (nm.size : Int)) ∨ (m = true ∧ 1 ≤ k ∧ k ≤ 8 ∧ 0 ≤ en ∧ en < 40000 ∧ (nm.size : Int) ≤ 24) := by
            cases m
            · simp
            · simp only [true_and, reduceCtorEq, false_or]; omega
          rcases hcase with rfl | ⟨rfl, y1⟩ | ⟨rfl, y1, y2⟩ | ⟨rfl, y1, y2, y3⟩ | ⟨rfl, y1, y2, y3, y4⟩ | ⟨rfl, y1, y2, y3, y4, y5⟩ | ⟨rfl, y1, y2, y3, y4, y5⟩
          all_goals
            go_wp2
          · go_ret
            exact ⟨congrArg (fun b => Ending.returned (.bool b)) (HFa.out (by rw [HEv.out]; rfl)).symm, HBY.out⟩
          iterate 5
            · go_ret
              exact ⟨congrArg (fun b => Ending.returned (.bool b)) (HFa.out (by rw [HEv.out, Bool.eq_false_iff]; simp; omega)).symm, HBY.out⟩
          · exact ⟨⟨i + 1, by go_num, by omega, HTr.out (by rw [HEv.out]; simp; omega), HBY⟩, by simp [intOf]; omega⟩
        · have HC := rowOf_at wz 3 3 rfl (by decide)
          obtain ⟨f0, f1, f2, f3, f4, f5⟩ := HFz.out.six
          go_wp2_with fail
          refine HC.mono ?_
          rintro e w2 ⟨rfl, hb2⟩
          unfold rowV
          obtain ⟨w3, hw3⟩ : ∃ w3, w2.alloc (.cells #[.func (.func 67) #[] #[], .func (.func 68) #[] #[], .func (.func 71) #[] #[]] 88) = w3 := ⟨_, rfl⟩
          obtain ⟨R, hRR⟩ : ∃ R, w2.heap.size = R := ⟨_, rfl⟩
          have nb : Below w2.heap.size w2 w3 := by rw [← hw3]; exact (Below.refl _ _).alloc (Nat.le_refl _) _
          have HF3 : Hid (Full w3 A 54 [.int .i64 k, .int .i64 en, .string nm, .int .i64 3, .int .i64 vn, .string vs]) := (HFz.out.next hb2).next nb
          have HR3 : Hid (Full w3 R 88 [.func (.func 67) #[] #[], .func (.func 68) #[] #[], .func (.func 71) #[] #[]]) := by rw [← hw3, ← hRR]; exact Full.new w2 _ _
          have HB3 : Hid (Below W.heap.size W w3) := (HBz.out.trans (hb2.mono HBz.out.size)).trans (nb.mono (Nat.le_trans HBz.out.size hb2.size))
          clear HC f0 f1 f2 f3 f4 f5 c0 c1 c2 c3 c4 c5 hb2 nb HFz hwz HBz
          obtain ⟨f0, f1, f2, f3, f4, f5⟩ := HF3.out.six
          have r0 := (HR3.out.cell 0 _ rfl).1
          obtain ⟨m, hm⟩ : ∃ m, valOk 3 vn vs.data.toList = m := ⟨_, rfl⟩
          have HM := may_3 w3 vn vs z3
          rw [hm] at HM
          rw [hm] at HEv
          clear hm HR3
          go_wp2_with fail
          refine HM.mono ?_
          rintro e w4 ⟨rfl, hb4⟩
          have HF4 : Hid (Full w4 A 54 [.int .i64 k, .int .i64 en, .string nm, .int .i64 3, .int .i64 vn, .string vs]) := HF3.out.next hb4
          have HBY : Hid (Below W.heap.size W w4) := HB3.out.trans (hb4.mono HB3.out.size)
          clear f0 f1 f2 f3 f4 f5 r0 hw3 HM hb4 HF3 HB3
          obtain ⟨f0, f1, f2, f3, f4, f5⟩ := HF4.out.six
          have hcase : m = false ∨ (m = true ∧ k < 1) ∨ (m = true ∧ 1 ≤ k ∧ 8 < k) ∨ (m = true ∧ 1 ≤ k ∧ k ≤ 8 ∧ en < 0) ∨ (m = true ∧ 1 ≤ k ∧ k ≤ 8 ∧ 0 ≤ en ∧ 40000 ≤ en) ∨ (m = true ∧ 1 ≤ k ∧ k ≤ 8 ∧ 0 ≤ en ∧ en < 40000 ∧ 24 < (nm.size : Int)) ∨ (m = true ∧ 1 ≤ k ∧ k ≤ 8 ∧ 0 ≤ en ∧ en < 40000 ∧ (nm.size : Int) ≤ 24) := by
            cases m
            · simp
            · simp only [true_and, reduceCtorEq, false_or]; omega
          rcases hcase with rfl | ⟨rfl, y1⟩ | ⟨rfl, y1, y2⟩ | ⟨rfl, y1, y2, y3⟩ | ⟨rfl, y1, y2, y3, y4⟩ | ⟨rfl, y1, y2, y3, y4, y5⟩ | ⟨rfl, y1, y2, y3, y4, y5⟩
          all_goals
            go_wp2
          · go_ret
            exact ⟨congrArg (fun b => Ending.returned (.bool b)) (HFa.out (by rw [HEv.out]; rfl)).symm, HBY.out⟩
          iterate 5
            · go_ret
              exact ⟨congrArg (fun b => Ending.returned (.bool b)) (HFa.out (by rw [HEv.out, Bool.eq_false_iff]; simp; omega)).symm, HBY.out⟩
          · exact ⟨⟨i + 1, by go_num, by omega, HTr.out (by rw [HEv.out]; simp; omega), HBY⟩, by simp [intOf]; omega⟩
        · have HC := rowOf_at wz 4 4 rfl (by decide)
          obtain ⟨f0, f1, f2, f3, f4, f5⟩ := HFz.out.six
          go_wp2_with fail
          refine HC.mono ?_
          rintro e w2 ⟨rfl, hb2⟩
          unfold rowV
          obtain ⟨w3, hw3⟩ : ∃ w3, w2.alloc (.cells #[.func (.func 74) #[] #[], .func (.func 75) #[] #[], .func (.func 76) #[] #[]] 88) = w3 := ⟨_, rfl⟩
          obtain ⟨R, hRR⟩ : ∃ R, w2.heap.size = R := ⟨_, rfl⟩
          have nb : Below w2.heap.size w2 w3 := by rw [← hw3]; exact (Below.refl _ _).alloc (Nat.le_refl _) _
          have HF3 : Hid (Full w3 A 54 [.int .i64 k, .int .i64 en, .string nm, .int .i64 4, .int .i64 vn, .string vs]) := (HFz.out.next hb2).next nb
          have HR3 : Hid (Full w3 R 88 [.func (.func 74) #[] #[], .func (.func 75) #[] #[], .func (.func 76) #[] #[]]) := by rw [← hw3, ← hRR]; exact Full.new w2 _ _
          have HB3 : Hid (Below W.heap.size W w3) := (HBz.out.trans (hb2.mono HBz.out.size)).trans (nb.mono (Nat.le_trans HBz.out.size hb2.size))
          clear HC f0 f1 f2 f3 f4 f5 c0 c1 c2 c3 c4 c5 hb2 nb HFz hwz HBz
          obtain ⟨f0, f1, f2, f3, f4, f5⟩ := HF3.out.six
          have r0 := (HR3.out.cell 0 _ rfl).1
          obtain ⟨m, hm⟩ : ∃ m, valOk 4 vn vs.data.toList = m := ⟨_, rfl⟩
          have HM := may_4 w3 vn vs z3
          rw [hm] at HM
          rw [hm] at HEv
          clear hm HR3
          go_wp2_with fail
          refine HM.mono ?_
          rintro e w4 ⟨rfl, hb4⟩
          have HF4 : Hid (Full w4 A 54 [.int .i64 k, .int .i64 en, .string nm, .int .i64 4, .int .i64 vn, .string vs]) := HF3.out.next hb4
          have HBY : Hid (Below W.heap.size W w4) := HB3.out.trans (hb4.mono HB3.out.size)
          clear f0 f1 f2 f3 f4 f5 r0 hw3 HM hb4 HF3 HB3
          obtain ⟨f0, f1, f2, f3, f4, f5⟩ := HF4.out.six
          have hcase : m = false ∨ (m = true ∧ k < 1) ∨ (m = true ∧ 1 ≤ k ∧ 8 < k) ∨ (m = true ∧ 1 ≤ k ∧ k ≤ 8 ∧ en < 0) ∨ (m = true ∧ 1 ≤ k ∧ k ≤ 8 ∧ 0 ≤ en ∧ 40000 ≤ en) ∨ (m = true ∧ 1 ≤ k ∧ k ≤ 8 ∧ 0 ≤ en ∧ en < 40000 ∧ 24 < (nm.size : Int)) ∨ (m = true ∧ 1 ≤ k ∧ k ≤ 8 ∧ 0 ≤ en ∧ en < 40000 ∧ (nm.size : Int) ≤ 24) := by
            cases m
            · simp
            · simp only [true_and, reduceCtorEq, false_or]; omega
          rcases hcase with rfl | ⟨rfl, y1⟩ | ⟨rfl, y1, y2⟩ | ⟨rfl, y1, y2, y3⟩ | ⟨rfl, y1, y2, y3, y4⟩ | ⟨rfl, y1, y2, y3, y4, y5⟩ | ⟨rfl, y1, y2, y3, y4, y5⟩
          all_goals
            go_wp2
          · go_ret
            exact ⟨congrArg (fun b => Ending.returned (.bool b)) (HFa.out (by rw [HEv.out]; rfl)).symm, HBY.out⟩
          iterate 5
            · go_ret
              exact ⟨congrArg (fun b => Ending.returned (.bool b)) (HFa.out (by rw [HEv.out, Bool.eq_false_iff]; simp; omega)).symm, HBY.out⟩
          · exact ⟨⟨i + 1, by go_num, by omega, HTr.out (by rw [HEv.out]; simp; omega), HBY⟩, by simp [intOf]; omega⟩
      · have HC := rowOf_no wz vk hk
        have HV0 : Hid (RV = false) := HFa.out (by
          rw [HEv.out, Bool.eq_false_iff]
          intro h
          simp only [Bool.and_eq_true] at h
          have := valOk_kind h.1.1.1.1.1
          omega)
        obtain ⟨f0, f1, f2, f3, f4, f5⟩ := HFz.out.six
        go_wp2_with fail
        refine HC.mono ?_
        rintro e w2 ⟨rfl, hb2⟩
        have HB2 : Hid (Below W.heap.size W (w2.alloc (.cells #[.nilFunc, .nilFunc, .nilFunc] 88))) := (HBz.out.trans (hb2.mono HBz.out.size)).alloc (Nat.le_trans HBz.out.size hb2.size) _
        clear HC f0 f1 f2 f3 f4 f5 c0 c1 c2 c3 c4 c5 hb2 HFz hwz HBz HEv HTr hk
        go_wp2
        go_ret
        exact ⟨congrArg (fun b => Ending.returned (.bool b)) HV0.out.symm, HB2.out⟩
    · obtain rfl : i = n := by omega
      have qi : ¬ (i : Int) < (i : Int) := by omega
      have HV : Hid (RV = true) := by
        have := HA.out
        rw [← HN.out, List.take_length, HRV.out] at this
        exact this
      clear HR HA him hlt
      go_wp2
      go_ret
      exact ⟨congrArg (fun b => Ending.returned (.bool b)) HV.out.symm, HB.out⟩
end Go.Proofs.YtnecnchdffmhbaaDoor
