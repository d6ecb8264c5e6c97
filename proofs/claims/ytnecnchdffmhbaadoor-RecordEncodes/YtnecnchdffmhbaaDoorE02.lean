import Derived.Test.YtnecnchdffmhbaaDoorO11
namespace Go.Proofs.YtnecnchdffmhbaaDoor
open Go.RowKit

/-- One bit of the sum. -/
def crcP (r : BitVec 32) : BitVec 32 := (r >>> 1) ^^^ (if r.getLsbD 0 then 0xedb88320#32 else 0#32)
def crcI (r : BitVec 32) : Nat → BitVec 32
  | 0 => r
  | k + 1 => crcP (crcI r k)
theorem crcP_xor (a b : BitVec 32) : crcP (a ^^^ b) = crcP a ^^^ crcP b := by
  have h : ∀ p q : BitVec 32, ∀ x y : Bool, (p ^^^ q) ^^^ (if (x ^^ y) then 0xedb88320#32 else 0#32) = (p ^^^ (if x then 0xedb88320#32 else 0#32)) ^^^ (q ^^^ (if y then 0xedb88320#32 else 0#32)) := by
    intro p q x y
    have h1 : (if (x ^^ y) then 0xedb88320#32 else 0#32) = (if x then 0xedb88320#32 else 0#32) ^^^ (if y then 0xedb88320#32 else 0#32) := by cases x <;> cases y <;> decide
    rw [h1, BitVec.xor_assoc, BitVec.xor_assoc]
    congr 1
    rw [← BitVec.xor_assoc, ← BitVec.xor_assoc, BitVec.xor_comm q]
  unfold crcP
  rw [BitVec.getLsbD_xor, BitVec.ushiftRight_xor_distrib]
  exact h _ _ _ _
theorem crcI_xor (a b : BitVec 32) (k : Nat) : crcI (a ^^^ b) k = crcI a k ^^^ crcI b k := by
  induction k with
  | zero => rfl
  | succ k ih => show crcP _ = crcP _ ^^^ crcP _; rw [ih, crcP_xor]
theorem crcI_add (r : BitVec 32) (a b : Nat) : crcI r (a + b) = crcI (crcI r a) b := by
  induction b with
  | zero => rfl
  | succ b ih => show crcP (crcI r (a + b)) = crcP _; rw [← ih]
theorem split4 (r : BitVec 32) : r = (r >>> 4 <<< 4) ^^^ BitVec.ofNat 32 (r.toNat % 16) := by
  apply BitVec.eq_of_getLsbD_eq
  intro i hi
  simp only [BitVec.getLsbD_xor, BitVec.getLsbD_shiftLeft, BitVec.getLsbD_ushiftRight, BitVec.getLsbD_ofNat]
  rw [show (16 : Nat) = 2 ^ 4 from rfl, Nat.testBit_mod_two_pow, BitVec.testBit_toNat]
  by_cases h : i < 4
  · simp [h, hi]
  · have : 4 + (i - 4) = i := by omega
    simp [h, hi, this]
theorem crcP_even (y : BitVec 32) (h : y.getLsbD 0 = false) : crcP y = y >>> 1 := by
  unfold crcP
  rw [h]
  simp
theorem crcI_high (r : BitVec 32) : crcI (r >>> 4 <<< 4) 4 = r >>> 4 := by
  show crcP (crcP (crcP (crcP (r >>> 4 <<< 4)))) = _
  rw [crcP_even (r >>> 4 <<< 4) (by simp)]
  rw [crcP_even ((r >>> 4 <<< 4) >>> 1) (by simp)]
  rw [crcP_even ((r >>> 4 <<< 4) >>> 1 >>> 1) (by simp)]
  rw [crcP_even ((r >>> 4 <<< 4) >>> 1 >>> 1 >>> 1) (by simp)]
  apply BitVec.eq_of_getLsbD_eq
  intro i hi
  simp only [BitVec.getLsbD_shiftLeft, BitVec.getLsbD_ushiftRight]
  by_cases h : i + 4 < 32
  · have h1 : 1 + (1 + (1 + (1 + i))) = 4 + i := by omega
    have h2 : 4 + (4 + i - 4) = 4 + i := by omega
    rw [h1, h2]
    simp
    omega
  · have : r.getLsbD (4 + i) = false := BitVec.getLsbD_of_ge _ _ (by omega)
    have h1 : 1 + (1 + (1 + (1 + i))) = 4 + i := by omega
    have h2 : 4 + (4 + i - 4) = 4 + i := by omega
    rw [h1, h2, this]
    simp
theorem crcI_low : ∀ k : Fin 16, crcI (BitVec.ofNat 32 k.val) 4 = crcT.getD k.val 0#32 := by decide
/-- Four bits are the table's step. -/
theorem crcI_four (r : BitVec 32) : crcI r 4 = crcN r := by
  have h := congrArg (fun x => crcI x 4) (split4 r)
  have h : crcI r 4 = crcI ((r >>> 4 <<< 4) ^^^ BitVec.ofNat 32 (r.toNat % 16)) 4 := h
  rw [h, crcI_xor, crcI_high, crcI_low ⟨r.toNat % 16, Nat.mod_lt _ (by decide)⟩]
  rfl
theorem crcI_eight (r : BitVec 32) (b : UInt8) : crcI (r ^^^ BitVec.ofNat 32 b.toNat) 8 = crcB r b := by
  rw [show (8 : Nat) = 4 + 4 from rfl, crcI_add, crcI_four, crcI_four]
  rfl
theorem crcP_odd_int (a : BitVec 32) (h : a.toNat % 2 = 1) : bits .xor .u32 ((a.toNat : Int) / 2) 3988292384 = ((crcP a).toNat : Int) := by
  have e : ((a.toNat : Int) / (2 : Int)) = ((a >>> 1).toNat : Int) := by rw [BitVec.toNat_ushiftRight, Nat.shiftRight_eq_div_pow]; omega
  have h0 : a.getLsbD 0 = true := by
    show a.toNat.testBit 0 = true
    rw [Nat.testBit_zero, decide_eq_true_iff]
    exact h
  have hx := xor32 (a >>> 1) 0xedb88320#32
  rw [e]
  unfold crcP
  rw [h0]
  exact hx
theorem crcP_even_int (a : BitVec 32) (h : ¬ a.toNat % 2 = 1) : ((a.toNat : Int) / 2) = ((crcP a).toNat : Int) := by
  have e : ((a.toNat : Int) / (2 : Int)) = ((a >>> 1).toNat : Int) := by rw [BitVec.toNat_ushiftRight, Nat.shiftRight_eq_div_pow]; omega
  have h0 : a.getLsbD 0 = false := by
    show a.toNat.testBit 0 = false
    rw [Nat.testBit_zero, decide_eq_false_iff_not]
    exact h
  rw [e, crcP_even a h0]
set_option maxRecDepth 100000 in
set_option maxHeartbeats 1000000 in
theorem rsum_any (W : World) (s : ByteArray) (hs : s.size ≤ 140737488355328) :
    Calls Tryd.prog 49 #[.string s] W fun e w' => e = .returned (.int .u64 (sumS s.data.toList : Int)) ∧ w' = W := by
  have hsz : Hid (s.size = s.data.toList.length) := Lib.size_eq s
  have hq : (s.size : Int) ≤ 9223372036854775807 := by omega
  go_enter Tryd.func49, Tryd.ntmps49
  go_wp2_with fail
  go_loopw [3, 4] (fun v ix wr => ∃ (i r : Nat), ix = .int .i64 (i : Int) ∧ i ≤ s.size ∧ wr = W ∧ v = .int .u32 (r : Int) ∧ r < 4294967296 ∧ Hid (r = (crcR (s.data.toList.take i)).toNat)) (fun _ ix _ => s.size - (intOf ix).toNat)
  case atStart => exact ⟨0, 4294967295, rfl, Nat.zero_le _, rfl, rfl, by omega, rfl⟩
  case round =>
    obtain ⟨i, r, rfl, hi, rfl, rfl, hrb, HRr⟩ := hrel
    have hi0 : (0 : Int) ≤ (i : Int) := by omega
    by_cases hend : i = s.size
    · have HX : Hid (bits BinOp.xor IntKind.u32 (r : Int) IntKind.u32.max = (sumS s.data.toList : Int)) := by
        show bits BinOp.xor IntKind.u32 (r : Int) 4294967295 = _
        have h1 := HRr.out
        rw [hend, hsz.out, List.take_length] at h1
        rw [h1]
        have h2 := xor32 (crcR s.data.toList) (0xffffffff#32)
        rw [BitVec.xor_comm] at h2
        exact h2
      have hsl := sumS_lt s.data.toList
      obtain ⟨z, hz⟩ : ∃ z, sumS s.data.toList = z := ⟨_, rfl⟩
      rw [hz] at HX hsl
      have HY : Hid (IntKind.u64.wrap (bits BinOp.xor IntKind.u32 (r : Int) 4294967295) = (z : Int)) := by
        have h : bits BinOp.xor IntKind.u32 (r : Int) 4294967295 = (z : Int) := HX.out
        show IntKind.u64.wrap _ = _
        rw [h, IntKind.wrap_u64]
        omega
      have HZ : Hid (sumS s.data.toList = z) := hz
      subst hend
      clear HRr hsz hz HX
      go_wp2
      go_ret
      rw [HZ.out]
      exact ⟨congrArg (fun x => Ending.returned (.int .u64 x)) HY.out, rfl⟩
    · have hlt : i < s.size := by omega
      have hil : (i : Int) < (s.size : Int) := by omega
      obtain ⟨c, hc⟩ : ∃ c, s[i]'hlt = c := ⟨_, rfl⟩
      have hcl : s.data.toList[i]? = some c := by rw [List.getElem?_eq_getElem (by rw [← hsz.out]; exact hlt), ← hc]; rfl
      have hct := UInt8.toNat_lt c
      obtain ⟨rb, hrb2⟩ : ∃ rb, crcR (s.data.toList.take i) = rb := ⟨_, rfl⟩
      obtain ⟨r1, hr1⟩ : ∃ r1, (rb ^^^ BitVec.ofNat 32 c.toNat).toNat = r1 := ⟨_, rfl⟩
      have hr1l : r1 < 4294967296 := by rw [← hr1]; exact BitVec.isLt _
      have e1 : bits .xor .u32 (r : Int) (c.toNat : Int) = (r1 : Int) := by
        have e : ((c.toNat : Nat) : Int) = ((BitVec.ofNat 32 c.toNat).toNat : Int) := by
          rw [BitVec.toNat_ofNat]
          omega
        rw [HRr.out, hrb2, e, xor32, hr1]
      have HN : Hid (r1 = (crcI (rb ^^^ BitVec.ofNat 32 c.toNat) 0).toNat ∧ crcI (rb ^^^ BitVec.ofNat 32 c.toNat) 8 = crcR (s.data.toList.take (i + 1))) := ⟨hr1.symm, by rw [crcI_eight, crcR_next _ _ _ hcl, hrb2]⟩
      clear HRr hcl hr1 hrb2
      go_wp2_with fail
      go_loopw [3, 5] (fun v jx wr' => ∃ (j q : Nat), jx = .int .i64 (j : Int) ∧ j ≤ 8 ∧ wr' = wr ∧ v = .int .u32 (q : Int) ∧ q < 4294967296 ∧ Hid (q = (crcI (rb ^^^ BitVec.ofNat 32 c.toNat) j).toNat)) (fun _ jx _ => 8 - (intOf jx).toNat)
      case atStart => exact ⟨0, r1, rfl, by omega, rfl, rfl, hr1l, HN.out.1⟩
      case round =>
        obtain ⟨j, q, rfl, hj, rfl, rfl, hqb, HQ⟩ := hrel
        by_cases hj8 : j = 8
        · subst hj8
          have HN2 : Hid (q = (crcR (s.data.toList.take (i + 1))).toNat) := by
            show q = _
            rw [HQ.out, HN.out.2]
          clear HQ HN
          go_wp2
          exact ⟨⟨i + 1, q, by go_num, by omega, trivial, rfl, hqb, HN2⟩, by simp [intOf]; omega⟩
        · have hjl : (j : Int) < 8 := by omega
          obtain ⟨qb, hqb2⟩ : ∃ qb, crcI (rb ^^^ BitVec.ofNat 32 c.toNat) j = qb := ⟨_, rfl⟩
          have HP : Hid (crcI (rb ^^^ BitVec.ofNat 32 c.toNat) (j + 1) = crcP qb) := by
            show crcP _ = _
            rw [hqb2]
          have hqq : q = qb.toNat := by rw [HQ.out, hqb2]
          obtain ⟨q2, hq2⟩ : ∃ q2, (crcP qb).toNat = q2 := ⟨_, rfl⟩
          have hq2l : q2 < 4294967296 := by rw [← hq2]; exact BitVec.isLt _
          have HP2 : Hid (q2 = (crcI (rb ^^^ BitVec.ofNat 32 c.toNat) (j + 1)).toNat) := by
            show _ = _
            rw [HP.out, hq2]
          by_cases hodd : q % 2 = 1
          · have x1 : (q : Int) % 2 = 1 := by omega
            have x2 : bits .xor .u32 ((q : Int) / 2) 3988292384 = (q2 : Int) := by
              rw [hqq, ← hq2]; exact crcP_odd_int qb (hqq ▸ hodd)
            clear HP hqq hq2 hqb2 HQ HN hodd
            go_wp2
            exact ⟨⟨j + 1, q2, by go_num, by omega, trivial, rfl, hq2l, HP2⟩, by simp [intOf]; omega⟩
          · have x1 : ¬ (q : Int) % 2 = 1 := by omega
            have x2 : (q : Int) / 2 = (q2 : Int) := by
              rw [hqq, ← hq2]; exact crcP_even_int qb (hqq ▸ hodd)
            clear HP hqq hq2 hqb2 HQ HN hodd
            go_wp2
            exact ⟨⟨j + 1, q2, by go_num, by omega, trivial, rfl, hq2l, HP2⟩, by simp [intOf]; omega⟩
end Go.Proofs.YtnecnchdffmhbaaDoor
