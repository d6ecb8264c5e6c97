import Derived.Test.YtdmiciblfbkndaaDoorA13
import Derived.Test.YtdmiciblfbkndaaDoorA11
import Derived.Test.YtdmiciblfbkndaaDoorA12
namespace Go.Proofs.YtdmiciblfbkndaaDoor
open Go.RowKit

theorem wrp_wrap (n : Int) : wrap64 n = wrp n := by unfold wrap64 wrp; omega
/-- A cell of a block that the caller had not. -/
theorem RdQ.box {B : Nat} {W w2 : World} {P R : Nat} {s : Rd} {t : TypeId} {vs : List Value} (h : RdQ B W P s w2) (hB : B ≤ W.heap.size) (hR : W.heap.size ≤ R) (f : Full w2 R t vs) (h1 : t ≠ 9) (h2 : t ≠ 131) (j : Nat) (v : Value) : RdQ B W P s (w2.setCell ⟨R, j, none⟩ v) := by
  obtain ⟨⟨nv, hr⟩, hb, ho⟩ := h.out
  refine ⟨⟨nv, hr.low, hr.box.other1 (hr.box.ne f (Ne.symm h2)), own_oth hr.names f h1 j v⟩, hb.setCell (p := ⟨R, j, none⟩) (Nat.le_trans hB hR) v, fun g t' vs' fg k1 k2 => (ho g t' vs' fg k1 k2).other1 ?_⟩
  have := fg.lt
  show g ≠ R
  omega
/-- A value's three cells, written. -/
theorem RdQ.box3 {B : Nat} {W w2 : World} {P R : Nat} {s : Rd} {a b c : Value} (h : RdQ B W P s w2) (hB : B ≤ W.heap.size) (hR : W.heap.size ≤ R) (f : Full w2 R 35 [a, b, c]) (a' b' c' : Value) : RdQ B W P s (((w2.setCell ⟨R, 0, none⟩ a').setCell ⟨R, 1, none⟩ b').setCell ⟨R, 2, none⟩ c') ∧ Full (((w2.setCell ⟨R, 0, none⟩ a').setCell ⟨R, 1, none⟩ b').setCell ⟨R, 2, none⟩ c') R 35 [a', b', c'] := by
  have f1 := Full.put1 (a := []) (d := [b, c]) f a'
  have f2 := Full.put1 (a := [a']) (d := [c]) f1 b'
  have f3 := Full.put1 (a := [a', b']) (d := []) f2 c'
  exact ⟨((h.box hB hR f (by decide) (by decide) 0 a').box hB hR f1 (by decide) (by decide) 1 b').box hB hR f2 (by decide) (by decide) 2 c', f3⟩
section
variable {B : Nat} {W : World} {P : Nat} {s : Rd}
set_option maxRecDepth 100000 in
theorem read_0 (h : RdS B W P s) :
    Calls Tryd.prog 69 #[.pointer (some ⟨P, 0, none⟩)] W fun e w' => e = .returned (.agg #[.int .i64 0, .int .i64 (vlR 0 s.r).1, sV (vlR 0 s.r).2.1]) ∧ RdQ B W P ⟨s.nd, s.ns, (vlR 0 s.r).2.2⟩ w' := by
  have HV : Hid (vlR 0 s.r = (0, [], s.r)) := rfl
  rw [HV.out]
  obtain ⟨X, hX⟩ : ∃ X, W.alloc (.cells #[.int .i64 0, .int .i64 0, .string ⟨#[]⟩] 35) = X := ⟨_, rfl⟩
  obtain ⟨R, hR⟩ : ∃ R, W.heap.size = R := ⟨_, rfl⟩
  have hq0 : RdQ B W P s X := by rw [← hX]; exact RdQ.of h ((Below.refl _ W).alloc (Nat.le_refl _) _)
  have hf0 : Full X R 35 [.int .i64 0, .int .i64 0, .string ⟨#[]⟩] := by rw [← hX, ← hR]; exact Full.new W _ _
  have HB : Hid (B ≤ W.heap.size ∧ W.heap.size ≤ R) := ⟨h.size, Nat.le_of_eq hR⟩
  have HQ0 : Hid (RdQ B W P s X ∧ Full X R 35 [.int .i64 0, .int .i64 0, .string ⟨#[]⟩]) := ⟨hq0, hf0⟩
  obtain ⟨⟨c0, g0⟩, ⟨c1, g1⟩, c2, g2⟩ := hf0.three
  clear h hq0 hf0
  go_enter Tryd.func69, Tryd.ntmps69
  go_wp2_with fail
  obtain ⟨hq3, hf3⟩ := HQ0.out.1.box3 HB.out.1 HB.out.2 HQ0.out.2 (.int .i64 0) (.int .i64 0) (.string ⟨#[]⟩)
  obtain ⟨⟨k0, -⟩, ⟨k1, -⟩, k2, -⟩ := hf3.three
  exact bodyPost_ret (v := .agg #[.int .i64 0, .int .i64 0, .string ⟨#[]⟩]) (by simp [results, Tryd.results69, go_sem, k0, k1, k2]) rfl ⟨rfl, hq3⟩
set_option maxRecDepth 100000 in
theorem read_1 (h : RdS B W P s) (hz : s.r.length ≤ 140737488355328) :
    Calls Tryd.prog 73 #[.pointer (some ⟨P, 0, none⟩)] W fun e w' => e = .returned (.agg #[.int .i64 0, .int .i64 (vlR 1 s.r).1, sV (vlR 1 s.r).2.1]) ∧ RdQ B W P ⟨s.nd, s.ns, (vlR 1 s.r).2.2⟩ w' := by
  have HV : Hid (vlR 1 s.r = (uz (nR s.r).1, [], (nR s.r).2)) := rfl
  rw [HV.out]
  obtain ⟨X, hX⟩ : ∃ X, W.alloc (.cells #[.int .i64 0, .int .i64 0, .string ⟨#[]⟩] 35) = X := ⟨_, rfl⟩
  obtain ⟨R, hR⟩ : ∃ R, W.heap.size = R := ⟨_, rfl⟩
  have hq0 : RdQ B W P s X := by rw [← hX]; exact RdQ.of h ((Below.refl _ W).alloc (Nat.le_refl _) _)
  have hf0 : Full X R 35 [.int .i64 0, .int .i64 0, .string ⟨#[]⟩] := by rw [← hX, ← hR]; exact Full.new W _ _
  have HB : Hid (B ≤ W.heap.size ∧ W.heap.size ≤ R) := ⟨h.size, Nat.le_of_eq hR⟩
  have HC := rsigned hq0.out.1 hz
  have HQ0 : Hid (RdQ B W P s X ∧ Full X R 35 [.int .i64 0, .int .i64 0, .string ⟨#[]⟩]) := ⟨hq0, hf0⟩


  clear h hq0 hf0 hz
  go_enter Tryd.func73, Tryd.ntmps73
  go_wp2_with fail
  refine HC.mono ?_
  rintro e w2 ⟨rfl, hw2⟩
  have f2 := hw2.out.2.2 _ _ _ HQ0.out.2 (by decide) (by decide)
  obtain ⟨⟨c0, g0⟩, ⟨c1, g1⟩, c2, g2⟩ := f2.three
  have HQ2 := HQ0.out.1.trans hw2
  have HF2 : Hid (Full w2 R 35 [.int .i64 0, .int .i64 0, .string ⟨#[]⟩]) := f2
  clear HC HQ0 hw2 f2 hX
  go_wp2_with fail
  obtain ⟨hq3, hf3⟩ := HQ2.box3 HB.out.1 HB.out.2 HF2.out (.int .i64 0) (.int .i64 (uz (nR s.r).1)) (.string ⟨#[]⟩)
  obtain ⟨⟨k0, -⟩, ⟨k1, -⟩, k2, -⟩ := hf3.three
  exact bodyPost_ret (v := .agg #[.int .i64 0, .int .i64 (uz (nR s.r).1), .string ⟨#[]⟩]) (by simp [results, Tryd.results73, go_sem, k0, k1, k2]) rfl ⟨rfl, hq3⟩
set_option maxRecDepth 100000 in
theorem read_2 (h : RdS B W P s) (hz : s.r.length ≤ 140737488355328) :
    Calls Tryd.prog 77 #[.pointer (some ⟨P, 0, none⟩)] W fun e w' => e = .returned (.agg #[.int .i64 0, .int .i64 (vlR 2 s.r).1, sV (vlR 2 s.r).2.1]) ∧ RdQ B W P ⟨s.nd, s.ns, (vlR 2 s.r).2.2⟩ w' := by
  have HV : Hid (vlR 2 s.r = (((byteR s.r).1.toNat : Int), [], (byteR s.r).2)) := rfl
  rw [HV.out]
  obtain ⟨X, hX⟩ : ∃ X, W.alloc (.cells #[.int .i64 0, .int .i64 0, .string ⟨#[]⟩] 35) = X := ⟨_, rfl⟩
  obtain ⟨R, hR⟩ : ∃ R, W.heap.size = R := ⟨_, rfl⟩
  have hq0 : RdQ B W P s X := by rw [← hX]; exact RdQ.of h ((Below.refl _ W).alloc (Nat.le_refl _) _)
  have hf0 : Full X R 35 [.int .i64 0, .int .i64 0, .string ⟨#[]⟩] := by rw [← hX, ← hR]; exact Full.new W _ _
  have HB : Hid (B ≤ W.heap.size ∧ W.heap.size ≤ R) := ⟨h.size, Nat.le_of_eq hR⟩
  have HC := rbyte hq0.out.1 hz
  have HQ0 : Hid (RdQ B W P s X ∧ Full X R 35 [.int .i64 0, .int .i64 0, .string ⟨#[]⟩]) := ⟨hq0, hf0⟩

  have hct := UInt8.toNat_lt (byteR s.r).1
  clear h hq0 hf0 hz
  go_enter Tryd.func77, Tryd.ntmps77
  go_wp2_with fail
  refine HC.mono ?_
  rintro e w2 ⟨rfl, hw2⟩
  have f2 := hw2.out.2.2 _ _ _ HQ0.out.2 (by decide) (by decide)
  obtain ⟨⟨c0, g0⟩, ⟨c1, g1⟩, c2, g2⟩ := f2.three
  have HQ2 := HQ0.out.1.trans hw2
  have HF2 : Hid (Full w2 R 35 [.int .i64 0, .int .i64 0, .string ⟨#[]⟩]) := f2
  clear HC HQ0 hw2 f2 hX
  go_wp2_with fail
  obtain ⟨hq3, hf3⟩ := HQ2.box3 HB.out.1 HB.out.2 HF2.out (.int .i64 0) (.int .i64 ((byteR s.r).1.toNat : Int)) (.string ⟨#[]⟩)
  obtain ⟨⟨k0, -⟩, ⟨k1, -⟩, k2, -⟩ := hf3.three
  exact bodyPost_ret (v := .agg #[.int .i64 0, .int .i64 ((byteR s.r).1.toNat : Int), .string ⟨#[]⟩]) (by simp [results, Tryd.results77, go_sem, k0, k1, k2]) rfl ⟨rfl, hq3⟩
set_option maxRecDepth 100000 in
theorem read_4 (h : RdS B W P s) (hz : s.r.length ≤ 140737488355328) :
    Calls Tryd.prog 88 #[.pointer (some ⟨P, 0, none⟩)] W fun e w' => e = .returned (.agg #[.int .i64 0, .int .i64 (vlR 4 s.r).1, sV (vlR 4 s.r).2.1]) ∧ RdQ B W P ⟨s.nd, s.ns, (vlR 4 s.r).2.2⟩ w' := by
  have HV : Hid (vlR 4 s.r = (wrp ((nR s.r).1 : Int), [], (nR s.r).2)) := rfl
  rw [HV.out]
  obtain ⟨X, hX⟩ : ∃ X, W.alloc (.cells #[.int .i64 0, .int .i64 0, .string ⟨#[]⟩] 35) = X := ⟨_, rfl⟩
  obtain ⟨R, hR⟩ : ∃ R, W.heap.size = R := ⟨_, rfl⟩
  have hq0 : RdQ B W P s X := by rw [← hX]; exact RdQ.of h ((Below.refl _ W).alloc (Nat.le_refl _) _)
  have hf0 : Full X R 35 [.int .i64 0, .int .i64 0, .string ⟨#[]⟩] := by rw [← hX, ← hR]; exact Full.new W _ _
  have HB : Hid (B ≤ W.heap.size ∧ W.heap.size ≤ R) := ⟨h.size, Nat.le_of_eq hR⟩
  have HC := rnumber hq0.out.1 hz
  have HQ0 : Hid (RdQ B W P s X ∧ Full X R 35 [.int .i64 0, .int .i64 0, .string ⟨#[]⟩]) := ⟨hq0, hf0⟩
  have hlt := nR_lt s.r

  clear h hq0 hf0 hz
  go_enter Tryd.func88, Tryd.ntmps88
  go_wp2_with fail
  refine HC.mono ?_
  rintro e w2 ⟨rfl, hw2⟩
  have f2 := hw2.out.2.2 _ _ _ HQ0.out.2 (by decide) (by decide)
  obtain ⟨⟨c0, g0⟩, ⟨c1, g1⟩, c2, g2⟩ := f2.three
  have HQ2 := HQ0.out.1.trans hw2
  have HF2 : Hid (Full w2 R 35 [.int .i64 0, .int .i64 0, .string ⟨#[]⟩]) := f2
  clear HC HQ0 hw2 f2 hX
  go_wp2_with fail
  obtain ⟨hq3, hf3⟩ := HQ2.box3 HB.out.1 HB.out.2 HF2.out (.int .i64 0) (.int .i64 (wrap64 ((nR s.r).1 : Int))) (.string ⟨#[]⟩)
  obtain ⟨⟨k0, -⟩, ⟨k1, -⟩, k2, -⟩ := hf3.three
  exact bodyPost_ret (v := .agg #[.int .i64 0, .int .i64 (wrap64 ((nR s.r).1 : Int)), .string ⟨#[]⟩]) (by simp [results, Tryd.results88, go_sem, k0, k1, k2]) rfl ⟨by rw [wrp_wrap]; rfl, hq3⟩
set_option maxRecDepth 100000 in
theorem read_3 (h : RdS B W P s) (hz : s.r.length ≤ 140737488355328) :
    Calls Tryd.prog 83 #[.pointer (some ⟨P, 0, none⟩)] W fun e w' => e = .returned (.agg #[.int .i64 0, .int .i64 (vlR 3 s.r).1, sV (vlR 3 s.r).2.1]) ∧ RdQ B W P ⟨s.nd, s.ns, (vlR 3 s.r).2.2⟩ w' := by
  have HV : Hid (vlR 3 s.r = (0, (nR s.r).2.take (nR s.r).1, (nR s.r).2.drop (nR s.r).1)) := rfl
  rw [HV.out]
  obtain ⟨X, hX⟩ : ∃ X, W.alloc (.cells #[.int .i64 0, .int .i64 0, .string ⟨#[]⟩] 35) = X := ⟨_, rfl⟩
  obtain ⟨R, hR⟩ : ∃ R, W.heap.size = R := ⟨_, rfl⟩
  have hq0 : RdQ B W P s X := by rw [← hX]; exact RdQ.of h ((Below.refl _ W).alloc (Nat.le_refl _) _)
  have hf0 : Full X R 35 [.int .i64 0, .int .i64 0, .string ⟨#[]⟩] := by rw [← hX, ← hR]; exact Full.new W _ _
  have HB : Hid (B ≤ W.heap.size ∧ W.heap.size ≤ R) := ⟨h.size, Nat.le_of_eq hR⟩
  have HC := rnumber hq0.out.1 hz
  have HQ0 : Hid (RdQ B W P s X ∧ Full X R 35 [.int .i64 0, .int .i64 0, .string ⟨#[]⟩]) := ⟨hq0, hf0⟩
  have HL : Hid ((nR s.r).1 < 18446744073709551616 ∧ (nR s.r).2.length ≤ 140737488355328) := ⟨nR_lt s.r, Nat.le_trans (nR_len s.r) hz⟩
  clear h hq0 hf0 hz HV
  generalize nR s.r = pr at HC HL ⊢
  obtain ⟨n, r2⟩ := pr
  simp only at HC HL ⊢
  go_enter Tryd.func83, Tryd.ntmps83
  go_wp2_with fail
  refine HC.mono ?_
  rintro e w2 ⟨rfl, hw2⟩
  have HC2 := rbytes hw2.out.1 n HL.out.1 HL.out.2
  have hq2 := HQ0.out.1.trans hw2
  have HF2 : Hid (Full w2 R 35 [.int .i64 0, .int .i64 0, .string ⟨#[]⟩]) := hw2.out.2.2 _ _ _ HQ0.out.2 (by decide) (by decide)
  simp only at HC2
  clear HC HQ0 hw2 hX
  go_wp2_with fail
  refine HC2.mono ?_
  rintro e w3 ⟨rfl, hw3⟩
  have HQ3 := hq2.trans hw3
  have HF3 : Hid (Full w3 R 35 [.int .i64 0, .int .i64 0, .string ⟨#[]⟩]) := hw3.out.2.2 _ _ _ HF2.out (by decide) (by decide)
  obtain ⟨⟨c0, g0⟩, ⟨c1, g1⟩, c2, g2⟩ := HF3.out.three
  obtain ⟨xb, hxb⟩ : ∃ b : ByteArray, b.data.toList = r2.take n := ⟨⟨(r2.take n).toArray⟩, rfl⟩
  have HX : Hid (sV (r2.take n) = .string xb) := sV_at hxb
  rw [HX.out]
  clear HC2 hw3 HF2 hq2 hxb
  go_wp2_with fail
  obtain ⟨hq3, hf3⟩ := HQ3.box3 HB.out.1 HB.out.2 HF3.out (.int .i64 0) (.int .i64 0) (.string xb)
  obtain ⟨⟨k0, -⟩, ⟨k1, -⟩, k2, -⟩ := hf3.three
  exact bodyPost_ret (v := .agg #[.int .i64 0, .int .i64 0, .string xb]) (by simp [results, Tryd.results83, go_sem, k0, k1, k2]) rfl ⟨by rw [HX.out], hq3⟩
end
end Go.Proofs.YtdmiciblfbkndaaDoor

namespace Go.Proofs.YtdmiciblfbkndaaDoor
open Go.RowKit

/-- One bit of the sum. -/
def crcP (r : BitVec 32) : BitVec 32 := (r >>> 1) ^^^ (if r.getLsbD 0 then 0xedb88320#32 else 0#32)
def crcI (r : BitVec 32) : Nat → BitVec 32
  | 0 => r
  | k + 1 => crcP (crcI r k)
theorem crcP_xor (a b : BitVec 32) : crcP (a ^^^ b) = crcP a ^^^ crcP b := by
  have h : ∀ p q : BitVec 32, ∀ x y : Bool, (p ^^^ q) ^^^ (if (x ^^ y) then 0xedb88320#32 else 0#32) = (p ^^^ (if x then 0xedb88320#32 else 0#32)) ^^^ (q ^^^ (if y then 0xedb88320#32 else 0#32)) := by
    intro p q x y
    have h1 : (if (x ^^ y) then 0xedb88320#32 else 0#32) = (if x then 0xedb88320#32 else 0#32) ^^^ (if y then 0xedb88320#32 else 0#32) := by cases x <;> cases y <;> decide
    rw [h1, BitVec.xor_assoc, BitVec.xor_assoc]
    congr 1
    rw [← BitVec.xor_assoc, ← BitVec.xor_assoc, BitVec.xor_comm q]
  unfold crcP
  rw [BitVec.getLsbD_xor, BitVec.ushiftRight_xor_distrib]
  exact h _ _ _ _
theorem crcI_xor (a b : BitVec 32) (k : Nat) : crcI (a ^^^ b) k = crcI a k ^^^ crcI b k := by
  induction k with
  | zero => rfl
  | succ k ih => show crcP _ = crcP _ ^^^ crcP _; rw [ih, crcP_xor]
theorem crcI_add (r : BitVec 32) (a b : Nat) : crcI r (a + b) = crcI (crcI r a) b := by
  induction b with
  | zero => rfl
  | succ b ih => show crcP (crcI r (a + b)) = crcP _; rw [← ih]
theorem split4 (r : BitVec 32) : r = (r >>> 4 <<< 4) ^^^ BitVec.ofNat 32 (r.toNat % 16) := by
  apply BitVec.eq_of_getLsbD_eq
  intro i hi
  simp only [BitVec.getLsbD_xor, BitVec.getLsbD_shiftLeft, BitVec.getLsbD_ushiftRight, BitVec.getLsbD_ofNat]
  rw [show (16 : Nat) = 2 ^ 4 from rfl, Nat.testBit_mod_two_pow, BitVec.testBit_toNat]
  by_cases h : i < 4
  · simp [h, hi]
  · have : 4 + (i - 4) = i := by omega
    simp [h, hi, this]
theorem crcP_even (y : BitVec 32) (h : y.getLsbD 0 = false) : crcP y = y >>> 1 := by
  unfold crcP
  rw [h]
  simp
theorem crcI_high (r : BitVec 32) : crcI (r >>> 4 <<< 4) 4 = r >>> 4 := by
  show crcP (crcP (crcP (crcP (r >>> 4 <<< 4)))) = _
  rw [crcP_even (r >>> 4 <<< 4) (by simp)]
  rw [crcP_even ((r >>> 4 <<< 4) >>> 1) (by simp)]
  rw [crcP_even ((r >>> 4 <<< 4) >>> 1 >>> 1) (by simp)]
  rw [crcP_even ((r >>> 4 <<< 4) >>> 1 >>> 1 >>> 1) (by simp)]
  apply BitVec.eq_of_getLsbD_eq
  intro i hi
  simp only [BitVec.getLsbD_shiftLeft, BitVec.getLsbD_ushiftRight]
  by_cases h : i + 4 < 32
  · have h1 : 1 + (1 + (1 + (1 + i))) = 4 + i := by omega
    have h2 : 4 + (4 + i - 4) = 4 + i := by omega
    rw [h1, h2]
    simp
    omega
  · have : r.getLsbD (4 + i) = false := BitVec.getLsbD_of_ge _ _ (by omega)
    have h1 : 1 + (1 + (1 + (1 + i))) = 4 + i := by omega
    have h2 : 4 + (4 + i - 4) = 4 + i := by omega
    rw [h1, h2, this]
    simp
theorem crcI_low : ∀ k : Fin 16, crcI (BitVec.ofNat 32 k.val) 4 = crcT.getD k.val 0#32 := by decide
/-- Four bits are the table's step. -/
theorem crcI_four (r : BitVec 32) : crcI r 4 = crcN r := by
  have h := congrArg (fun x => crcI x 4) (split4 r)
  have h : crcI r 4 = crcI ((r >>> 4 <<< 4) ^^^ BitVec.ofNat 32 (r.toNat % 16)) 4 := h
  rw [h, crcI_xor, crcI_high, crcI_low ⟨r.toNat % 16, Nat.mod_lt _ (by decide)⟩]
  rfl
theorem crcI_eight (r : BitVec 32) (b : UInt8) : crcI (r ^^^ BitVec.ofNat 32 b.toNat) 8 = crcB r b := by
  rw [show (8 : Nat) = 4 + 4 from rfl, crcI_add, crcI_four, crcI_four]
  rfl
theorem crcP_odd_int (a : BitVec 32) (h : a.toNat % 2 = 1) : bits .xor .u32 ((a.toNat : Int) / 2) 3988292384 = ((crcP a).toNat : Int) := by
  have e : ((a.toNat : Int) / (2 : Int)) = ((a >>> 1).toNat : Int) := by rw [BitVec.toNat_ushiftRight, Nat.shiftRight_eq_div_pow]; omega
  have h0 : a.getLsbD 0 = true := by
    show a.toNat.testBit 0 = true
    rw [Nat.testBit_zero, decide_eq_true_iff]
    exact h
  have hx := xor32 (a >>> 1) 0xedb88320#32
  rw [e]
  unfold crcP
  rw [h0]
  exact hx
theorem crcP_even_int (a : BitVec 32) (h : ¬ a.toNat % 2 = 1) : ((a.toNat : Int) / 2) = ((crcP a).toNat : Int) := by
  have e : ((a.toNat : Int) / (2 : Int)) = ((a >>> 1).toNat : Int) := by rw [BitVec.toNat_ushiftRight, Nat.shiftRight_eq_div_pow]; omega
  have h0 : a.getLsbD 0 = false := by
    show a.toNat.testBit 0 = false
    rw [Nat.testBit_zero, decide_eq_false_iff_not]
    exact h
  rw [e, crcP_even a h0]
set_option maxRecDepth 100000 in
set_option maxHeartbeats 1000000 in
theorem rsum_any (W : World) (s : ByteArray) (hs : s.size ≤ 140737488355328) :
    Calls Tryd.prog 24 #[.string s] W fun e w' => e = .returned (.int .u64 (sumS s.data.toList : Int)) ∧ w' = W := by
  have hsz : Hid (s.size = s.data.toList.length) := Lib.size_eq s
  have hq : (s.size : Int) ≤ 9223372036854775807 := by omega
  go_enter Tryd.func24, Tryd.ntmps24
  go_wp2_with fail
  go_loopw [3, 4] (fun v ix wr => ∃ (i r : Nat), ix = .int .i64 (i : Int) ∧ i ≤ s.size ∧ wr = W ∧ v = .int .u32 (r : Int) ∧ r < 4294967296 ∧ Hid (r = (crcR (s.data.toList.take i)).toNat)) (fun _ ix _ => s.size - (intOf ix).toNat)
  case atStart => exact ⟨0, 4294967295, rfl, Nat.zero_le _, rfl, rfl, by omega, rfl⟩
  case round =>
    obtain ⟨i, r, rfl, hi, rfl, rfl, hrb, HRr⟩ := hrel
    have hi0 : (0 : Int) ≤ (i : Int) := by omega
    by_cases hend : i = s.size
    · have HX : Hid (bits BinOp.xor IntKind.u32 (r : Int) IntKind.u32.max = (sumS s.data.toList : Int)) := by
        show bits BinOp.xor IntKind.u32 (r : Int) 4294967295 = _
        have h1 := HRr.out
        rw [hend, hsz.out, List.take_length] at h1
        rw [h1]
        have h2 := xor32 (crcR s.data.toList) (0xffffffff#32)
        rw [BitVec.xor_comm] at h2
        exact h2
      have hsl := sumS_lt s.data.toList
      obtain ⟨z, hz⟩ : ∃ z, sumS s.data.toList = z := ⟨_, rfl⟩
      rw [hz] at HX hsl
      have HY : Hid (IntKind.u64.wrap (bits BinOp.xor IntKind.u32 (r : Int) 4294967295) = (z : Int)) := by
        have h : bits BinOp.xor IntKind.u32 (r : Int) 4294967295 = (z : Int) := HX.out
        show IntKind.u64.wrap _ = _
        rw [h, IntKind.wrap_u64]
        omega
      have HZ : Hid (sumS s.data.toList = z) := hz
      subst hend
      clear HRr hsz hz HX
      go_wp2
      go_ret
      rw [HZ.out]
      exact ⟨congrArg (fun x => Ending.returned (.int .u64 x)) HY.out, rfl⟩
    · have hlt : i < s.size := by omega
      have hil : (i : Int) < (s.size : Int) := by omega
      obtain ⟨c, hc⟩ : ∃ c, s[i]'hlt = c := ⟨_, rfl⟩
      have hcl : s.data.toList[i]? = some c := by rw [List.getElem?_eq_getElem (by rw [← hsz.out]; exact hlt), ← hc]; rfl
      have hct := UInt8.toNat_lt c
      obtain ⟨rb, hrb2⟩ : ∃ rb, crcR (s.data.toList.take i) = rb := ⟨_, rfl⟩
      obtain ⟨r1, hr1⟩ : ∃ r1, (rb ^^^ BitVec.ofNat 32 c.toNat).toNat = r1 := ⟨_, rfl⟩
      have hr1l : r1 < 4294967296 := by rw [← hr1]; exact BitVec.isLt _
      have e1 : bits .xor .u32 (r : Int) (c.toNat : Int) = (r1 : Int) := by
        have e : ((c.toNat : Nat) : Int) = ((BitVec.ofNat 32 c.toNat).toNat : Int) := by
          rw [BitVec.toNat_ofNat]
          omega
        rw [HRr.out, hrb2, e, xor32, hr1]
      have HN : Hid (r1 = (crcI (rb ^^^ BitVec.ofNat 32 c.toNat) 0).toNat ∧ crcI (rb ^^^ BitVec.ofNat 32 c.toNat) 8 = crcR (s.data.toList.take (i + 1))) := ⟨hr1.symm, by rw [crcI_eight, crcR_next _ _ _ hcl, hrb2]⟩
      clear HRr hcl hr1 hrb2
      go_wp2_with fail
      go_loopw [3, 5] (fun v jx wr' => ∃ (j q : Nat), jx = .int .i64 (j : Int) ∧ j ≤ 8 ∧ wr' = wr ∧ v = .int .u32 (q : Int) ∧ q < 4294967296 ∧ Hid (q = (crcI (rb ^^^ BitVec.ofNat 32 c.toNat) j).toNat)) (fun _ jx _ => 8 - (intOf jx).toNat)
      case atStart => exact ⟨0, r1, rfl, by omega, rfl, rfl, hr1l, HN.out.1⟩
      case round =>
        obtain ⟨j, q, rfl, hj, rfl, rfl, hqb, HQ⟩ := hrel
        by_cases hj8 : j = 8
        · subst hj8
          have HN2 : Hid (q = (crcR (s.data.toList.take (i + 1))).toNat) := by
            show q = _
            rw [HQ.out, HN.out.2]
          clear HQ HN
          go_wp2
          exact ⟨⟨i + 1, q, by go_num, by omega, trivial, rfl, hqb, HN2⟩, by simp [intOf]; omega⟩
        · have hjl : (j : Int) < 8 := by omega
          obtain ⟨qb, hqb2⟩ : ∃ qb, crcI (rb ^^^ BitVec.ofNat 32 c.toNat) j = qb := ⟨_, rfl⟩
          have HP : Hid (crcI (rb ^^^ BitVec.ofNat 32 c.toNat) (j + 1) = crcP qb) := by
            show crcP _ = _
            rw [hqb2]
          have hqq : q = qb.toNat := by rw [HQ.out, hqb2]
          obtain ⟨q2, hq2⟩ : ∃ q2, (crcP qb).toNat = q2 := ⟨_, rfl⟩
          have hq2l : q2 < 4294967296 := by rw [← hq2]; exact BitVec.isLt _
          have HP2 : Hid (q2 = (crcI (rb ^^^ BitVec.ofNat 32 c.toNat) (j + 1)).toNat) := by
            show _ = _
            rw [HP.out, hq2]
          by_cases hodd : q % 2 = 1
          · have x1 : (q : Int) % 2 = 1 := by omega
            have x2 : bits .xor .u32 ((q : Int) / 2) 3988292384 = (q2 : Int) := by
              rw [hqq, ← hq2]; exact crcP_odd_int qb (hqq ▸ hodd)
            clear HP hqq hq2 hqb2 HQ HN hodd
            go_wp2
            exact ⟨⟨j + 1, q2, by go_num, by omega, trivial, rfl, hq2l, HP2⟩, by simp [intOf]; omega⟩
          · have x1 : ¬ (q : Int) % 2 = 1 := by omega
            have x2 : (q : Int) / 2 = (q2 : Int) := by
              rw [hqq, ← hq2]; exact crcP_even_int qb (hqq ▸ hodd)
            clear HP hqq hq2 hqb2 HQ HN hodd
            go_wp2
            exact ⟨⟨j + 1, q2, by go_num, by omega, trivial, rfl, hq2l, HP2⟩, by simp [intOf]; omega⟩
end Go.Proofs.YtdmiciblfbkndaaDoor

namespace Go.Proofs.YtdmiciblfbkndaaDoor
open Go.RowKit

set_option maxRecDepth 100000 in
set_option maxHeartbeats 1000000 in
theorem rchunk_any (W : World) (s : ByteArray) (hs : s.size ≤ 100000000000000) :
    Calls Tryd.prog 15 #[.string s] W fun e w' => e = .returned (.string ⟨(chS s.data.toList).toArray⟩) ∧ Below W.heap.size W w' := by
  have hsz : Hid (s.size = s.data.toList.length) := Lib.size_eq s
  have HC := wide_any W s.size 4 (by omega) (by decide)
  go_enter Tryd.func15, Tryd.ntmps15
  go_wp2_with fail
  refine HC.mono ?_
  rintro e w1 ⟨rfl, hb1⟩
  have hl4 : (⟨(fxS s.size 4).toArray⟩ : ByteArray).size = 4 := by rw [ba_size, fxS_len]
  have hz : (⟨(fxS s.size 4).toArray⟩ : ByteArray).size + s.size ≤ 9223372036854775807 := by omega
  obtain ⟨hd, hhd⟩ : ∃ hd : ByteArray, (⟨(fxS s.size 4).toArray⟩ : ByteArray) = hd := ⟨_, rfl⟩
  rw [hhd] at hl4 hz ⊢
  have hbl : (hd ++ s).size = 4 + s.size := by rw [ByteArray.size_append]; omega
  have HB1 : Hid (Below W.heap.size W w1) := hb1
  have HC2 := rsum_any w1 (hd ++ s) (by omega)
  have HSL := sumS_lt (hd ++ s).data.toList
  have HC3 := wide_any w1 (sumS (hd ++ s).data.toList) 4 (by omega) (by decide)
  clear HC hb1 hbl
  go_wp2_with fail
  refine HC2.mono ?_
  rintro e w2 ⟨rfl, rfl⟩
  have q1 : (0 : Int) ≤ (sumS (hd ++ s).data.toList : Int) := by omega
  have q2 : (sumS (hd ++ s).data.toList : Int) ≤ 9223372036854775807 := by omega
  obtain ⟨sm, hsm⟩ : ∃ sm, sumS (hd ++ s).data.toList = sm := ⟨_, rfl⟩
  rw [hsm] at HC3 HSL q1 q2 ⊢
  clear HC2
  go_wp2_with fail
  refine HC3.mono ?_
  rintro e w3 ⟨rfl, hb3⟩
  have hl5 : (⟨(fxS sm 4).toArray⟩ : ByteArray).size = 4 := by rw [ba_size, fxS_len]
  have hz2 : (hd ++ s).size + (⟨(fxS sm 4).toArray⟩ : ByteArray).size ≤ 9223372036854775807 := by rw [ByteArray.size_append]; omega
  have HV : Hid ((hd ++ s) ++ (⟨(fxS sm 4).toArray⟩ : ByteArray) = ⟨(chS s.data.toList).toArray⟩) := by
    apply ba_of
    rw [cat_list, cat_list, ← hsm, cat_list, ← hhd]
    unfold chS
    rw [← hsz.out]
  have HB3 : Hid (Below W.heap.size W w3) := below2 HB1.out hb3
  clear HC3 hb3 hhd hsm
  go_wp2
  go_ret
  exact ⟨congrArg (fun x => Ending.returned (.string x)) HV.out, HB3.out⟩
end Go.Proofs.YtdmiciblfbkndaaDoor
