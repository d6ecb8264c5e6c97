import Derived.Test.YtnecnchdffmhbaaDoorO12
import Derived.Test.YtnecnchdffmhbaaDoorO01
import Derived.Test.YtnecnchdffmhbaaDoorO11
namespace Go.Proofs.YtnecnchdffmhbaaDoor
open Go.RowKit

set_option maxRecDepth 100000 in
theorem hasPre_any (W : World) (s t : ByteArray) (hs : s.size ≤ 140737488355328) (ht : t.size ≤ 1000) :
    Calls Tryd.prog 83 #[.string s, .string t] W fun e w' => e = .returned (.bool (decide (s.data.toList.take t.size = t.data.toList))) ∧ w' = W := by
  have hz := Lib.size_eq s
  have hzt := Lib.size_eq t
  by_cases hle : t.size ≤ s.size
  · obtain ⟨x, hx⟩ : ∃ x : ByteArray, x.data.toList = s.data.toList.take t.size := ⟨⟨(s.data.toList.take t.size).toArray⟩, rfl⟩
    have R1 := sl_to (s := s) (x := x) (k := t.size) hle hx
    have q1 : (t.size : Int) ≤ (s.size : Int) := by omega
    have q2 : (s.size : Int) ≤ 9223372036854775807 := by omega
    have q3 : (t.size : Int) ≤ 9223372036854775807 := by omega
    have HV : Hid ((x.toList == t.toList) = decide (s.data.toList.take t.size = t.data.toList)) := by
      show _ = _
      rw [toL, toL, hx, Bool.eq_iff_iff]
      simp
    clear hz hzt hx hs ht hle
    go_enter Tryd.func83, Tryd.ntmps83
    go_wp2_with fail
    go_ret
    exact ⟨congrArg (fun x => Ending.returned (.bool x)) HV.out, rfl⟩
  · have q1 : (s.size : Int) < (t.size : Int) := by omega
    have q2 : (s.size : Int) ≤ 9223372036854775807 := by omega
    have q3 : (t.size : Int) ≤ 9223372036854775807 := by omega
    have HV : Hid (decide (s.data.toList.take t.size = t.data.toList) = false) := by
      show _ = _
      rw [decide_eq_false_iff_not]
      intro h
      have := congrArg List.length h
      rw [List.length_take] at this
      omega
    clear hz hzt hs ht hle
    go_enter Tryd.func83, Tryd.ntmps83
    go_wp2_with fail
    go_ret
    exact ⟨congrArg (fun x => Ending.returned (.bool x)) HV.out.symm, rfl⟩
/-- What CutPrefix answers. -/
def cutP (l p : List UInt8) : List UInt8 × Bool := if l.take p.length = p then (l.drop p.length, true) else (l, false)
set_option maxRecDepth 100000 in
theorem cutPre_any (W : World) (s t : ByteArray) (hs : s.size ≤ 140737488355328) (ht : t.size ≤ 1000) :
    Calls Tryd.prog 50 #[.string s, .string t] W fun e w' => e = .returned (.tuple #[sV (cutP s.data.toList t.data.toList).1, .bool (cutP s.data.toList t.data.toList).2]) ∧ w' = W := by
  have HC := hasPre_any W s t hs ht
  have hz := Lib.size_eq s
  have hzt := Lib.size_eq t
  have q2 : (s.size : Int) ≤ 9223372036854775807 := by omega
  have q3 : (t.size : Int) ≤ 9223372036854775807 := by omega
  by_cases h : s.data.toList.take t.size = t.data.toList
  · have hle : t.size ≤ s.size := by
      have := congrArg List.length h
      rw [List.length_take] at this
      omega
    obtain ⟨x, hx⟩ : ∃ x : ByteArray, x.data.toList = s.data.toList.drop t.size := ⟨⟨(s.data.toList.drop t.size).toArray⟩, rfl⟩
    have R1 := sl_from (s := s) (x := x) (k := t.size) hle hx
    have HV : Hid (cutP s.data.toList t.data.toList = (x.data.toList, true)) := by
      show cutP _ _ = _
      unfold cutP
      rw [← hzt, if_pos h, hx]
    have HX : Hid (sV x.data.toList = .string x) := sV_at rfl
    rw [HV.out]
    simp only
    rw [HX.out]
    rw [decide_eq_true h] at HC
    clear h hz hzt hle hx hs ht
    go_enter Tryd.func50, Tryd.ntmps50
    go_wp2_with fail
    refine HC.mono ?_
    rintro e w2 ⟨rfl, rfl⟩
    clear HC
    go_wp2_with fail
    go_ret2
    exact ⟨rfl, rfl⟩
  · have HV : Hid (cutP s.data.toList t.data.toList = (s.data.toList, false)) := by
      show cutP _ _ = _
      unfold cutP
      rw [← hzt, if_neg h]
    have HX : Hid (sV s.data.toList = .string s) := sV_at rfl
    rw [HV.out]
    simp only
    rw [HX.out]
    rw [decide_eq_false h] at HC
    clear h hz hzt hs ht
    go_enter Tryd.func50, Tryd.ntmps50
    go_wp2_with fail
    refine HC.mono ?_
    rintro e w2 ⟨rfl, rfl⟩
    clear HC
    go_wp2_with fail
    go_ret2
    exact ⟨rfl, rfl⟩
set_option maxRecDepth 100000 in
theorem cut_any (W : World) (s t : ByteArray) (hs : s.size ≤ 140737488355328) (ht : t.size ≤ 1000) :
    Calls Tryd.prog 35 #[.string s, .string t] W fun e w' => e = .returned (.tuple #[sV (cutP s.data.toList t.data.toList).1, .bool (cutP s.data.toList t.data.toList).2]) ∧ w' = W := by
  have HC := cutPre_any W s t hs ht
  generalize cutP s.data.toList t.data.toList = pr at HC ⊢
  obtain ⟨a, b⟩ := pr
  clear hs ht
  go_enter Tryd.func35, Tryd.ntmps35
  go_wp2_with fail
  refine HC.mono ?_
  rintro e w2 ⟨rfl, rfl⟩
  clear HC
  go_wp2_with fail
  go_ret2
  exact ⟨rfl, rfl⟩
end Go.Proofs.YtnecnchdffmhbaaDoor

namespace Go.Proofs.YtnecnchdffmhbaaDoor
open Go.RowKit

theorem numR_lt : ∀ (k sh acc : Nat) (r : List UInt8), acc < 18446744073709551616 → acc < 2 ^ sh → sh + 7 * k ≤ 70 → (numR k sh acc r).1 < 18446744073709551616 := by
  intro k
  induction k with
  | zero => intro sh acc r h _ _; exact h
  | succ k ih =>
    intro sh acc r h hs hk
    rw [numR_step]
    have hm : (byteR r).1.toNat % 128 ≤ 127 := by omega
    generalize (byteR r).1.toNat % 128 = m at hm
    have hp : 2 ^ sh ≤ 2 ^ 63 := Nat.pow_le_pow_right (by decide) (by omega)
    have h63 : (2 : Nat) ^ 63 = 9223372036854775808 := by decide
    have hmul : m * 2 ^ sh ≤ 127 * 2 ^ sh := Nat.mul_le_mul_right _ hm
    have hp7 : 2 ^ (sh + 7) = 2 ^ sh * 128 := by rw [Nat.pow_add]
    have hb : acc + m * 2 ^ sh % 18446744073709551616 < 18446744073709551616 := by
      by_cases h9 : sh ≤ 56
      · have : 2 ^ sh ≤ 2 ^ 56 := Nat.pow_le_pow_right (by decide) h9
        have h56 : (2 : Nat) ^ 56 = 72057594037927936 := by decide
        omega
      · have e : sh = 57 ∨ sh = 58 ∨ sh = 59 ∨ sh = 60 ∨ sh = 61 ∨ sh = 62 ∨ sh = 63 := by omega
        rcases e with rfl | rfl | rfl | rfl | rfl | rfl | rfl <;> omega
    split
    · exact hb
    · refine ih (sh + 7) _ _ hb ?_ (by omega)
      rw [hp7]
      have := Nat.mod_le (m * 2 ^ sh) 18446744073709551616
      omega
theorem nR_lt (r : List UInt8) : (nR r).1 < 18446744073709551616 := numR_lt 10 0 0 r (by decide) (by decide) (by decide)
theorem byteR_len (r : List UInt8) : (byteR r).2.length ≤ r.length := by cases r <;> simp [byteR]
theorem numR_len : ∀ (k sh acc : Nat) (r : List UInt8), (numR k sh acc r).2.length ≤ r.length := by
  intro k
  induction k with
  | zero => intro sh acc r; exact Nat.le_refl _
  | succ k ih =>
    intro sh acc r
    rw [numR_step]
    have := byteR_len r
    split
    · exact this
    · exact Nat.le_trans (ih _ _ _) this
theorem nR_len (r : List UInt8) : (nR r).2.length ≤ r.length := numR_len _ _ _ _
theorem and1 (n : Int) (h0 : 0 ≤ n) (h1 : n < 18446744073709551616) : bits .and .u64 n 1 = n % 2 := by
  have h := bits_mask .u64 64 (by decide) wraps_u64 1 (by decide) n h0 (by omega)
  have e2 : ((2 : Int) ^ 1) = 2 := by decide
  simp only [e2] at h
  rw [show (1 : Int) = 2 - 1 by decide, h]
theorem ofInt64 (a : Int) (h0 : 0 ≤ a) (h1 : a < 9223372036854775808) : (BitVec.ofInt 64 a).toNat = a.toNat := by
  rw [BitVec.toNat_ofInt]
  have : (2 : Nat) ^ 64 = 18446744073709551616 := by decide
  omega
theorem xor_i64_neg (a : Int) (h0 : 0 ≤ a) (h1 : a < 9223372036854775808) : bits .xor .i64 a (-1) = -a - 1 := by
  unfold bits
  show IntKind.i64.wrap (((BitVec.ofInt 64 a ^^^ BitVec.ofInt 64 (-1)).toNat : Nat) : Int) = _
  rw [show BitVec.ofInt 64 (-1) = BitVec.allOnes 64 from rfl, BitVec.xor_allOnes, BitVec.toNat_not, ofInt64 a h0 h1, IntKind.wrap_i64]
  have : (2 : Nat) ^ 64 = 18446744073709551616 := by decide
  omega
theorem xor_i64_zero (a : Int) (h0 : 0 ≤ a) (h1 : a < 9223372036854775808) : bits .xor .i64 a 0 = a := by
  unfold bits
  show IntKind.i64.wrap (((BitVec.ofInt 64 a ^^^ BitVec.ofInt 64 0).toNat : Nat) : Int) = _
  rw [show BitVec.ofInt 64 0 = 0#64 from rfl, BitVec.xor_zero, ofInt64 a h0 h1, IntKind.wrap_i64]
  omega
theorem xor_uz (n : Nat) (h : n < 18446744073709551616) : bits BinOp.xor IntKind.i64 ((n : Int) / 2) (wrap64 (-wrap64 (bits BinOp.and IntKind.u64 (n : Int) 1))) = uz n := by
  rw [and1 _ (by omega) (by omega)]
  unfold uz
  by_cases h1 : n % 2 = 1
  · rw [if_pos h1, show wrap64 (-wrap64 ((n : Int) % 2)) = -1 by unfold wrap64; omega, xor_i64_neg _ (by omega) (by omega)]
    omega
  · rw [if_neg h1, show wrap64 (-wrap64 ((n : Int) % 2)) = 0 by unfold wrap64; omega, xor_i64_zero _ (by omega) (by omega)]
    omega
/-- The run of an append of a name to the reader's names. -/
theorem Rdr.nam {B : Nat} {W : World} {P : Nat} {s : Rd} {nv : Value} (h : Rdr B W P s nv) (x : ByteArray) (hl : s.ns.length + 1 ≤ 100000000) : ∃ q cp w2,
    (Builtin.append_ #[94, 94] 94 #[nv, .slice (some ⟨W.heap.size, 0, none⟩) 1 1]).run Tryd.prog (W.alloc (.cells #[.string x] 9)) = .ok (.slice q (s.ns.length + 1) cp) w2 ∧
    w2.cell? ⟨P, 1, none⟩ = some nv ∧ w2.frozen? ⟨P, 1, none⟩ = false ∧ RdQ B W P ⟨s.nd, s.ns ++ [x.data.toList], s.r⟩ (w2.setCell ⟨P, 1, none⟩ (.slice q (s.ns.length + 1) cp)) := by
  have bZ : Below W.heap.size W (W.alloc (.cells #[.string x] 9)) := (Below.refl _ W).alloc (Nat.le_refl _) _
  have hZ := h.next bZ
  have fZ : Full (W.alloc (.cells #[.string x] 9)) W.heap.size 9 [.string x] := Full.new W _ _
  obtain ⟨nv', w2, r9, o9, g9⟩ := app_any (P := Tryd.prog) 94 94 _ 16 Tryd.underlying94 infoS rfl (by decide) (by decide) nv s.ns.length _ hZ.names W.heap.size [.string x] rfl (by simp [Value.oneCell']) fZ.range (by omega) hZ.size
  obtain ⟨q9, k9, rfl, -, -⟩ := own_slice o9
  rw [show [Value.string x] = [sV x.data.toList] by rw [sV_at rfl]] at o9
  have f : Full w2 P 130 [.int .i64 s.nd, nv, sV s.r] := hZ.box.grow hZ.names (by decide) g9
  have b : Below B W w2 := (bZ.mono h.size).trans ((Below.refl B _).grown g9 hZ.size (own_ge hZ.names))
  have ho' : w2.ownsRow B 9 1 (.slice q9 (s.ns.length + 1) k9) (s.ns ++ [x.data.toList]).length ((s.ns ++ [x.data.toList]).map sV) := by simpa using o9
  have f9 := f.three
  exact ⟨q9, k9, w2, r9, f9.2.1.1, f9.2.1.2, ⟨⟨_, h.low, Full.put1 (a := [.int .i64 s.nd]) (d := [sV s.r]) f _, own_oth ho' f (by decide) 1 _⟩, b.setCell (p := ⟨P, 1, none⟩) h.low _, fun g t vs fg h1 h2 => ((fg.next bZ).grow hZ.names (Ne.symm h1) g9).other1 (((fg.next bZ).grow hZ.names (Ne.symm h1) g9).ne f h2)⟩⟩
section
variable {B : Nat} {W : World} {P : Nat} {s : Rd}
set_option maxRecDepth 100000 in
theorem rsigned (h : RdS B W P s) (hz : s.r.length ≤ 140737488355328) :
    Calls Tryd.prog 62 #[.pointer (some ⟨P, 0, none⟩)] W fun e w' => e = .returned (.int .i64 (uz (nR s.r).1)) ∧ RdQ B W P ⟨s.nd, s.ns, (nR s.r).2⟩ w' := by
  have HC := rnumber h hz
  have hlt := nR_lt s.r
  obtain ⟨n, hn⟩ : ∃ n, (nR s.r).1 = n := ⟨_, rfl⟩
  rw [hn] at HC hlt ⊢
  have q0 : (0 : Int) ≤ (n : Int) := by omega
  have q1 : (n : Int) < 18446744073709551616 := by omega
  clear hn
  go_enter Tryd.func62, Tryd.ntmps62
  go_wp2_with fail
  refine HC.mono ?_
  rintro e w2 ⟨rfl, hw2⟩
  clear HC
  have HV : Hid (bits BinOp.xor IntKind.i64 ((n : Int) / 2) (wrap64 (-wrap64 (bits BinOp.and IntKind.u64 (n : Int) 1))) = uz n) := xor_uz n hlt
  go_wp2
  go_ret
  exact ⟨congrArg (fun x => Ending.returned (.int .i64 x)) HV.out, hw2⟩
set_option maxRecDepth 100000 in
theorem rname (h : RdS B W P s) (hz : s.r.length ≤ 140737488355328) (hns : s.ns.length ≤ 900) :
    Calls Tryd.prog 92 #[.pointer (some ⟨P, 0, none⟩)] W fun e w' => e = .returned (sV (nmR s.ns s.r).1) ∧ RdQ B W P ⟨s.nd, (nmR s.ns s.r).2.1, (nmR s.ns s.r).2.2⟩ w' := by
  obtain ⟨nd, ns, r⟩ := s
  simp only at hz hns
  have HC := rnumber h hz
  have hlt := nR_lt r
  have hln := nR_len r
  simp only at HC ⊢
  obtain ⟨p, hp⟩ : ∃ p, (nR r).1 = p := ⟨_, rfl⟩
  obtain ⟨r1, hr1⟩ : ∃ r1, (nR r).2 = r1 := ⟨_, rfl⟩
  rw [hp] at hlt
  rw [hr1] at hln
  have hq : p = 0 ∨ (∃ k, p = k + 1 ∧ k < ns.length) ∨ ns.length < p := by
    rcases Nat.eq_zero_or_pos p with h0 | h0
    · exact .inl h0
    · rcases Nat.lt_or_ge ns.length p with h1 | h1
      · exact .inr (.inr h1)
      · exact .inr (.inl ⟨p - 1, by omega, by omega⟩)
  rcases hq with rfl | ⟨k, rfl, hk⟩ | hgt
  · have HV : Hid (nmR ns r = ([], ns, r1)) := by show nmR _ _ = _; unfold nmR; simp only; rw [hp, if_pos rfl, hr1]
    rw [HV.out]
    rw [hp, hr1] at HC
    clear h hz hns hlt hln hp hr1
    go_enter Tryd.func92, Tryd.ntmps92
    go_wp2_with fail
    refine HC.mono ?_
    rintro e w2 ⟨rfl, hw2⟩
    clear HC
    go_wp2
    go_ret
    exact ⟨rfl, hw2⟩
  · obtain ⟨x, hx⟩ : ∃ x, ns[k]? = some x := ⟨ns[k], List.getElem?_eq_getElem hk⟩
    have HV : Hid (nmR ns r = (x, ns, r1)) := by
      show nmR _ _ = _
      unfold nmR
      simp only
      rw [hp, if_neg (by omega), if_pos (by omega), hr1, Nat.add_sub_cancel, List.getD_eq_getElem?_getD, hx]
      rfl
    rw [HV.out]
    rw [hp, hr1] at HC
    have q1 : (k : Int) + 1 < 18446744073709551616 := by omega
    have q2 : (k : Int) + 1 ≤ (ns.length : Int) := by omega
    have q3 : (k : Int) < (ns.length : Int) := by omega
    have q4 : (0 : Int) ≤ (k : Int) := by omega
    have q5 : (ns.length : Int) < 18446744073709551616 := by omega
    have q6 : ((k : Int) + 1 == 0) = false := by rw [beq_eq_false_iff_ne]; omega
    have ek : (((k + 1 : Nat)) : Int) = (k : Int) + 1 := by omega
    rw [ek] at HC
    obtain ⟨xb, hxb⟩ : ∃ b : ByteArray, b.data.toList = x := ⟨⟨x.toArray⟩, rfl⟩
    rw [show sV x = .string xb from sV_at hxb]
    have HX : Hid (ns[k]? = some x ∧ xb.data.toList = x ∧ 0 < ns.length) := ⟨hx, hxb, by omega⟩
    clear h hz hlt hln hp hr1 hk ek hx hxb
    go_enter Tryd.func92, Tryd.ntmps92
    go_wp2_with fail
    refine HC.mono ?_
    rintro e w2 ⟨rfl, hw2⟩
    clear HC
    obtain ⟨q, cap, -, ⟨c1, -⟩, -, -, hrow⟩ := hw2.out.1.cells
    obtain ⟨g, o, rfl, -, hrg⟩ := hrow HX.out.2.2
    have cx : w2.cell? ⟨g, o + k, none⟩ = some (.string xb) := hrg k (.string xb) (by rw [List.getElem?_map, HX.out.1]; exact congrArg some (sV_at HX.out.2.1))
    simp only at c1
    clear hrow hrg HX
    go_wp2
    go_ret
    exact ⟨rfl, hw2⟩
  · obtain ⟨c, hc⟩ : ∃ c, (byteR r1).1 = c := ⟨_, rfl⟩
    obtain ⟨r2, hr2⟩ : ∃ r2, (byteR r1).2 = r2 := ⟨_, rfl⟩
    have HV : Hid (nmR ns r = (r2.take c.toNat, ns ++ [r2.take c.toNat], r2.drop c.toNat)) := by
      show nmR _ _ = _
      unfold nmR
      simp only
      rw [hp, if_neg (by omega), if_neg (by omega), hr1, hc, hr2]
    rw [HV.out]
    rw [hp, hr1] at HC
    have q2 : (ns.length : Int) < (p : Int) := by omega
    have q5 : IntKind.u64.wrap (ns.length : Int) = (ns.length : Int) := by rw [IntKind.wrap_u64]; omega
    have q6 : ((p : Int) == 0) = false := by rw [beq_eq_false_iff_ne]; omega
    have HL : Hid (r1.length ≤ 140737488355328 ∧ r2.length ≤ 140737488355328 ∧ ns.length ≤ 900) := ⟨by omega, by have := byteR_len r1; rw [hr2] at this; omega, hns⟩
    have HB : Hid ((byteR r1).1 = c ∧ (byteR r1).2 = r2) := ⟨hc, hr2⟩
    have hct := UInt8.toNat_lt c
    have q7 : (c.toNat : Int) < 256 := by omega
    clear h hz hlt hln hp hr1 hgt hc hr2 hns
    go_enter Tryd.func92, Tryd.ntmps92
    go_wp2_with fail
    refine HC.mono ?_
    rintro e w2 ⟨rfl, hw2⟩
    obtain ⟨q, cap, -, ⟨c1, -⟩, -, -, hrow⟩ := hw2.out.1.cells
    simp only at c1
    have HC2 := rbyte hw2.out.1 HL.out.1
    simp only [HB.out.1, HB.out.2] at HC2
    clear HC hrow
    go_wp2_with fail
    refine HC2.mono ?_
    rintro e w3 ⟨rfl, hw3⟩
    have HC3 := rbytes hw3.out.1 c.toNat (by omega) HL.out.2.1
    simp only at HC3
    clear HC2 c1 q2 q5 q6
    go_wp2_with fail
    refine HC3.mono ?_
    rintro e w4 ⟨rfl, hw4⟩
    obtain ⟨xb, hxb⟩ : ∃ b : ByteArray, b.data.toList = r2.take c.toNat := ⟨⟨(r2.take c.toNat).toArray⟩, rfl⟩
    have hq4 := hw2.trans (hw3.trans hw4)
    obtain ⟨nv, h4⟩ := hw4.out.1
    obtain ⟨q9, k9, w9, r9, d1, d2, hK⟩ := h4.nam xb (by have := HL.out.2.2; simp only; omega)
    have HQ := hq4.trans hK
    simp only [hxb] at HQ r9
    obtain ⟨-, ⟨c1, -⟩, -, -⟩ := h4.box.three
    have HXb : Hid (sV (r2.take c.toNat) = .string xb) := sV_at hxb
    rw [show sV (r2.take c.toNat) = .string xb from sV_at hxb]
    obtain ⟨qn, cn, rfl, -, -⟩ := own_slice h4.names
    clear HC3 hw2 hw3 hw4 hq4 h4 hK hxb hct q7
    go_wp2_with (at_builtin; refine wpList_run rfl _ _ _ _ _ _ _ r9 (by rfl) (by rfl) (by rfl) (by rfl) ?_)
    go_ret
    exact ⟨congrArg Ending.returned HXb.out.symm, HQ⟩
end
end Go.Proofs.YtnecnchdffmhbaaDoor

namespace Go.Proofs.YtnecnchdffmhbaaDoor
open Go.RowKit

theorem wrp_wrap (n : Int) : wrap64 n = wrp n := by unfold wrap64 wrp; omega
/-- A cell of a block that the caller had not. -/
theorem RdQ.box {B : Nat} {W w2 : World} {P R : Nat} {s : Rd} {t : TypeId} {vs : List Value} (h : RdQ B W P s w2) (hB : B ≤ W.heap.size) (hR : W.heap.size ≤ R) (f : Full w2 R t vs) (h1 : t ≠ 9) (h2 : t ≠ 130) (j : Nat) (v : Value) : RdQ B W P s (w2.setCell ⟨R, j, none⟩ v) := by
  obtain ⟨⟨nv, hr⟩, hb, ho⟩ := h.out
  refine ⟨⟨nv, hr.low, hr.box.other1 (hr.box.ne f (Ne.symm h2)), own_oth hr.names f h1 j v⟩, hb.setCell (p := ⟨R, j, none⟩) (Nat.le_trans hB hR) v, fun g t' vs' fg k1 k2 => (ho g t' vs' fg k1 k2).other1 ?_⟩
  have := fg.lt
  show g ≠ R
  omega
/-- A value's three cells, written. -/
theorem RdQ.box3 {B : Nat} {W w2 : World} {P R : Nat} {s : Rd} {a b c : Value} (h : RdQ B W P s w2) (hB : B ≤ W.heap.size) (hR : W.heap.size ≤ R) (f : Full w2 R 52 [a, b, c]) (a' b' c' : Value) : RdQ B W P s (((w2.setCell ⟨R, 0, none⟩ a').setCell ⟨R, 1, none⟩ b').setCell ⟨R, 2, none⟩ c') ∧ Full (((w2.setCell ⟨R, 0, none⟩ a').setCell ⟨R, 1, none⟩ b').setCell ⟨R, 2, none⟩ c') R 52 [a', b', c'] := by
  have f1 := Full.put1 (a := []) (d := [b, c]) f a'
  have f2 := Full.put1 (a := [a']) (d := [c]) f1 b'
  have f3 := Full.put1 (a := [a', b']) (d := []) f2 c'
  exact ⟨((h.box hB hR f (by decide) (by decide) 0 a').box hB hR f1 (by decide) (by decide) 1 b').box hB hR f2 (by decide) (by decide) 2 c', f3⟩
section
variable {B : Nat} {W : World} {P : Nat} {s : Rd}
set_option maxRecDepth 100000 in
theorem read_0 (h : RdS B W P s) :
    Calls Tryd.prog 57 #[.pointer (some ⟨P, 0, none⟩)] W fun e w' => e = .returned (.agg #[.int .i64 0, .int .i64 (vlR 0 s.r).1, sV (vlR 0 s.r).2.1]) ∧ RdQ B W P ⟨s.nd, s.ns, (vlR 0 s.r).2.2⟩ w' := by
  have HV : Hid (vlR 0 s.r = (0, [], s.r)) := rfl
  rw [HV.out]
  obtain ⟨X, hX⟩ : ∃ X, W.alloc (.cells #[.int .i64 0, .int .i64 0, .string ⟨#[]⟩] 52) = X := ⟨_, rfl⟩
  obtain ⟨R, hR⟩ : ∃ R, W.heap.size = R := ⟨_, rfl⟩
  have hq0 : RdQ B W P s X := by rw [← hX]; exact RdQ.of h ((Below.refl _ W).alloc (Nat.le_refl _) _)
  have hf0 : Full X R 52 [.int .i64 0, .int .i64 0, .string ⟨#[]⟩] := by rw [← hX, ← hR]; exact Full.new W _ _
  have HB : Hid (B ≤ W.heap.size ∧ W.heap.size ≤ R) := ⟨h.size, Nat.le_of_eq hR⟩
  have HQ0 : Hid (RdQ B W P s X ∧ Full X R 52 [.int .i64 0, .int .i64 0, .string ⟨#[]⟩]) := ⟨hq0, hf0⟩
  obtain ⟨⟨c0, g0⟩, ⟨c1, g1⟩, c2, g2⟩ := hf0.three
  clear h hq0 hf0
  go_enter Tryd.func57, Tryd.ntmps57
  go_wp2_with fail
  obtain ⟨hq3, hf3⟩ := HQ0.out.1.box3 HB.out.1 HB.out.2 HQ0.out.2 (.int .i64 0) (.int .i64 0) (.string ⟨#[]⟩)
  obtain ⟨⟨k0, -⟩, ⟨k1, -⟩, k2, -⟩ := hf3.three
  exact bodyPost_ret (v := .agg #[.int .i64 0, .int .i64 0, .string ⟨#[]⟩]) (by simp [results, Tryd.results57, go_sem, k0, k1, k2]) rfl ⟨rfl, hq3⟩
set_option maxRecDepth 100000 in
theorem read_1 (h : RdS B W P s) (hz : s.r.length ≤ 140737488355328) :
    Calls Tryd.prog 61 #[.pointer (some ⟨P, 0, none⟩)] W fun e w' => e = .returned (.agg #[.int .i64 0, .int .i64 (vlR 1 s.r).1, sV (vlR 1 s.r).2.1]) ∧ RdQ B W P ⟨s.nd, s.ns, (vlR 1 s.r).2.2⟩ w' := by
  have HV : Hid (vlR 1 s.r = (uz (nR s.r).1, [], (nR s.r).2)) := rfl
  rw [HV.out]
  obtain ⟨X, hX⟩ : ∃ X, W.alloc (.cells #[.int .i64 0, .int .i64 0, .string ⟨#[]⟩] 52) = X := ⟨_, rfl⟩
  obtain ⟨R, hR⟩ : ∃ R, W.heap.size = R := ⟨_, rfl⟩
  have hq0 : RdQ B W P s X := by rw [← hX]; exact RdQ.of h ((Below.refl _ W).alloc (Nat.le_refl _) _)
  have hf0 : Full X R 52 [.int .i64 0, .int .i64 0, .string ⟨#[]⟩] := by rw [← hX, ← hR]; exact Full.new W _ _
  have HB : Hid (B ≤ W.heap.size ∧ W.heap.size ≤ R) := ⟨h.size, Nat.le_of_eq hR⟩
  have HC := rsigned hq0.out.1 hz
  have HQ0 : Hid (RdQ B W P s X ∧ Full X R 52 [.int .i64 0, .int .i64 0, .string ⟨#[]⟩]) := ⟨hq0, hf0⟩


  clear h hq0 hf0 hz
  go_enter Tryd.func61, Tryd.ntmps61
  go_wp2_with fail
  refine HC.mono ?_
  rintro e w2 ⟨rfl, hw2⟩
  have f2 := hw2.out.2.2 _ _ _ HQ0.out.2 (by decide) (by decide)
  obtain ⟨⟨c0, g0⟩, ⟨c1, g1⟩, c2, g2⟩ := f2.three
  have HQ2 := HQ0.out.1.trans hw2
  have HF2 : Hid (Full w2 R 52 [.int .i64 0, .int .i64 0, .string ⟨#[]⟩]) := f2
  clear HC HQ0 hw2 f2 hX
  go_wp2_with fail
  obtain ⟨hq3, hf3⟩ := HQ2.box3 HB.out.1 HB.out.2 HF2.out (.int .i64 0) (.int .i64 (uz (nR s.r).1)) (.string ⟨#[]⟩)
  obtain ⟨⟨k0, -⟩, ⟨k1, -⟩, k2, -⟩ := hf3.three
  exact bodyPost_ret (v := .agg #[.int .i64 0, .int .i64 (uz (nR s.r).1), .string ⟨#[]⟩]) (by simp [results, Tryd.results61, go_sem, k0, k1, k2]) rfl ⟨rfl, hq3⟩
set_option maxRecDepth 100000 in
theorem read_2 (h : RdS B W P s) (hz : s.r.length ≤ 140737488355328) :
    Calls Tryd.prog 65 #[.pointer (some ⟨P, 0, none⟩)] W fun e w' => e = .returned (.agg #[.int .i64 0, .int .i64 (vlR 2 s.r).1, sV (vlR 2 s.r).2.1]) ∧ RdQ B W P ⟨s.nd, s.ns, (vlR 2 s.r).2.2⟩ w' := by
  have HV : Hid (vlR 2 s.r = (((byteR s.r).1.toNat : Int), [], (byteR s.r).2)) := rfl
  rw [HV.out]
  obtain ⟨X, hX⟩ : ∃ X, W.alloc (.cells #[.int .i64 0, .int .i64 0, .string ⟨#[]⟩] 52) = X := ⟨_, rfl⟩
  obtain ⟨R, hR⟩ : ∃ R, W.heap.size = R := ⟨_, rfl⟩
  have hq0 : RdQ B W P s X := by rw [← hX]; exact RdQ.of h ((Below.refl _ W).alloc (Nat.le_refl _) _)
  have hf0 : Full X R 52 [.int .i64 0, .int .i64 0, .string ⟨#[]⟩] := by rw [← hX, ← hR]; exact Full.new W _ _
  have HB : Hid (B ≤ W.heap.size ∧ W.heap.size ≤ R) := ⟨h.size, Nat.le_of_eq hR⟩
  have HC := rbyte hq0.out.1 hz
  have HQ0 : Hid (RdQ B W P s X ∧ Full X R 52 [.int .i64 0, .int .i64 0, .string ⟨#[]⟩]) := ⟨hq0, hf0⟩

  have hct := UInt8.toNat_lt (byteR s.r).1
  clear h hq0 hf0 hz
  go_enter Tryd.func65, Tryd.ntmps65
  go_wp2_with fail
  refine HC.mono ?_
  rintro e w2 ⟨rfl, hw2⟩
  have f2 := hw2.out.2.2 _ _ _ HQ0.out.2 (by decide) (by decide)
  obtain ⟨⟨c0, g0⟩, ⟨c1, g1⟩, c2, g2⟩ := f2.three
  have HQ2 := HQ0.out.1.trans hw2
  have HF2 : Hid (Full w2 R 52 [.int .i64 0, .int .i64 0, .string ⟨#[]⟩]) := f2
  clear HC HQ0 hw2 f2 hX
  go_wp2_with fail
  obtain ⟨hq3, hf3⟩ := HQ2.box3 HB.out.1 HB.out.2 HF2.out (.int .i64 0) (.int .i64 ((byteR s.r).1.toNat : Int)) (.string ⟨#[]⟩)
  obtain ⟨⟨k0, -⟩, ⟨k1, -⟩, k2, -⟩ := hf3.three
  exact bodyPost_ret (v := .agg #[.int .i64 0, .int .i64 ((byteR s.r).1.toNat : Int), .string ⟨#[]⟩]) (by simp [results, Tryd.results65, go_sem, k0, k1, k2]) rfl ⟨rfl, hq3⟩
set_option maxRecDepth 100000 in
theorem read_4 (h : RdS B W P s) (hz : s.r.length ≤ 140737488355328) :
    Calls Tryd.prog 76 #[.pointer (some ⟨P, 0, none⟩)] W fun e w' => e = .returned (.agg #[.int .i64 0, .int .i64 (vlR 4 s.r).1, sV (vlR 4 s.r).2.1]) ∧ RdQ B W P ⟨s.nd, s.ns, (vlR 4 s.r).2.2⟩ w' := by
  have HV : Hid (vlR 4 s.r = (wrp ((nR s.r).1 : Int), [], (nR s.r).2)) := rfl
  rw [HV.out]
  obtain ⟨X, hX⟩ : ∃ X, W.alloc (.cells #[.int .i64 0, .int .i64 0, .string ⟨#[]⟩] 52) = X := ⟨_, rfl⟩
  obtain ⟨R, hR⟩ : ∃ R, W.heap.size = R := ⟨_, rfl⟩
  have hq0 : RdQ B W P s X := by rw [← hX]; exact RdQ.of h ((Below.refl _ W).alloc (Nat.le_refl _) _)
  have hf0 : Full X R 52 [.int .i64 0, .int .i64 0, .string ⟨#[]⟩] := by rw [← hX, ← hR]; exact Full.new W _ _
  have HB : Hid (B ≤ W.heap.size ∧ W.heap.size ≤ R) := ⟨h.size, Nat.le_of_eq hR⟩
  have HC := rnumber hq0.out.1 hz
  have HQ0 : Hid (RdQ B W P s X ∧ Full X R 52 [.int .i64 0, .int .i64 0, .string ⟨#[]⟩]) := ⟨hq0, hf0⟩
  have hlt := nR_lt s.r

  clear h hq0 hf0 hz
  go_enter Tryd.func76, Tryd.ntmps76
  go_wp2_with fail
  refine HC.mono ?_
  rintro e w2 ⟨rfl, hw2⟩
  have f2 := hw2.out.2.2 _ _ _ HQ0.out.2 (by decide) (by decide)
  obtain ⟨⟨c0, g0⟩, ⟨c1, g1⟩, c2, g2⟩ := f2.three
  have HQ2 := HQ0.out.1.trans hw2
  have HF2 : Hid (Full w2 R 52 [.int .i64 0, .int .i64 0, .string ⟨#[]⟩]) := f2
  clear HC HQ0 hw2 f2 hX
  go_wp2_with fail
  obtain ⟨hq3, hf3⟩ := HQ2.box3 HB.out.1 HB.out.2 HF2.out (.int .i64 0) (.int .i64 (wrap64 ((nR s.r).1 : Int))) (.string ⟨#[]⟩)
  obtain ⟨⟨k0, -⟩, ⟨k1, -⟩, k2, -⟩ := hf3.three
  exact bodyPost_ret (v := .agg #[.int .i64 0, .int .i64 (wrap64 ((nR s.r).1 : Int)), .string ⟨#[]⟩]) (by simp [results, Tryd.results76, go_sem, k0, k1, k2]) rfl ⟨by rw [wrp_wrap]; rfl, hq3⟩
set_option maxRecDepth 100000 in
theorem read_3 (h : RdS B W P s) (hz : s.r.length ≤ 140737488355328) :
    Calls Tryd.prog 71 #[.pointer (some ⟨P, 0, none⟩)] W fun e w' => e = .returned (.agg #[.int .i64 0, .int .i64 (vlR 3 s.r).1, sV (vlR 3 s.r).2.1]) ∧ RdQ B W P ⟨s.nd, s.ns, (vlR 3 s.r).2.2⟩ w' := by
  have HV : Hid (vlR 3 s.r = (0, (nR s.r).2.take (nR s.r).1, (nR s.r).2.drop (nR s.r).1)) := rfl
  rw [HV.out]
  obtain ⟨X, hX⟩ : ∃ X, W.alloc (.cells #[.int .i64 0, .int .i64 0, .string ⟨#[]⟩] 52) = X := ⟨_, rfl⟩
  obtain ⟨R, hR⟩ : ∃ R, W.heap.size = R := ⟨_, rfl⟩
  have hq0 : RdQ B W P s X := by rw [← hX]; exact RdQ.of h ((Below.refl _ W).alloc (Nat.le_refl _) _)
  have hf0 : Full X R 52 [.int .i64 0, .int .i64 0, .string ⟨#[]⟩] := by rw [← hX, ← hR]; exact Full.new W _ _
  have HB : Hid (B ≤ W.heap.size ∧ W.heap.size ≤ R) := ⟨h.size, Nat.le_of_eq hR⟩
  have HC := rnumber hq0.out.1 hz
  have HQ0 : Hid (RdQ B W P s X ∧ Full X R 52 [.int .i64 0, .int .i64 0, .string ⟨#[]⟩]) := ⟨hq0, hf0⟩
  have HL : Hid ((nR s.r).1 < 18446744073709551616 ∧ (nR s.r).2.length ≤ 140737488355328) := ⟨nR_lt s.r, Nat.le_trans (nR_len s.r) hz⟩
  clear h hq0 hf0 hz HV
  generalize nR s.r = pr at HC HL ⊢
  obtain ⟨n, r2⟩ := pr
  simp only at HC HL ⊢
  go_enter Tryd.func71, Tryd.ntmps71
  go_wp2_with fail
  refine HC.mono ?_
  rintro e w2 ⟨rfl, hw2⟩
  have HC2 := rbytes hw2.out.1 n HL.out.1 HL.out.2
  have hq2 := HQ0.out.1.trans hw2
  have HF2 : Hid (Full w2 R 52 [.int .i64 0, .int .i64 0, .string ⟨#[]⟩]) := hw2.out.2.2 _ _ _ HQ0.out.2 (by decide) (by decide)
  simp only at HC2
  clear HC HQ0 hw2 hX
  go_wp2_with fail
  refine HC2.mono ?_
  rintro e w3 ⟨rfl, hw3⟩
  have HQ3 := hq2.trans hw3
  have HF3 : Hid (Full w3 R 52 [.int .i64 0, .int .i64 0, .string ⟨#[]⟩]) := hw3.out.2.2 _ _ _ HF2.out (by decide) (by decide)
  obtain ⟨⟨c0, g0⟩, ⟨c1, g1⟩, c2, g2⟩ := HF3.out.three
  obtain ⟨xb, hxb⟩ : ∃ b : ByteArray, b.data.toList = r2.take n := ⟨⟨(r2.take n).toArray⟩, rfl⟩
  have HX : Hid (sV (r2.take n) = .string xb) := sV_at hxb
  rw [HX.out]
  clear HC2 hw3 HF2 hq2 hxb
  go_wp2_with fail
  obtain ⟨hq3, hf3⟩ := HQ3.box3 HB.out.1 HB.out.2 HF3.out (.int .i64 0) (.int .i64 0) (.string xb)
  obtain ⟨⟨k0, -⟩, ⟨k1, -⟩, k2, -⟩ := hf3.three
  exact bodyPost_ret (v := .agg #[.int .i64 0, .int .i64 0, .string xb]) (by simp [results, Tryd.results71, go_sem, k0, k1, k2]) rfl ⟨by rw [HX.out], hq3⟩
end
end Go.Proofs.YtnecnchdffmhbaaDoor
