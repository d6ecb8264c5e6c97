import Derived.Test.YtdmiciblfbkndaaDoorA12
import Derived.Test.YtdmiciblfbkndaaDoorA01
namespace Go.Proofs.YtdmiciblfbkndaaDoor
open Go.RowKit

set_option maxRecDepth 100000 in
theorem end_any (W : World) (ph tr : Int) (out : ByteArray) (inp : Int) (q : Option Addr) (n cap : Nat) :
    Calls Tryd.prog 31 #[.agg (recC ph tr out inp q n cap)] W fun e w' => e = .returned (.bool (endOk ph tr inp)) ∧ Below W.heap.size W w' := by
  unfold recC
  have HC := outcome_any (W.alloc (.cells #[.int .i64 ph, .int .i64 tr, .string out, .int .i64 inp, .slice q n cap] 28)) ph tr
  have f1 : Full (W.alloc (.cells #[.int .i64 ph, .int .i64 tr, .string out, .int .i64 inp, .slice q n cap] 28)) W.heap.size 28 [.int .i64 ph, .int .i64 tr, .string out, .int .i64 inp, .slice q n cap] := Full.new W _ _
  have HF : Hid (Full (W.alloc (.cells #[.int .i64 ph, .int .i64 tr, .string out, .int .i64 inp, .slice q n cap] 28)) W.heap.size 28 [.int .i64 ph, .int .i64 tr, .string out, .int .i64 inp, .slice q n cap] ∧ Below W.heap.size W (W.alloc (.cells #[.int .i64 ph, .int .i64 tr, .string out, .int .i64 inp, .slice q n cap] 28))) := ⟨f1, (Below.refl _ W).alloc (Nat.le_refl _) _⟩
  clear f1
  have hc : outOk ph tr = true ∨ outOk ph tr = false := by cases outOk ph tr <;> simp
  rcases hc with ho | ho
  all_goals
    rw [ho] at HC
    go_enter Tryd.func31, Tryd.ntmps31
    go_wp2_with fail
    refine HC.mono ?_
    rintro e w2 ⟨rfl, hb⟩
    have g3 := ((HF.out.1.next hb).cell 3 _ rfl).1
    have HB : Hid (Below W.heap.size W w2) := below2 HF.out.2 hb
    have HE : Hid (endOk ph tr inp = (outOk ph tr && decide (0 ≤ inp) && decide (inp ≤ 1000))) := rfl
    clear HC HF hb
    go_wp2
    all_goals
      go_ret
      refine ⟨congrArg (fun b => Ending.returned (.bool b)) ?_, HB.out⟩
      rw [HE.out, ho, Bool.eq_iff_iff]
      simp_all
      try omega
section
variable (W : World) (vn : Int) (vs : ByteArray)
set_option maxRecDepth 100000 in
theorem may_0 (hz : vs.size ≤ 140737488355328) : Calls Tryd.prog 67 #[.agg #[.int .i64 0, .int .i64 vn, .string vs]] W fun e w' => e = .returned (.bool (valOk 0 vn vs.data.toList)) ∧ Below W.heap.size W w' := by
  have hsz : vs.size = vs.toList.length := by rw [toL]; exact Lib.size_eq vs
  have hq : (vs.size : Int) ≤ 9223372036854775807 := by omega
  clear hz
  go_enter Tryd.func67, Tryd.ntmps67
  go_wp2_with fail
  all_goals
    go_ret
    refine ⟨congrArg (fun b => Ending.returned (.bool b)) ?_, (Below.refl _ W).alloc (Nat.le_refl _) _⟩
    rw [Bool.eq_iff_iff]
    unfold valOk
    rw [← toL]
    simp_all
    try omega
set_option maxRecDepth 100000 in
theorem may_1 (hz : vs.size ≤ 140737488355328) : Calls Tryd.prog 70 #[.agg #[.int .i64 1, .int .i64 vn, .string vs]] W fun e w' => e = .returned (.bool (valOk 1 vn vs.data.toList)) ∧ Below W.heap.size W w' := by
  have hsz : vs.size = vs.toList.length := by rw [toL]; exact Lib.size_eq vs
  have hq : (vs.size : Int) ≤ 9223372036854775807 := by omega
  clear hz
  go_enter Tryd.func70, Tryd.ntmps70
  go_wp2_with fail
  all_goals
    go_ret
    refine ⟨congrArg (fun b => Ending.returned (.bool b)) ?_, (Below.refl _ W).alloc (Nat.le_refl _) _⟩
    rw [Bool.eq_iff_iff]
    unfold valOk
    rw [← toL]
    simp_all
    try omega
set_option maxRecDepth 100000 in
theorem may_2 (hz : vs.size ≤ 140737488355328) : Calls Tryd.prog 75 #[.agg #[.int .i64 2, .int .i64 vn, .string vs]] W fun e w' => e = .returned (.bool (valOk 2 vn vs.data.toList)) ∧ Below W.heap.size W w' := by
  have hsz : vs.size = vs.toList.length := by rw [toL]; exact Lib.size_eq vs
  have hq : (vs.size : Int) ≤ 9223372036854775807 := by omega
  clear hz
  go_enter Tryd.func75, Tryd.ntmps75
  go_wp2_with fail
  all_goals
    go_ret
    refine ⟨congrArg (fun b => Ending.returned (.bool b)) ?_, (Below.refl _ W).alloc (Nat.le_refl _) _⟩
    rw [Bool.eq_iff_iff]
    unfold valOk
    rw [← toL]
    simp_all
    try omega
set_option maxRecDepth 100000 in
theorem may_3 (hz : vs.size ≤ 140737488355328) : Calls Tryd.prog 79 #[.agg #[.int .i64 3, .int .i64 vn, .string vs]] W fun e w' => e = .returned (.bool (valOk 3 vn vs.data.toList)) ∧ Below W.heap.size W w' := by
  have hsz : vs.size = vs.toList.length := by rw [toL]; exact Lib.size_eq vs
  have hq : (vs.size : Int) ≤ 9223372036854775807 := by omega
  clear hz
  go_enter Tryd.func79, Tryd.ntmps79
  go_wp2_with fail
  all_goals
    go_ret
    refine ⟨congrArg (fun b => Ending.returned (.bool b)) ?_, (Below.refl _ W).alloc (Nat.le_refl _) _⟩
    rw [Bool.eq_iff_iff]
    unfold valOk
    rw [← toL]
    simp_all
    try omega
set_option maxRecDepth 100000 in
theorem may_4 (hz : vs.size ≤ 140737488355328) : Calls Tryd.prog 86 #[.agg #[.int .i64 4, .int .i64 vn, .string vs]] W fun e w' => e = .returned (.bool (valOk 4 vn vs.data.toList)) ∧ Below W.heap.size W w' := by
  have hsz : vs.size = vs.toList.length := by rw [toL]; exact Lib.size_eq vs
  have hq : (vs.size : Int) ≤ 9223372036854775807 := by omega
  clear hz
  go_enter Tryd.func86, Tryd.ntmps86
  go_wp2_with fail
  all_goals
    go_ret
    refine ⟨congrArg (fun b => Ending.returned (.bool b)) ?_, (Below.refl _ W).alloc (Nat.le_refl _) _⟩
    rw [Bool.eq_iff_iff]
    unfold valOk
    rw [← toL]
    simp_all
    try omega
end
end Go.Proofs.YtdmiciblfbkndaaDoor

namespace Go.Proofs.YtdmiciblfbkndaaDoor
open Go.RowKit

theorem fixedOf_step (n : Nat) (c : UInt8) (hn : n < 16777216) : bits .or .u32 ((n : Int) * 256) (c.toNat : Int) = ((n * 256 + c.toNat : Nat) : Int) := by
  have h := bits_join_low .u32 32 (by decide) wraps_u32 8 (c.toNat : Int) ((n : Int) * 256) (by omega) (by have := UInt8.toNat_lt c; omega) (by have := UInt8.toNat_lt c; omega) (by omega) (by omega) (by omega)
  have hc : bits .or .u32 ((n : Int) * 256) (c.toNat : Int) = bits .or .u32 (c.toNat : Int) ((n : Int) * 256) := by
    unfold bits
    simp only [BitVec.or_comm]
  rw [hc, h]
  omega
theorem fxO_next (b : List UInt8) (i : Nat) (c : UInt8) (h : b[i]? = some c) : fxO (b.take (i + 1)) = fxO (b.take i) * 256 + c.toNat := by
  unfold fxO
  rw [List.take_add_one, h]
  simp
set_option maxRecDepth 100000 in
set_option maxHeartbeats 1000000 in
theorem fixedOf_any (W : World) (s : ByteArray) (hs : s.size ≤ 4) :
    Calls Tryd.prog 59 #[.string s] W fun e w' => e = .returned (.int .u32 (fxO s.data.toList : Int)) ∧ Below W.heap.size W w' := by
  have hsz : Hid (s.size = s.data.toList.length) := Lib.size_eq s
  have hq : (s.size : Int) ≤ 4 := by omega
  have hcv := Lib.run_convert_string_bytes (P := Tryd.prog) W 9 75 5 s Tryd.underlying9 Tryd.underlying75 Tryd.underlying5
  have HBW : Hid (Below W.heap.size W (Lib.bytesWorld W 5 s) ∧ ∀ j, j < s.size → (Lib.bytesWorld W 5 s).cell? ⟨W.heap.size, j, none⟩ = some (.int .u8 ((s.data.toList.getD j 0).toNat : Int))) :=
    ⟨⟨rfl, rfl, rfl, by rw [Lib.bytesWorld_size]; omega, fun k hk => Lib.bytesWorld_at_old W 5 s k hk⟩, fun j hj => Lib.bytesWorld_cell W 5 s j hj⟩
  obtain ⟨X, hX⟩ : ∃ X, Lib.bytesWorld W 5 s = X := ⟨_, rfl⟩
  rw [hX] at hcv HBW
  obtain ⟨G, hG⟩ : ∃ G, W.heap.size = G := ⟨_, rfl⟩
  clear hs
  go_enter Tryd.func59, Tryd.ntmps59
  go_wp2_with fail
  go_loopw [3, 9] (fun v ix wr => ∃ (i n : Nat), ix = .int .i64 (i : Int) ∧ i ≤ s.size ∧ wr = X ∧ v = .int .u32 (n : Int) ∧ Hid (n = fxO (s.data.toList.take i))) (fun _ ix _ => s.size - (intOf ix).toNat)
  case atStart => exact ⟨0, 0, rfl, Nat.zero_le _, rfl, rfl, by show 0 = _; rw [List.take_zero]; rfl⟩
  case round =>
    obtain ⟨i, n, rfl, hi, rfl, rfl, HN⟩ := hrel
    have hi0 : (0 : Int) ≤ (i : Int) := by omega
    by_cases hend : i = s.size
    · have HV : Hid (n = fxO s.data.toList) := by
        have h1 := HN.out
        rw [hend, hsz.out, List.take_length] at h1
        exact h1
      subst hend
      have HB0 : Hid (Below W.heap.size W wr) := HBW.out.1
      clear HN HBW hcv hX
      go_wp2
      go_ret
      exact ⟨congrArg (fun x : Nat => Ending.returned (.int .u32 (x : Int))) HV.out, HB0.out⟩
    · have hlt : i < s.size := by omega
      have hil : (i : Int) < (s.size : Int) := by omega
      obtain ⟨c, hc⟩ : ∃ c, s.data.toList[i]? = some c := ⟨_, List.getElem?_eq_getElem (by rw [← hsz.out]; exact hlt)⟩
      have cc := HBW.out.2 i hlt
      rw [List.getD_eq_getElem?_getD, hc] at cc
      simp only [Option.getD_some] at cc
      rw [hG] at cc
      have hn24 : n < 16777216 := by
        have h1 := fxO_lt (s.data.toList.take i)
        rw [← HN.out, List.length_take] at h1
        have h2 : (256 : Nat) ^ (min i s.data.toList.length) ≤ 256 ^ 3 := Nat.pow_le_pow_right (by decide) (by omega)
        have h3 : (256 : Nat) ^ 3 = 16777216 := by decide
        omega
      have he := fixedOf_step n c hn24
      obtain ⟨n2, hn2⟩ : ∃ n2, n * 256 + c.toNat = n2 := ⟨_, rfl⟩
      rw [hn2] at he
      have HN2 : Hid (n2 = fxO (s.data.toList.take (i + 1))) := by
        show n2 = _
        rw [fxO_next _ _ _ hc, ← HN.out, hn2]
      have hct := UInt8.toNat_lt c
      have qn : IntKind.u32.wrap ((n : Int) * 256) = (n : Int) * 256 := by rw [IntKind.wrap_u32]; omega
      clear hn24 hc hn2 HN HBW hcv hX hend
      go_wp2
      exact ⟨⟨i + 1, n2, by go_num, by omega, trivial, rfl, HN2⟩, by simp [intOf]; omega⟩
end Go.Proofs.YtdmiciblfbkndaaDoor

namespace Go.Proofs.YtdmiciblfbkndaaDoor
open Go.RowKit

theorem sl_mid {s x : ByteArray} {i k : Nat} (K1 K2 : IntKind) (hik : i ≤ k) (hk : k ≤ s.size) (hx : x.data.toList = (s.data.toList.take k).drop i) : ∀ wx : World, (Instr.slice 9 (.string s) (some (.int K1 (i : Int))) (some (.int K2 (k : Int))) none).run Tryd.prog wx = .ok (.string x) wx := fun wx => by
  have h0 : (0 : Int) ≤ (i : Int) := by omega
  have h1 : (i : Int) ≤ (k : Int) := by omega
  have h2 : (k : Int) ≤ (s.size : Int) := by omega
  have e : s.extract i k = x := by
    have h3 : (s.extract i k).data.toList = x.data.toList := by rw [Lib.extract_data, hx, List.drop_take]
    cases x with | mk d => cases hs : s.extract i k with | mk d2 => rw [hs] at h3; simp at h3; rw [h3]
  rw [← e]
  simp [go_sem, h0, h1, h2]
set_option maxRecDepth 100000 in
set_option maxHeartbeats 1000000 in
theorem first_any (W : World) (b : ByteArray) (hT : SumT W) (hs : b.size ≤ 140737488355328) :
    Calls Tryd.prog 46 #[.string b] W fun e w' => Hid ((∃ x : ByteArray, e = .returned (.tuple #[.string x, .bool (firstS b.data.toList).isSome]) ∧ ∀ y, firstS b.data.toList = some y → x.data.toList = y) ∧ Below W.heap.size W w') := by
  have hsz := Lib.size_eq b
  have qb : (b.size : Int) ≤ 140737488355328 := by omega
  by_cases h8 : b.size < 8
  · have q8 : (b.size : Int) < 8 := by omega
    have HV : Hid (firstS b.data.toList = none) := by show firstS _ = none; unfold firstS; rw [if_pos (by omega)]
    clear hT hs hsz
    go_enter Tryd.func46, Tryd.ntmps46
    go_wp2_with fail
    go_ret2
    exact ⟨⟨⟨#[]⟩, by rw [HV.out]; rfl, fun y h => by rw [HV.out] at h; cases h⟩, Below.refl _ _⟩
  · have q8 : ¬ (b.size : Int) < 8 := by omega
    obtain ⟨t4, ht4⟩ : ∃ x : ByteArray, x.data.toList = b.data.toList.take 4 := ⟨⟨(b.data.toList.take 4).toArray⟩, rfl⟩
    have hz4 : t4.size = 4 := by rw [Lib.size_eq, ht4, List.length_take]; omega
    have R1 : ∀ wx : World, (Instr.slice 9 (.string b) none (some (.int .i64 4)) none).run Tryd.prog wx = .ok (.string t4) wx := sl_to (s := b) (x := t4) (k := 4) (by omega) ht4
    have HC := fixedOf_any W t4 (by omega)
    obtain ⟨n, hn⟩ : ∃ n, fxO t4.data.toList = n := ⟨_, rfl⟩
    have hn32 : n < 4294967296 := by
      have := fxO_lt t4.data.toList
      rw [hn, ← Lib.size_eq, hz4] at this
      exact Nat.lt_of_lt_of_le this (by decide)
    rw [hn] at HC
    rw [ht4] at hn
    have HT : Hid (SumT W) := hT
    have HN : Hid (fxO (b.data.toList.take 4) = n) := hn
    have HSz : Hid (b.size = b.data.toList.length ∧ ¬ b.size < 8 ∧ b.size ≤ 140737488355328) := ⟨hsz, h8, hs⟩
    clear hT hn ht4 hz4 hs hsz h8
    by_cases hbad : n = 0 ∨ b.size - 8 < n
    · have HV : Hid (firstS b.data.toList = none) := by
        show firstS _ = none
        unfold firstS
        rw [if_neg (by have := HSz.out; omega), HN.out, if_pos (by have := HSz.out; omega)]
      go_enter Tryd.func46, Tryd.ntmps46
      go_wp2_with fail
      refine HC.mono ?_
      rintro e w2 ⟨rfl, hb2⟩
      have HB2 : Hid (Below W.heap.size W w2) := hb2
      have q88 : (0 : Int) ≤ (b.size : Int) - 8 := by omega
      have qw : IntKind.u64.wrap ((b.size : Int) - 8) = (b.size : Int) - 8 := by rw [IntKind.wrap_u64]; omega
      have qn0 : (0 : Int) ≤ (n : Int) := by omega
      have qn1 : (n : Int) < 4294967296 := by omega
      clear HC hb2
      rcases hbad with rfl | hbig
      · go_wp2_with fail
        go_ret2
        exact ⟨⟨⟨#[]⟩, by rw [HV.out]; rfl, fun y h => by rw [HV.out] at h; cases h⟩, HB2.out⟩
      · by_cases h0 : n = 0
        · subst h0
          go_wp2_with fail
          go_ret2
          exact ⟨⟨⟨#[]⟩, by rw [HV.out]; rfl, fun y h => by rw [HV.out] at h; cases h⟩, HB2.out⟩
        · have qe : ((n : Int) == 0) = false := by rw [beq_eq_false_iff_ne]; omega
          have qg : (b.size : Int) - 8 < (n : Int) := by have := HSz.out; omega
          have qwn : IntKind.u64.wrap (n : Int) = (n : Int) := by rw [IntKind.wrap_u64]; omega
          clear hn32 qn1
          go_wp2_with fail
          go_ret2
          exact ⟨⟨⟨#[]⟩, by rw [HV.out]; rfl, fun y h => by rw [HV.out] at h; cases h⟩, HB2.out⟩
    · have hn0 : n ≠ 0 := by omega
      have hnb : n + 8 ≤ b.size := by have := HSz.out; omega
      go_enter Tryd.func46, Tryd.ntmps46
      go_wp2_with fail
      refine HC.mono ?_
      rintro e w2 ⟨rfl, hb2⟩
      have HB2 : Hid (Below W.heap.size W w2) := hb2
      have HT2 : Hid (SumT w2) := HT.out.next hb2
      have qw : IntKind.u64.wrap ((b.size : Int) - 8) = (b.size : Int) - 8 := by rw [IntKind.wrap_u64]; omega
      have qn0 : (0 : Int) ≤ (n : Int) := by omega
      have qe : ((n : Int) == 0) = false := by rw [beq_eq_false_iff_ne]; omega
      have qg : (n : Int) ≤ (b.size : Int) - 8 := by omega
      have qs4 : IntKind.u64.wrap (4 + (n : Int)) = 4 + (n : Int) := by rw [IntKind.wrap_u64]; omega
      have qs8 : IntKind.u64.wrap (4 + (n : Int) + 4) = 4 + (n : Int) + 4 := by rw [IntKind.wrap_u64]; omega
      have qwn : IntKind.u64.wrap (n : Int) = (n : Int) := by rw [IntKind.wrap_u64]; omega
      have e4 : (((4 + n : Nat)) : Int) = 4 + (n : Int) := by omega
      have e8 : (((4 + n + 4 : Nat)) : Int) = 4 + (n : Int) + 4 := by omega
      obtain ⟨tA, htA⟩ : ∃ x : ByteArray, x.data.toList = b.data.toList.take (4 + n) := ⟨⟨(b.data.toList.take (4 + n)).toArray⟩, rfl⟩
      obtain ⟨tB, htB⟩ : ∃ x : ByteArray, x.data.toList = (b.data.toList.take (4 + n + 4)).drop (4 + n) := ⟨⟨((b.data.toList.take (4 + n + 4)).drop (4 + n)).toArray⟩, rfl⟩
      obtain ⟨tC, htC⟩ : ∃ x : ByteArray, x.data.toList = (b.data.toList.take (4 + n)).drop 4 := ⟨⟨((b.data.toList.take (4 + n)).drop 4).toArray⟩, rfl⟩
      have RA := sl_toU (s := b) (x := tA) (k := 4 + n) (by omega) htA
      have RB := sl_mid (s := b) (x := tB) (i := 4 + n) (k := 4 + n + 4) .u64 .u64 (by omega) (by omega) htB
      have RC := sl_mid (s := b) (x := tC) (i := 4) (k := 4 + n) .i64 .u64 (by omega) (by omega) htC
      rw [e4] at RA RB RC
      rw [e8] at RB
      have RC : ∀ wx : World, (Instr.slice 9 (.string b) (some (.int .i64 4)) (some (.int .u64 (4 + (n : Int)))) none).run Tryd.prog wx = .ok (.string tC) wx := RC
      have hzA : tA.size ≤ 140737488355328 := by rw [Lib.size_eq, htA, List.length_take]; have := HSz.out; omega
      have hzB : tB.size ≤ 4 := by rw [Lib.size_eq, htB, List.length_drop, List.length_take]; omega
      obtain ⟨sm, hsm⟩ : ∃ sm, sumS tA.data.toList = sm := ⟨_, rfl⟩
      obtain ⟨fx, hfx⟩ : ∃ fx, fxO tB.data.toList = fx := ⟨_, rfl⟩
      have p1 : ∀ d os, Calls Tryd.prog 55 #[.string tA] (Sort.grow (redrawn w2 d) os) fun e w'' => e = .returned (.int .u32 (sm : Int)) ∧ ∃ p : Regrown, w'' = Sort.grow (redrawn w2 p.d) p.os := fun d os => by
        have h := sum_any (Sort.grow (redrawn w2 d) os) tA (HT2.out.next (below_regrown w2 d os)) hzA
        rw [hsm] at h
        exact Calls.regrown_of (h.mono fun _ _ q => ⟨q.1, by rw [q.2]; exact Below.refl _ _⟩)
      have p2 : ∀ d os, Calls Tryd.prog 59 #[.string tB] (Sort.grow (redrawn w2 d) os) fun e w'' => e = .returned (.int .u32 (fx : Int)) ∧ ∃ p : Regrown, w'' = Sort.grow (redrawn w2 p.d) p.os := fun d os => by
        have h := fixedOf_any (Sort.grow (redrawn w2 d) os) tB hzB
        rw [hfx] at h
        exact Calls.regrown_of h
      have HV : Hid (firstS b.data.toList = if sm = fx then some tC.data.toList else none) := by
        show firstS _ = _
        unfold firstS
        have e5 : (b.data.toList.drop (4 + n)).take 4 = tB.data.toList := by rw [htB, List.drop_take]; congr 1; omega
        rw [if_neg (by have := HSz.out; omega), HN.out, if_neg (by have := HSz.out; omega), ← htA, hsm, e5, hfx, htC, htA]
      clear HC hb2 hbad htA htB htC hsm hfx hzA hzB e4 e8 hnb hn0 hn32
      go_upto_region 7 with fail
      refine wp_region_quiet_below (by kernel_rfl) (by kernel_rfl) ?_
      repeat (first | go_big_quiet_step (first | with_reducible exact p1 _ _ | with_reducible exact p2 _ _) | quiet_step (first | with_reducible exact p1 _ _ | with_reducible exact p2 _ _))
      refine wpQuiet_nil ?_
      intro _ hw'
      obtain ⟨⟨dq, osq⟩, hw''⟩ := hw'
      subst hw''
      have hY := below_regrown w2 dq osq
      first | (change Exit.then _ _ Exit.normal _ (Sort.grow (redrawn w2 dq) osq)) | skip
      generalize Sort.grow (redrawn w2 dq) osq = Y8 at hY ⊢
      clear p1 p2
      go_wp2
      go_ret2
      have hb : ((sm : Int) == (fx : Int)) = (firstS b.data.toList).isSome := by
        rw [HV.out]
        by_cases h : sm = fx
        · rw [if_pos h, h]; simp
        · rw [if_neg h]
          show _ = false
          rw [beq_eq_false_iff_ne]
          omega
      refine ⟨⟨tC, congrArg (fun x => Ending.returned (.tuple #[.string tC, .bool x])) hb, fun y h => ?_⟩, HB2.out.trans (hY.mono HB2.out.size)⟩
      rw [HV.out] at h
      by_cases hf : sm = fx
      · rw [if_pos hf] at h
        exact Option.some.inj h
      · rw [if_neg hf] at h
        cases h
end Go.Proofs.YtdmiciblfbkndaaDoor

namespace Go.Proofs.YtdmiciblfbkndaaDoor
open Go.RowKit

/-- Texts of an event are not beyond measure. -/
def EvSz (e : Ev) : Prop := e.nm.length ≤ 140737488355328 ∧ e.vs.length ≤ 140737488355328
theorem rowOf_no (W : World) (n : Int) (hn : ¬ (0 ≤ n ∧ n < 5)) : Calls Tryd.prog 51 #[.int .i64 n] W fun e w' => e = .returned (.tuple #[.agg #[.nilFunc, .nilFunc, .nilFunc], .bool false]) ∧ Below W.heap.size W w' := by
  have h := rowOf_any W n
  rw [if_neg hn, decide_eq_false hn] at h
  exact h
theorem all_next (L : List Ev) (i : Nat) (e : Ev) (h : L[i]? = some e) : (L.take (i + 1)).all evOk = ((L.take i).all evOk && evOk e) := by
  rw [List.take_add_one, h]; simp
theorem all_no (L : List Ev) (i : Nat) (e : Ev) (h : L[i]? = some e) (he : evOk e = false) : L.all evOk = false := by
  rw [List.all_eq_false]
  exact ⟨e, List.mem_of_getElem? h, by simp [he]⟩
set_option maxRecDepth 100000 in
set_option maxHeartbeats 40000000 in
theorem evm_any (W : World) (q : Option Addr) (cap : Nat) (L : List Ev) (hR : Row W W.heap.size q L.length (L.flatMap ec)) (hz : ∀ e ∈ L, EvSz e) (hn : L.length ≤ 140737488355328) :
    Calls Tryd.prog 32 #[.slice q L.length cap] W fun e w' => e = .returned (.bool (L.all evOk)) ∧ Below W.heap.size W w' := by
  obtain ⟨n, hnn⟩ : ∃ n, L.length = n := ⟨_, rfl⟩
  rw [hnn] at hR hn ⊢
  have HR : Hid (Row W W.heap.size q n (L.flatMap ec)) := hR
  have HN : Hid (L.length = n) := hnn
  have HZ : Hid (∀ e ∈ L, EvSz e) := hz
  clear hR hnn hz
  obtain ⟨RV, HRV⟩ : ∃ RV, Hid (L.all evOk = RV) := ⟨_, (rfl : L.all evOk = _)⟩
  rw [HRV.out]
  go_enter Tryd.func32, Tryd.ntmps32
  go_wp2_with fail
  go_loopw [9] (fun v wr => ∃ (i : Nat), v = .int .i64 (i : Int) ∧ i ≤ n ∧ Hid ((L.take i).all evOk = true) ∧ Hid (Below W.heap.size W wr)) (fun v _ => n - (intOf v).toNat)
  case atStart => exact ⟨0, rfl, Nat.zero_le _, by show _ = _; simp, Below.refl _ _⟩
  case round =>
    obtain ⟨i, rfl, him, HA, HB⟩ := hrel
    by_cases hlt : i < n
    · have qi : (i : Int) < (n : Int) := by omega
      have q0 : (0 : Int) ≤ (i : Int) := by omega
      obtain ⟨e, he⟩ : ∃ e, L[i]? = some e := ⟨L[i]'(by rw [HN.out]; exact hlt), List.getElem?_eq_getElem _⟩
      obtain ⟨g, o, rfl, hgB, hrg⟩ := HR.out (by omega)
      have cc : ∀ j v, (ec e)[j]? = some v → wr.cell? ⟨g, o + (i * 6 + j), none⟩ = some v := fun j v hv => by
        rw [← hrg (i * 6 + j) v (ec_at L i e he j v hv)]
        exact World.cell?_of_block (w := W) (w' := wr) (a := ⟨g, o + (i * 6 + j), none⟩) (HB.out.block g hgB)
      have hzz := HZ.out e (List.mem_of_getElem? he)
      have hfalse := all_no L i e he
      have htrue := all_next L i e he
      rw [HA.out, Bool.true_and] at htrue
      rw [HRV.out] at hfalse
      obtain ⟨k, en, nmL, vk, vn, vsL⟩ := e
      obtain ⟨nm, hnm⟩ : ∃ b : ByteArray, b.data.toList = nmL := ⟨⟨nmL.toArray⟩, rfl⟩
      obtain ⟨vs, hvs⟩ : ∃ b : ByteArray, b.data.toList = vsL := ⟨⟨vsL.toArray⟩, rfl⟩
      have c0 := cc 0 _ rfl
      have c1 := cc 1 _ rfl
      have c2 := cc 2 _ rfl
      have c3 := cc 3 _ rfl
      have c4 := cc 4 _ rfl
      have c5 := cc 5 _ rfl
      simp only [← Nat.add_assoc, Nat.add_zero] at c0 c1 c2 c3 c4 c5
      rw [sV_at hnm] at c2
      rw [sV_at hvs] at c5
      have hsn : nm.size = nmL.length := by rw [← hnm]; exact Lib.size_eq nm
      have hsv : vs.size = vsL.length := by rw [← hvs]; exact Lib.size_eq vs
      obtain ⟨z1, z2⟩ := hzz
      simp only at z1 z2
      have HFa : Hid (evOk ⟨k, en, nmL, vk, vn, vsL⟩ = false → RV = false) := hfalse
      have HTr : Hid (evOk ⟨k, en, nmL, vk, vn, vsL⟩ = true → (L.take (i + 1)).all evOk = true) := fun h => by rw [htrue]; exact h
      have HEv : Hid (evOk ⟨k, en, nmL, vk, vn, vsL⟩ = (valOk vk vn vs.data.toList && decide (1 ≤ k) && decide (k ≤ 8) && decide (0 ≤ en) && decide (en < 40000) && decide (nm.size ≤ 24))) := by
        show evOk _ = _
        unfold evOk
        simp only [hsn, hvs]
      have qn : (nm.size : Int) ≤ 9223372036854775807 := by omega
      have z3 : vs.size ≤ 140737488355328 := by omega
      clear cc he hrg hfalse htrue hnm hvs hsn hsv z1 z2 HA
      obtain ⟨wz, hwz⟩ : ∃ wz, wr.alloc (.cells #[.int .i64 k, .int .i64 en, .string nm, .int .i64 vk, .int .i64 vn, .string vs] 37) = wz := ⟨_, rfl⟩
      obtain ⟨A, hAA⟩ : ∃ A, wr.heap.size = A := ⟨_, rfl⟩
      have HBz : Hid (Below W.heap.size W wz) := by rw [← hwz]; exact HB.out.alloc HB.out.size _
      have HFz : Hid (Full wz A 37 [.int .i64 k, .int .i64 en, .string nm, .int .i64 vk, .int .i64 vn, .string vs]) := by rw [← hwz, ← hAA]; exact Full.new wr _ _
      by_cases hk : 0 ≤ vk ∧ vk < 5
      · have hc : vk = 0 ∨ vk = 1 ∨ vk = 2 ∨ vk = 3 ∨ vk = 4 := by omega
        clear hk HB
        rcases hc with rfl | rfl | rfl | rfl | rfl
        · have HC := rowOf_at wz 0 0 rfl (by decide)
          obtain ⟨f0, f1, f2, f3, f4, f5⟩ := HFz.out.six
          go_wp2_with fail
          refine HC.mono ?_
          rintro e w2 ⟨rfl, hb2⟩
          unfold rowV
          obtain ⟨w3, hw3⟩ : ∃ w3, w2.alloc (.cells #[.func (.func 67) #[] #[], .func (.func 68) #[] #[], .func (.func 69) #[] #[]] 102) = w3 := ⟨_, rfl⟩
          obtain ⟨R, hRR⟩ : ∃ R, w2.heap.size = R := ⟨_, rfl⟩
          have nb : Below w2.heap.size w2 w3 := by rw [← hw3]; exact (Below.refl _ _).alloc (Nat.le_refl _) _
          have HF3 : Hid (Full w3 A 37 [.int .i64 k, .int .i64 en, .string nm, .int .i64 0, .int .i64 vn, .string vs]) := (HFz.out.next hb2).next nb
          have HR3 : Hid (Full w3 R 102 [.func (.func 67) #[] #[], .func (.func 68) #[] #[], .func (.func 69) #[] #[]]) := by rw [← hw3, ← hRR]; exact Full.new w2 _ _
          have HB3 : Hid (Below W.heap.size W w3) := (HBz.out.trans (hb2.mono HBz.out.size)).trans (nb.mono (Nat.le_trans HBz.out.size hb2.size))
          clear HC f0 f1 f2 f3 f4 f5 c0 c1 c2 c3 c4 c5 hb2 nb HFz hwz HBz
          obtain ⟨f0, f1, f2, f3, f4, f5⟩ := HF3.out.six
          have r0 := (HR3.out.cell 0 _ rfl).1
          obtain ⟨m, hm⟩ : ∃ m, valOk 0 vn vs.data.toList = m := ⟨_, rfl⟩
          have HM := may_0 w3 vn vs z3
          rw [hm] at HM
          rw [hm] at HEv
          clear hm HR3
          go_wp2_with fail
          refine HM.mono ?_
          rintro e w4 ⟨rfl, hb4⟩
          have HF4 : Hid (Full w4 A 37 [.int .i64 k, .int .i64 en, .string nm, .int .i64 0, .int .i64 vn, .string vs]) := HF3.out.next hb4
          have HBY : Hid (Below W.heap.size W w4) := HB3.out.trans (hb4.mono HB3.out.size)
          clear f0 f1 f2 f3 f4 f5 r0 hw3 HM hb4 HF3 HB3
          obtain ⟨f0, f1, f2, f3, f4, f5⟩ := HF4.out.six
          have hcase : m = false ∨ (m = true ∧ k < 1) ∨ (m = true ∧ 1 ≤ k ∧ 8 < k) ∨ (m = true ∧ 1 ≤ k ∧ k ≤ 8 ∧ en < 0) ∨ (m = true ∧ 1 ≤ k ∧ k ≤ 8 ∧ 0 ≤ en ∧ 40000 ≤ en) ∨ (m = true ∧ 1 ≤ k ∧ k ≤ 8 ∧ 0 ≤ en ∧ en < 40000 ∧ 24 < (nm.size : Int)) ∨ (m = true ∧ 1 ≤ k ∧ k ≤ 8 ∧ 0 ≤ en ∧ en < 40000 ∧ (nm.size : Int) ≤ 24) := by
            cases m
            · simp
            · simp only [true_and, reduceCtorEq, false_or]; omega
          rcases hcase with rfl | ⟨rfl, y1⟩ | ⟨rfl, y1, y2⟩ | ⟨rfl, y1, y2, y3⟩ | ⟨rfl, y1, y2, y3, y4⟩ | ⟨rfl, y1, y2, y3, y4, y5⟩ | ⟨rfl, y1, y2, y3, y4, y5⟩
          all_goals
            go_wp2
          · go_ret
            exact ⟨congrArg (fun b => Ending.returned (.bool b)) (HFa.out (by rw [HEv.out]; rfl)).symm, HBY.out⟩
          iterate 5
            · go_ret
              exact ⟨congrArg (fun b => Ending.returned (.bool b)) (HFa.out (by rw [HEv.out, Bool.eq_false_iff]; simp; omega)).symm, HBY.out⟩
          · exact ⟨⟨i + 1, by go_num, by omega, HTr.out (by rw [HEv.out]; simp; omega), HBY⟩, by simp [intOf]; omega⟩
        · have HC := rowOf_at wz 1 1 rfl (by decide)
          obtain ⟨f0, f1, f2, f3, f4, f5⟩ := HFz.out.six
          go_wp2_with fail
          refine HC.mono ?_
          rintro e w2 ⟨rfl, hb2⟩
          unfold rowV
          obtain ⟨w3, hw3⟩ : ∃ w3, w2.alloc (.cells #[.func (.func 70) #[] #[], .func (.func 71) #[] #[], .func (.func 73) #[] #[]] 102) = w3 := ⟨_, rfl⟩
          obtain ⟨R, hRR⟩ : ∃ R, w2.heap.size = R := ⟨_, rfl⟩
          have nb : Below w2.heap.size w2 w3 := by rw [← hw3]; exact (Below.refl _ _).alloc (Nat.le_refl _) _
          have HF3 : Hid (Full w3 A 37 [.int .i64 k, .int .i64 en, .string nm, .int .i64 1, .int .i64 vn, .string vs]) := (HFz.out.next hb2).next nb
          have HR3 : Hid (Full w3 R 102 [.func (.func 70) #[] #[], .func (.func 71) #[] #[], .func (.func 73) #[] #[]]) := by rw [← hw3, ← hRR]; exact Full.new w2 _ _
          have HB3 : Hid (Below W.heap.size W w3) := (HBz.out.trans (hb2.mono HBz.out.size)).trans (nb.mono (Nat.le_trans HBz.out.size hb2.size))
          clear HC f0 f1 f2 f3 f4 f5 c0 c1 c2 c3 c4 c5 hb2 nb HFz hwz HBz
          obtain ⟨f0, f1, f2, f3, f4, f5⟩ := HF3.out.six
          have r0 := (HR3.out.cell 0 _ rfl).1
          obtain ⟨m, hm⟩ : ∃ m, valOk 1 vn vs.data.toList = m := ⟨_, rfl⟩
          have HM := may_1 w3 vn vs z3
          rw [hm] at HM
          rw [hm] at HEv
          clear hm HR3
          go_wp2_with fail
          refine HM.mono ?_
          rintro e w4 ⟨rfl, hb4⟩
          have HF4 : Hid (Full w4 A 37 [.int .i64 k, .int .i64 en, .string nm, .int .i64 1, .int .i64 vn, .string vs]) := HF3.out.next hb4
          have HBY : Hid (Below W.heap.size W w4) := HB3.out.trans (hb4.mono HB3.out.size)
          clear f0 f1 f2 f3 f4 f5 r0 hw3 HM hb4 HF3 HB3
          obtain ⟨f0, f1, f2, f3, f4, f5⟩ := HF4.out.six
          have hcase : m = false ∨ (m = true ∧ k < 1) ∨ (m = true ∧ 1 ≤ k ∧ 8 < k) ∨ (m = true ∧ 1 ≤ k ∧ k ≤ 8 ∧ en < 0) ∨ (m = true ∧ 1 ≤ k ∧ k ≤ 8 ∧ 0 ≤ en ∧ 40000 ≤ en) ∨ (m = true ∧ 1 ≤ k ∧ k ≤ 8 ∧ 0 ≤ en ∧ en < 40000 ∧ 24 < (nm.size : Int)) ∨ (m = true ∧ 1 ≤ k ∧ k ≤ 8 ∧ 0 ≤ en ∧ en < 40000 ∧ (nm.size : Int) ≤ 24) := by
            cases m
            · simp
            · simp only [true_and, reduceCtorEq, false_or]; omega
          rcases hcase with rfl | ⟨rfl, y1⟩ | ⟨rfl, y1, y2⟩ | ⟨rfl, y1, y2, y3⟩ | ⟨rfl, y1, y2, y3, y4⟩ | ⟨rfl, y1, y2, y3, y4, y5⟩ | ⟨rfl, y1, y2, y3, y4, y5⟩
          all_goals
            go_wp2
          · go_ret
            exact ⟨congrArg (fun b => Ending.returned (.bool b)) (HFa.out (by rw [HEv.out]; rfl)).symm, HBY.out⟩
          iterate 5
            · go_ret
              exact ⟨congrArg (fun b => Ending.returned (.bool b)) (HFa.out (by rw [HEv.out, Bool.eq_false_iff]; simp; omega)).symm, HBY.out⟩
          · exact ⟨⟨i + 1, by go_num, by omega, HTr.out (by rw [HEv.out]; simp; omega), HBY⟩, by simp [intOf]; omega⟩
        · have HC := rowOf_at wz 2 2 rfl (by decide)
          obtain ⟨f0, f1, f2, f3, f4, f5⟩ := HFz.out.six
          go_wp2_with fail
          refine HC.mono ?_
          rintro e w2 ⟨rfl, hb2⟩
          unfold rowV
          obtain ⟨w3, hw3⟩ : ∃ w3, w2.alloc (.cells #[.func (.func 75) #[] #[], .func (.func 76) #[] #[], .func (.func 77) #[] #[]] 102) = w3 := ⟨_, rfl⟩
          obtain ⟨R, hRR⟩ : ∃ R, w2.heap.size = R := ⟨_, rfl⟩
          have nb : Below w2.heap.size w2 w3 := by rw [← hw3]; exact (Below.refl _ _).alloc (Nat.le_refl _) _
          have HF3 : Hid (Full w3 A 37 [.int .i64 k, .int .i64 en, .string nm, .int .i64 2, .int .i64 vn, .string vs]) := (HFz.out.next hb2).next nb
          have HR3 : Hid (Full w3 R 102 [.func (.func 75) #[] #[], .func (.func 76) #[] #[], .func (.func 77) #[] #[]]) := by rw [← hw3, ← hRR]; exact Full.new w2 _ _
          have HB3 : Hid (Below W.heap.size W w3) := (HBz.out.trans (hb2.mono HBz.out.size)).trans (nb.mono (Nat.le_trans HBz.out.size hb2.size))
          clear HC f0 f1 f2 f3 f4 f5 c0 c1 c2 c3 c4 c5 hb2 nb HFz hwz HBz
          obtain ⟨f0, f1, f2, f3, f4, f5⟩ := HF3.out.six
          have r0 := (HR3.out.cell 0 _ rfl).1
          obtain ⟨m, hm⟩ : ∃ m, valOk 2 vn vs.data.toList = m := ⟨_, rfl⟩
          have HM := may_2 w3 vn vs z3
          rw [hm] at HM
          rw [hm] at HEv
          clear hm HR3
          go_wp2_with fail
          refine HM.mono ?_
          rintro e w4 ⟨rfl, hb4⟩
          have HF4 : Hid (Full w4 A 37 [.int .i64 k, .int .i64 en, .string nm, .int .i64 2, .int .i64 vn, .string vs]) := HF3.out.next hb4
          have HBY : Hid (Below W.heap.size W w4) := HB3.out.trans (hb4.mono HB3.out.size)
          clear f0 f1 f2 f3 f4 f5 r0 hw3 HM hb4 HF3 HB3
          obtain ⟨f0, f1, f2, f3, f4, f5⟩ := HF4.out.six
          have hcase : m = false ∨ (m = true ∧ k < 1) ∨ (m = true ∧ 1 ≤ k ∧ 8 < k) ∨ (m = true ∧ 1 ≤ k ∧ k ≤ 8 ∧ en < 0) ∨ (m = true ∧ 1 ≤ k ∧ k ≤ 8 ∧ 0 ≤ en ∧ 40000 ≤ en) ∨ (m = true ∧ 1 ≤ k ∧ k ≤ 8 ∧ 0 ≤ en ∧ en < 40000 ∧ 24 < (nm.size : Int)) ∨ (m = true ∧ 1 ≤ k ∧ k ≤ 8 ∧ 0 ≤ en ∧ en < 40000 ∧ (nm.size : Int) ≤ 24) := by
            cases m
            · simp
            · simp only [true_and, reduceCtorEq, false_or]; omega
          rcases hcase with rfl | ⟨rfl, y1⟩ | ⟨rfl, y1, y2⟩ | ⟨rfl, y1, y2, y3⟩ | ⟨rfl, y1, y2, y3, y4⟩ | ⟨rfl, y1, y2, y3, y4, y5⟩ | ⟨rfl, y1, y2, y3, y4, y5⟩
          all_goals
            go_wp2
          · go_ret
            exact ⟨congrArg (fun b => Ending.returned (.bool b)) (HFa.out (by rw [HEv.out]; rfl)).symm, HBY.out⟩
          iterate 5
            · go_ret
              exact ⟨congrArg (fun b => Ending.returned (.bool b)) (HFa.out (by rw [HEv.out, Bool.eq_false_iff]; simp; omega)).symm, HBY.out⟩
          · exact ⟨⟨i + 1, by go_num, by omega, HTr.out (by rw [HEv.out]; simp; omega), HBY⟩, by simp [intOf]; omega⟩
        · have HC := rowOf_at wz 3 3 rfl (by decide)
          obtain ⟨f0, f1, f2, f3, f4, f5⟩ := HFz.out.six
          go_wp2_with fail
          refine HC.mono ?_
          rintro e w2 ⟨rfl, hb2⟩
          unfold rowV
          obtain ⟨w3, hw3⟩ : ∃ w3, w2.alloc (.cells #[.func (.func 79) #[] #[], .func (.func 80) #[] #[], .func (.func 83) #[] #[]] 102) = w3 := ⟨_, rfl⟩
          obtain ⟨R, hRR⟩ : ∃ R, w2.heap.size = R := ⟨_, rfl⟩
          have nb : Below w2.heap.size w2 w3 := by rw [← hw3]; exact (Below.refl _ _).alloc (Nat.le_refl _) _
          have HF3 : Hid (Full w3 A 37 [.int .i64 k, .int .i64 en, .string nm, .int .i64 3, .int .i64 vn, .string vs]) := (HFz.out.next hb2).next nb
          have HR3 : Hid (Full w3 R 102 [.func (.func 79) #[] #[], .func (.func 80) #[] #[], .func (.func 83) #[] #[]]) := by rw [← hw3, ← hRR]; exact Full.new w2 _ _
          have HB3 : Hid (Below W.heap.size W w3) := (HBz.out.trans (hb2.mono HBz.out.size)).trans (nb.mono (Nat.le_trans HBz.out.size hb2.size))
          clear HC f0 f1 f2 f3 f4 f5 c0 c1 c2 c3 c4 c5 hb2 nb HFz hwz HBz
          obtain ⟨f0, f1, f2, f3, f4, f5⟩ := HF3.out.six
          have r0 := (HR3.out.cell 0 _ rfl).1
          obtain ⟨m, hm⟩ : ∃ m, valOk 3 vn vs.data.toList = m := ⟨_, rfl⟩
          have HM := may_3 w3 vn vs z3
          rw [hm] at HM
          rw [hm] at HEv
          clear hm HR3
          go_wp2_with fail
          refine HM.mono ?_
          rintro e w4 ⟨rfl, hb4⟩
          have HF4 : Hid (Full w4 A 37 [.int .i64 k, .int .i64 en, .string nm, .int .i64 3, .int .i64 vn, .string vs]) := HF3.out.next hb4
          have HBY : Hid (Below W.heap.size W w4) := HB3.out.trans (hb4.mono HB3.out.size)
          clear f0 f1 f2 f3 f4 f5 r0 hw3 HM hb4 HF3 HB3
          obtain ⟨f0, f1, f2, f3, f4, f5⟩ := HF4.out.six
          have hcase : m = false ∨ (m = true ∧ k < 1) ∨ (m = true ∧ 1 ≤ k ∧ 8 < k) ∨ (m = true ∧ 1 ≤ k ∧ k ≤ 8 ∧ en < 0) ∨ (m = true ∧ 1 ≤ k ∧ k ≤ 8 ∧ 0 ≤ en ∧ 40000 ≤ en) ∨ (m = true ∧ 1 ≤ k ∧ k ≤ 8 ∧ 0 ≤ en ∧ en < 40000 ∧ 24 < (nm.size : Int)) ∨ (m = true ∧ 1 ≤ k ∧ k ≤ 8 ∧ 0 ≤ en ∧ en < 40000 ∧ (nm.size : Int) ≤ 24) := by
            cases m
            · simp
            · simp only [true_and, reduceCtorEq, false_or]; omega
          rcases hcase with rfl | ⟨rfl, y1⟩ | ⟨rfl, y1, y2⟩ | ⟨rfl, y1, y2, y3⟩ | ⟨rfl, y1, y2, y3, y4⟩ | ⟨rfl, y1, y2, y3, y4, y5⟩ | ⟨rfl, y1, y2, y3, y4, y5⟩
          all_goals
            go_wp2
          · go_ret
            exact ⟨congrArg (fun b => Ending.returned (.bool b)) (HFa.out (by rw [HEv.out]; rfl)).symm, HBY.out⟩
          iterate 5
            · go_ret
              exact ⟨congrArg (fun b => Ending.returned (.bool b)) (HFa.out (by rw [HEv.out, Bool.eq_false_iff]; simp; omega)).symm, HBY.out⟩
          · exact ⟨⟨i + 1, by go_num, by omega, HTr.out (by rw [HEv.out]; simp; omega), HBY⟩, by simp [intOf]; omega⟩
        · have HC := rowOf_at wz 4 4 rfl (by decide)
          obtain ⟨f0, f1, f2, f3, f4, f5⟩ := HFz.out.six
          go_wp2_with fail
          refine HC.mono ?_
          rintro e w2 ⟨rfl, hb2⟩
          unfold rowV
          obtain ⟨w3, hw3⟩ : ∃ w3, w2.alloc (.cells #[.func (.func 86) #[] #[], .func (.func 87) #[] #[], .func (.func 88) #[] #[]] 102) = w3 := ⟨_, rfl⟩
          obtain ⟨R, hRR⟩ : ∃ R, w2.heap.size = R := ⟨_, rfl⟩
          have nb : Below w2.heap.size w2 w3 := by rw [← hw3]; exact (Below.refl _ _).alloc (Nat.le_refl _) _
          have HF3 : Hid (Full w3 A 37 [.int .i64 k, .int .i64 en, .string nm, .int .i64 4, .int .i64 vn, .string vs]) := (HFz.out.next hb2).next nb
          have HR3 : Hid (Full w3 R 102 [.func (.func 86) #[] #[], .func (.func 87) #[] #[], .func (.func 88) #[] #[]]) := by rw [← hw3, ← hRR]; exact Full.new w2 _ _
          have HB3 : Hid (Below W.heap.size W w3) := (HBz.out.trans (hb2.mono HBz.out.size)).trans (nb.mono (Nat.le_trans HBz.out.size hb2.size))
          clear HC f0 f1 f2 f3 f4 f5 c0 c1 c2 c3 c4 c5 hb2 nb HFz hwz HBz
          obtain ⟨f0, f1, f2, f3, f4, f5⟩ := HF3.out.six
          have r0 := (HR3.out.cell 0 _ rfl).1
          obtain ⟨m, hm⟩ : ∃ m, valOk 4 vn vs.data.toList = m := ⟨_, rfl⟩
          have HM := may_4 w3 vn vs z3
          rw [hm] at HM
          rw [hm] at HEv
          clear hm HR3
          go_wp2_with fail
          refine HM.mono ?_
          rintro e w4 ⟨rfl, hb4⟩
          have HF4 : Hid (Full w4 A 37 [.int .i64 k, .int .i64 en, .string nm, .int .i64 4, .int .i64 vn, .string vs]) := HF3.out.next hb4
          have HBY : Hid (Below W.heap.size W w4) := HB3.out.trans (hb4.mono HB3.out.size)
          clear f0 f1 f2 f3 f4 f5 r0 hw3 HM hb4 HF3 HB3
          obtain ⟨f0, f1, f2, f3, f4, f5⟩ := HF4.out.six
          have hcase : m = false ∨ (m = true ∧ k < 1) ∨ (m = true ∧ 1 ≤ k ∧ 8 < k) ∨ (m = true ∧ 1 ≤ k ∧ k ≤ 8 ∧ en < 0) ∨ (m = true ∧ 1 ≤ k ∧ k ≤ 8 ∧ 0 ≤ en ∧ 40000 ≤ en) ∨ (m = true ∧ 1 ≤ k ∧ k ≤ 8 ∧ 0 ≤ en ∧ en < 40000 ∧ 24 < (nm.size : Int)) ∨ (m = true ∧ 1 ≤ k ∧ k ≤ 8 ∧ 0 ≤ en ∧ en < 40000 ∧ (nm.size : Int) ≤ 24) := by
            cases m
            · simp
            · simp only [true_and, reduceCtorEq, false_or]; omega
          rcases hcase with rfl | ⟨rfl, y1⟩ | ⟨rfl, y1, y2⟩ | ⟨rfl, y1, y2, y3⟩ | ⟨rfl, y1, y2, y3, y4⟩ | ⟨rfl, y1, y2, y3, y4, y5⟩ | ⟨rfl, y1, y2, y3, y4, y5⟩
          all_goals
            go_wp2
          · go_ret
            exact ⟨congrArg (fun b => Ending.returned (.bool b)) (HFa.out (by rw [HEv.out]; rfl)).symm, HBY.out⟩
          iterate 5
            · go_ret
              exact ⟨congrArg (fun b => Ending.returned (.bool b)) (HFa.out (by rw [HEv.out, Bool.eq_false_iff]; simp; omega)).symm, HBY.out⟩
          · exact ⟨⟨i + 1, by go_num, by omega, HTr.out (by rw [HEv.out]; simp; omega), HBY⟩, by simp [intOf]; omega⟩
      · have HC := rowOf_no wz vk hk
        have HV0 : Hid (RV = false) := HFa.out (by
          rw [HEv.out, Bool.eq_false_iff]
          intro h
          simp only [Bool.and_eq_true] at h
          have := valOk_kind h.1.1.1.1.1
          omega)
        obtain ⟨f0, f1, f2, f3, f4, f5⟩ := HFz.out.six
        go_wp2_with fail
        refine HC.mono ?_
        rintro e w2 ⟨rfl, hb2⟩
        have HB2 : Hid (Below W.heap.size W (w2.alloc (.cells #[.nilFunc, .nilFunc, .nilFunc] 102))) := (HBz.out.trans (hb2.mono HBz.out.size)).alloc (Nat.le_trans HBz.out.size hb2.size) _
        clear HC f0 f1 f2 f3 f4 f5 c0 c1 c2 c3 c4 c5 hb2 HFz hwz HBz HEv HTr hk
        go_wp2
        go_ret
        exact ⟨congrArg (fun b => Ending.returned (.bool b)) HV0.out.symm, HB2.out⟩
    · obtain rfl : i = n := by omega
      have qi : ¬ (i : Int) < (i : Int) := by omega
      have HV : Hid (RV = true) := by
        have := HA.out
        rw [← HN.out, List.take_length, HRV.out] at this
        exact this
      clear HR HA him hlt
      go_wp2
      go_ret
      exact ⟨congrArg (fun b => Ending.returned (.bool b)) HV.out.symm, HB.out⟩
end Go.Proofs.YtdmiciblfbkndaaDoor

namespace Go.Proofs.YtdmiciblfbkndaaDoor
open Go.RowKit

set_option maxRecDepth 100000 in
theorem hasPre_any (W : World) (s t : ByteArray) (hs : s.size ≤ 140737488355328) (ht : t.size ≤ 1000) :
    Calls Tryd.prog 58 #[.string s, .string t] W fun e w' => e = .returned (.bool (decide (s.data.toList.take t.size = t.data.toList))) ∧ w' = W := by
  have hz := Lib.size_eq s
  have hzt := Lib.size_eq t
  by_cases hle : t.size ≤ s.size
  · obtain ⟨x, hx⟩ : ∃ x : ByteArray, x.data.toList = s.data.toList.take t.size := ⟨⟨(s.data.toList.take t.size).toArray⟩, rfl⟩
    have R1 := sl_to (s := s) (x := x) (k := t.size) hle hx
    have q1 : (t.size : Int) ≤ (s.size : Int) := by omega
    have q2 : (s.size : Int) ≤ 9223372036854775807 := by omega
    have q3 : (t.size : Int) ≤ 9223372036854775807 := by omega
    have HV : Hid ((x.toList == t.toList) = decide (s.data.toList.take t.size = t.data.toList)) := by
      show _ = _
      rw [toL, toL, hx, Bool.eq_iff_iff]
      simp
    clear hz hzt hx hs ht hle
    go_enter Tryd.func58, Tryd.ntmps58
    go_wp2_with fail
    go_ret
    exact ⟨congrArg (fun x => Ending.returned (.bool x)) HV.out, rfl⟩
  · have q1 : (s.size : Int) < (t.size : Int) := by omega
    have q2 : (s.size : Int) ≤ 9223372036854775807 := by omega
    have q3 : (t.size : Int) ≤ 9223372036854775807 := by omega
    have HV : Hid (decide (s.data.toList.take t.size = t.data.toList) = false) := by
      show _ = _
      rw [decide_eq_false_iff_not]
      intro h
      have := congrArg List.length h
      rw [List.length_take] at this
      omega
    clear hz hzt hs ht hle
    go_enter Tryd.func58, Tryd.ntmps58
    go_wp2_with fail
    go_ret
    exact ⟨congrArg (fun x => Ending.returned (.bool x)) HV.out.symm, rfl⟩
/-- What CutPrefix answers. -/
def cutP (l p : List UInt8) : List UInt8 × Bool := if l.take p.length = p then (l.drop p.length, true) else (l, false)
set_option maxRecDepth 100000 in
theorem cutPre_any (W : World) (s t : ByteArray) (hs : s.size ≤ 140737488355328) (ht : t.size ≤ 1000) :
    Calls Tryd.prog 44 #[.string s, .string t] W fun e w' => e = .returned (.tuple #[sV (cutP s.data.toList t.data.toList).1, .bool (cutP s.data.toList t.data.toList).2]) ∧ w' = W := by
  have HC := hasPre_any W s t hs ht
  have hz := Lib.size_eq s
  have hzt := Lib.size_eq t
  have q2 : (s.size : Int) ≤ 9223372036854775807 := by omega
  have q3 : (t.size : Int) ≤ 9223372036854775807 := by omega
  by_cases h : s.data.toList.take t.size = t.data.toList
  · have hle : t.size ≤ s.size := by
      have := congrArg List.length h
      rw [List.length_take] at this
      omega
    obtain ⟨x, hx⟩ : ∃ x : ByteArray, x.data.toList = s.data.toList.drop t.size := ⟨⟨(s.data.toList.drop t.size).toArray⟩, rfl⟩
    have R1 := sl_from (s := s) (x := x) (k := t.size) hle hx
    have HV : Hid (cutP s.data.toList t.data.toList = (x.data.toList, true)) := by
      show cutP _ _ = _
      unfold cutP
      rw [← hzt, if_pos h, hx]
    have HX : Hid (sV x.data.toList = .string x) := sV_at rfl
    rw [HV.out]
    simp only
    rw [HX.out]
    rw [decide_eq_true h] at HC
    clear h hz hzt hle hx hs ht
    go_enter Tryd.func44, Tryd.ntmps44
    go_wp2_with fail
    refine HC.mono ?_
    rintro e w2 ⟨rfl, rfl⟩
    clear HC
    go_wp2_with fail
    go_ret2
    exact ⟨rfl, rfl⟩
  · have HV : Hid (cutP s.data.toList t.data.toList = (s.data.toList, false)) := by
      show cutP _ _ = _
      unfold cutP
      rw [← hzt, if_neg h]
    have HX : Hid (sV s.data.toList = .string s) := sV_at rfl
    rw [HV.out]
    simp only
    rw [HX.out]
    rw [decide_eq_false h] at HC
    clear h hz hzt hs ht
    go_enter Tryd.func44, Tryd.ntmps44
    go_wp2_with fail
    refine HC.mono ?_
    rintro e w2 ⟨rfl, rfl⟩
    clear HC
    go_wp2_with fail
    go_ret2
    exact ⟨rfl, rfl⟩
set_option maxRecDepth 100000 in
theorem cut_any (W : World) (s t : ByteArray) (hs : s.size ≤ 140737488355328) (ht : t.size ≤ 1000) :
    Calls Tryd.prog 25 #[.string s, .string t] W fun e w' => e = .returned (.tuple #[sV (cutP s.data.toList t.data.toList).1, .bool (cutP s.data.toList t.data.toList).2]) ∧ w' = W := by
  have HC := cutPre_any W s t hs ht
  generalize cutP s.data.toList t.data.toList = pr at HC ⊢
  obtain ⟨a, b⟩ := pr
  clear hs ht
  go_enter Tryd.func25, Tryd.ntmps25
  go_wp2_with fail
  refine HC.mono ?_
  rintro e w2 ⟨rfl, rfl⟩
  clear HC
  go_wp2_with fail
  go_ret2
  exact ⟨rfl, rfl⟩
end Go.Proofs.YtdmiciblfbkndaaDoor

namespace Go.Proofs.YtdmiciblfbkndaaDoor
open Go.RowKit

theorem numR_lt : ∀ (k sh acc : Nat) (r : List UInt8), acc < 18446744073709551616 → acc < 2 ^ sh → sh + 7 * k ≤ 70 → (numR k sh acc r).1 < 18446744073709551616 := by
  intro k
  induction k with
  | zero => intro sh acc r h _ _; exact h
  | succ k ih =>
    intro sh acc r h hs hk
    rw [numR_step]
    have hm : (byteR r).1.toNat % 128 ≤ 127 := by omega
    generalize (byteR r).1.toNat % 128 = m at hm
    have hp : 2 ^ sh ≤ 2 ^ 63 := Nat.pow_le_pow_right (by decide) (by omega)
    have h63 : (2 : Nat) ^ 63 = 9223372036854775808 := by decide
    have hmul : m * 2 ^ sh ≤ 127 * 2 ^ sh := Nat.mul_le_mul_right _ hm
    have hp7 : 2 ^ (sh + 7) = 2 ^ sh * 128 := by rw [Nat.pow_add]
    have hb : acc + m * 2 ^ sh % 18446744073709551616 < 18446744073709551616 := by
      by_cases h9 : sh ≤ 56
      · have : 2 ^ sh ≤ 2 ^ 56 := Nat.pow_le_pow_right (by decide) h9
        have h56 : (2 : Nat) ^ 56 = 72057594037927936 := by decide
        omega
      · have e : sh = 57 ∨ sh = 58 ∨ sh = 59 ∨ sh = 60 ∨ sh = 61 ∨ sh = 62 ∨ sh = 63 := by omega
        rcases e with rfl | rfl | rfl | rfl | rfl | rfl | rfl <;> omega
    split
    · exact hb
    · refine ih (sh + 7) _ _ hb ?_ (by omega)
      rw [hp7]
      have := Nat.mod_le (m * 2 ^ sh) 18446744073709551616
      omega
theorem nR_lt (r : List UInt8) : (nR r).1 < 18446744073709551616 := numR_lt 10 0 0 r (by decide) (by decide) (by decide)
theorem byteR_len (r : List UInt8) : (byteR r).2.length ≤ r.length := by cases r <;> simp [byteR]
theorem numR_len : ∀ (k sh acc : Nat) (r : List UInt8), (numR k sh acc r).2.length ≤ r.length := by
  intro k
  induction k with
  | zero => intro sh acc r; exact Nat.le_refl _
  | succ k ih =>
    intro sh acc r
    rw [numR_step]
    have := byteR_len r
    split
    · exact this
    · exact Nat.le_trans (ih _ _ _) this
theorem nR_len (r : List UInt8) : (nR r).2.length ≤ r.length := numR_len _ _ _ _
theorem and1 (n : Int) (h0 : 0 ≤ n) (h1 : n < 18446744073709551616) : bits .and .u64 n 1 = n % 2 := by
  have h := bits_mask .u64 64 (by decide) wraps_u64 1 (by decide) n h0 (by omega)
  have e2 : ((2 : Int) ^ 1) = 2 := by decide
  simp only [e2] at h
  rw [show (1 : Int) = 2 - 1 by decide, h]
theorem ofInt64 (a : Int) (h0 : 0 ≤ a) (h1 : a < 9223372036854775808) : (BitVec.ofInt 64 a).toNat = a.toNat := by
  rw [BitVec.toNat_ofInt]
  have : (2 : Nat) ^ 64 = 18446744073709551616 := by decide
  omega
theorem xor_i64_neg (a : Int) (h0 : 0 ≤ a) (h1 : a < 9223372036854775808) : bits .xor .i64 a (-1) = -a - 1 := by
  unfold bits
  show IntKind.i64.wrap (((BitVec.ofInt 64 a ^^^ BitVec.ofInt 64 (-1)).toNat : Nat) : Int) = _
  rw [show BitVec.ofInt 64 (-1) = BitVec.allOnes 64 from rfl, BitVec.xor_allOnes, BitVec.toNat_not, ofInt64 a h0 h1, IntKind.wrap_i64]
  have : (2 : Nat) ^ 64 = 18446744073709551616 := by decide
  omega
theorem xor_i64_zero (a : Int) (h0 : 0 ≤ a) (h1 : a < 9223372036854775808) : bits .xor .i64 a 0 = a := by
  unfold bits
  show IntKind.i64.wrap (((BitVec.ofInt 64 a ^^^ BitVec.ofInt 64 0).toNat : Nat) : Int) = _
  rw [show BitVec.ofInt 64 0 = 0#64 from rfl, BitVec.xor_zero, ofInt64 a h0 h1, IntKind.wrap_i64]
  omega
theorem xor_uz (n : Nat) (h : n < 18446744073709551616) : bits BinOp.xor IntKind.i64 ((n : Int) / 2) (wrap64 (-wrap64 (bits BinOp.and IntKind.u64 (n : Int) 1))) = uz n := by
  rw [and1 _ (by omega) (by omega)]
  unfold uz
  by_cases h1 : n % 2 = 1
  · rw [if_pos h1, show wrap64 (-wrap64 ((n : Int) % 2)) = -1 by unfold wrap64; omega, xor_i64_neg _ (by omega) (by omega)]
    omega
  · rw [if_neg h1, show wrap64 (-wrap64 ((n : Int) % 2)) = 0 by unfold wrap64; omega, xor_i64_zero _ (by omega) (by omega)]
    omega
/-- The run of an append of a name to the reader's names. -/
theorem Rdr.nam {B : Nat} {W : World} {P : Nat} {s : Rd} {nv : Value} (h : Rdr B W P s nv) (x : ByteArray) (hl : s.ns.length + 1 ≤ 100000000) : ∃ q cp w2,
    (Builtin.append_ #[95, 95] 95 #[nv, .slice (some ⟨W.heap.size, 0, none⟩) 1 1]).run Tryd.prog (W.alloc (.cells #[.string x] 9)) = .ok (.slice q (s.ns.length + 1) cp) w2 ∧
    w2.cell? ⟨P, 1, none⟩ = some nv ∧ w2.frozen? ⟨P, 1, none⟩ = false ∧ RdQ B W P ⟨s.nd, s.ns ++ [x.data.toList], s.r⟩ (w2.setCell ⟨P, 1, none⟩ (.slice q (s.ns.length + 1) cp)) := by
  have bZ : Below W.heap.size W (W.alloc (.cells #[.string x] 9)) := (Below.refl _ W).alloc (Nat.le_refl _) _
  have hZ := h.next bZ
  have fZ : Full (W.alloc (.cells #[.string x] 9)) W.heap.size 9 [.string x] := Full.new W _ _
  obtain ⟨nv', w2, r9, o9, g9⟩ := app_any (P := Tryd.prog) 95 95 _ 16 Tryd.underlying95 infoS rfl (by decide) (by decide) nv s.ns.length _ hZ.names W.heap.size [.string x] rfl (by simp [Value.oneCell']) fZ.range (by omega) hZ.size
  obtain ⟨q9, k9, rfl, -, -⟩ := own_slice o9
  rw [show [Value.string x] = [sV x.data.toList] by rw [sV_at rfl]] at o9
  have f : Full w2 P 131 [.int .i64 s.nd, nv, sV s.r] := hZ.box.grow hZ.names (by decide) g9
  have b : Below B W w2 := (bZ.mono h.size).trans ((Below.refl B _).grown g9 hZ.size (own_ge hZ.names))
  have ho' : w2.ownsRow B 9 1 (.slice q9 (s.ns.length + 1) k9) (s.ns ++ [x.data.toList]).length ((s.ns ++ [x.data.toList]).map sV) := by simpa using o9
  have f9 := f.three
  exact ⟨q9, k9, w2, r9, f9.2.1.1, f9.2.1.2, ⟨⟨_, h.low, Full.put1 (a := [.int .i64 s.nd]) (d := [sV s.r]) f _, own_oth ho' f (by decide) 1 _⟩, b.setCell (p := ⟨P, 1, none⟩) h.low _, fun g t vs fg h1 h2 => ((fg.next bZ).grow hZ.names (Ne.symm h1) g9).other1 (((fg.next bZ).grow hZ.names (Ne.symm h1) g9).ne f h2)⟩⟩
section
variable {B : Nat} {W : World} {P : Nat} {s : Rd}
set_option maxRecDepth 100000 in
theorem rsigned (h : RdS B W P s) (hz : s.r.length ≤ 140737488355328) :
    Calls Tryd.prog 74 #[.pointer (some ⟨P, 0, none⟩)] W fun e w' => e = .returned (.int .i64 (uz (nR s.r).1)) ∧ RdQ B W P ⟨s.nd, s.ns, (nR s.r).2⟩ w' := by
  have HC := rnumber h hz
  have hlt := nR_lt s.r
  obtain ⟨n, hn⟩ : ∃ n, (nR s.r).1 = n := ⟨_, rfl⟩
  rw [hn] at HC hlt ⊢
  have q0 : (0 : Int) ≤ (n : Int) := by omega
  have q1 : (n : Int) < 18446744073709551616 := by omega
  clear hn
  go_enter Tryd.func74, Tryd.ntmps74
  go_wp2_with fail
  refine HC.mono ?_
  rintro e w2 ⟨rfl, hw2⟩
  clear HC
  have HV : Hid (bits BinOp.xor IntKind.i64 ((n : Int) / 2) (wrap64 (-wrap64 (bits BinOp.and IntKind.u64 (n : Int) 1))) = uz n) := xor_uz n hlt
  go_wp2
  go_ret
  exact ⟨congrArg (fun x => Ending.returned (.int .i64 x)) HV.out, hw2⟩
set_option maxRecDepth 100000 in
theorem rname (h : RdS B W P s) (hz : s.r.length ≤ 140737488355328) (hns : s.ns.length ≤ 900) :
    Calls Tryd.prog 94 #[.pointer (some ⟨P, 0, none⟩)] W fun e w' => e = .returned (sV (nmR s.ns s.r).1) ∧ RdQ B W P ⟨s.nd, (nmR s.ns s.r).2.1, (nmR s.ns s.r).2.2⟩ w' := by
  obtain ⟨nd, ns, r⟩ := s
  simp only at hz hns
  have HC := rnumber h hz
  have hlt := nR_lt r
  have hln := nR_len r
  simp only at HC ⊢
  obtain ⟨p, hp⟩ : ∃ p, (nR r).1 = p := ⟨_, rfl⟩
  obtain ⟨r1, hr1⟩ : ∃ r1, (nR r).2 = r1 := ⟨_, rfl⟩
  rw [hp] at hlt
  rw [hr1] at hln
  have hq : p = 0 ∨ (∃ k, p = k + 1 ∧ k < ns.length) ∨ ns.length < p := by
    rcases Nat.eq_zero_or_pos p with h0 | h0
    · exact .inl h0
    · rcases Nat.lt_or_ge ns.length p with h1 | h1
      · exact .inr (.inr h1)
      · exact .inr (.inl ⟨p - 1, by omega, by omega⟩)
  rcases hq with rfl | ⟨k, rfl, hk⟩ | hgt
  · have HV : Hid (nmR ns r = ([], ns, r1)) := by show nmR _ _ = _; unfold nmR; simp only; rw [hp, if_pos rfl, hr1]
    rw [HV.out]
    rw [hp, hr1] at HC
    clear h hz hns hlt hln hp hr1
    go_enter Tryd.func94, Tryd.ntmps94
    go_wp2_with fail
    refine HC.mono ?_
    rintro e w2 ⟨rfl, hw2⟩
    clear HC
    go_wp2
    go_ret
    exact ⟨rfl, hw2⟩
  · obtain ⟨x, hx⟩ : ∃ x, ns[k]? = some x := ⟨ns[k], List.getElem?_eq_getElem hk⟩
    have HV : Hid (nmR ns r = (x, ns, r1)) := by
      show nmR _ _ = _
      unfold nmR
      simp only
      rw [hp, if_neg (by omega), if_pos (by omega), hr1, Nat.add_sub_cancel, List.getD_eq_getElem?_getD, hx]
      rfl
    rw [HV.out]
    rw [hp, hr1] at HC
    have q1 : (k : Int) + 1 < 18446744073709551616 := by omega
    have q2 : (k : Int) + 1 ≤ (ns.length : Int) := by omega
    have q3 : (k : Int) < (ns.length : Int) := by omega
    have q4 : (0 : Int) ≤ (k : Int) := by omega
    have q5 : (ns.length : Int) < 18446744073709551616 := by omega
    have q6 : ((k : Int) + 1 == 0) = false := by rw [beq_eq_false_iff_ne]; omega
    have ek : (((k + 1 : Nat)) : Int) = (k : Int) + 1 := by omega
    rw [ek] at HC
    obtain ⟨xb, hxb⟩ : ∃ b : ByteArray, b.data.toList = x := ⟨⟨x.toArray⟩, rfl⟩
    rw [show sV x = .string xb from sV_at hxb]
    have HX : Hid (ns[k]? = some x ∧ xb.data.toList = x ∧ 0 < ns.length) := ⟨hx, hxb, by omega⟩
    clear h hz hlt hln hp hr1 hk ek hx hxb
    go_enter Tryd.func94, Tryd.ntmps94
    go_wp2_with fail
    refine HC.mono ?_
    rintro e w2 ⟨rfl, hw2⟩
    clear HC
    obtain ⟨q, cap, -, ⟨c1, -⟩, -, -, hrow⟩ := hw2.out.1.cells
    obtain ⟨g, o, rfl, -, hrg⟩ := hrow HX.out.2.2
    have cx : w2.cell? ⟨g, o + k, none⟩ = some (.string xb) := hrg k (.string xb) (by rw [List.getElem?_map, HX.out.1]; exact congrArg some (sV_at HX.out.2.1))
    simp only at c1
    clear hrow hrg HX
    go_wp2
    go_ret
    exact ⟨rfl, hw2⟩
  · obtain ⟨c, hc⟩ : ∃ c, (byteR r1).1 = c := ⟨_, rfl⟩
    obtain ⟨r2, hr2⟩ : ∃ r2, (byteR r1).2 = r2 := ⟨_, rfl⟩
    have HV : Hid (nmR ns r = (r2.take c.toNat, ns ++ [r2.take c.toNat], r2.drop c.toNat)) := by
      show nmR _ _ = _
      unfold nmR
      simp only
      rw [hp, if_neg (by omega), if_neg (by omega), hr1, hc, hr2]
    rw [HV.out]
    rw [hp, hr1] at HC
    have q2 : (ns.length : Int) < (p : Int) := by omega
    have q5 : IntKind.u64.wrap (ns.length : Int) = (ns.length : Int) := by rw [IntKind.wrap_u64]; omega
    have q6 : ((p : Int) == 0) = false := by rw [beq_eq_false_iff_ne]; omega
    have HL : Hid (r1.length ≤ 140737488355328 ∧ r2.length ≤ 140737488355328 ∧ ns.length ≤ 900) := ⟨by omega, by have := byteR_len r1; rw [hr2] at this; omega, hns⟩
    have HB : Hid ((byteR r1).1 = c ∧ (byteR r1).2 = r2) := ⟨hc, hr2⟩
    have hct := UInt8.toNat_lt c
    have q7 : (c.toNat : Int) < 256 := by omega
    clear h hz hlt hln hp hr1 hgt hc hr2 hns
    go_enter Tryd.func94, Tryd.ntmps94
    go_wp2_with fail
    refine HC.mono ?_
    rintro e w2 ⟨rfl, hw2⟩
    obtain ⟨q, cap, -, ⟨c1, -⟩, -, -, hrow⟩ := hw2.out.1.cells
    simp only at c1
    have HC2 := rbyte hw2.out.1 HL.out.1
    simp only [HB.out.1, HB.out.2] at HC2
    clear HC hrow
    go_wp2_with fail
    refine HC2.mono ?_
    rintro e w3 ⟨rfl, hw3⟩
    have HC3 := rbytes hw3.out.1 c.toNat (by omega) HL.out.2.1
    simp only at HC3
    clear HC2 c1 q2 q5 q6
    go_wp2_with fail
    refine HC3.mono ?_
    rintro e w4 ⟨rfl, hw4⟩
    obtain ⟨xb, hxb⟩ : ∃ b : ByteArray, b.data.toList = r2.take c.toNat := ⟨⟨(r2.take c.toNat).toArray⟩, rfl⟩
    have hq4 := hw2.trans (hw3.trans hw4)
    obtain ⟨nv, h4⟩ := hw4.out.1
    obtain ⟨q9, k9, w9, r9, d1, d2, hK⟩ := h4.nam xb (by have := HL.out.2.2; simp only; omega)
    have HQ := hq4.trans hK
    simp only [hxb] at HQ r9
    obtain ⟨-, ⟨c1, -⟩, -, -⟩ := h4.box.three
    have HXb : Hid (sV (r2.take c.toNat) = .string xb) := sV_at hxb
    rw [show sV (r2.take c.toNat) = .string xb from sV_at hxb]
    obtain ⟨qn, cn, rfl, -, -⟩ := own_slice h4.names
    clear HC3 hw2 hw3 hw4 hq4 h4 hK hxb hct q7
    go_wp2_with (at_builtin; refine wpList_run rfl _ _ _ _ _ _ _ r9 (by rfl) (by rfl) (by rfl) (by rfl) ?_)
    go_ret
    exact ⟨congrArg Ending.returned HXb.out.symm, HQ⟩
end
end Go.Proofs.YtdmiciblfbkndaaDoor

namespace Go.Proofs.YtdmiciblfbkndaaDoor
open Go.RowKit

theorem convB (X : World) (a : Int) (c : UInt8) (ha : a = (c.toNat : Int)) : (convert 75 9 (.slice (some ⟨X.heap.size, 0, none⟩) 1 1)).run Tryd.prog (X.alloc (.cells #[.int .u8 a] 5)) = .ok (.string ⟨#[c]⟩) (X.alloc (.cells #[.int .u8 a] 5)) := by
  subst ha
  exact Lx.conv_own (base := X.heap.size) (n := 1) (l := [c]) ⟨rfl, Or.inr ⟨X.heap.size, 1, _, rfl, Nat.le_refl _, heap_alloc_new X _, Nat.le_refl _, by unfold maxLen; omega, rfl, rfl⟩⟩
theorem ofList_data (b : ByteArray) (l : List UInt8) (h : b.data.toList = l) : b = ⟨l.toArray⟩ := by
  subst h
  rfl
set_option maxRecDepth 100000 in
set_option maxHeartbeats 1000000 in
theorem wide_any (W : World) (n k : Nat) (hn : n < 18446744073709551616) (hk : k ≤ 8) :
    Calls Tryd.prog 23 #[.int .u64 (n : Int), .int .i64 (k : Int)] W fun e w' => e = .returned (.string ⟨(fxS n k).toArray⟩) ∧ Below W.heap.size W w' := by
  go_enter Tryd.func23, Tryd.ntmps23
  go_wp2_with fail
  go_loopw [0, 5, 6] (fun x b j wr => ∃ (i m : Nat) (s : ByteArray), x = .int .u64 (m : Int) ∧ b = .string s ∧ j = .int .i64 (i : Int) ∧ i ≤ k ∧ m < 18446744073709551616 ∧ Hid (m = n / 256 ^ i ∧ s.data.toList = fxS n i ∧ Below W.heap.size W wr)) (fun _ _ j _ => k - (intOf j).toNat)
  case atStart => exact ⟨0, n, ⟨#[]⟩, rfl, rfl, rfl, Nat.zero_le _, hn, by simp, rfl, Below.refl _ _⟩
  case round =>
    obtain ⟨i, m, s, rfl, rfl, rfl, hi, hm, HI⟩ := hrel
    by_cases hend : i = k
    · have HF : Hid (s = ⟨(fxS n k).toArray⟩ ∧ Below W.heap.size W wr) := ⟨ofList_data s _ (hend ▸ HI.out.2.1), HI.out.2.2⟩
      subst hend
      clear HI
      go_wp2
      go_ret
      exact ⟨by rw [← HF.out.1]; rfl, HF.out.2⟩
    · have hlt : (i : Int) < (k : Int) := by omega
      have hs : s.size = i := by rw [Lib.size_eq, HI.out.2.1, fxS_len]
      obtain ⟨c, hc⟩ : ∃ c, UInt8.ofNat m = c := ⟨_, rfl⟩
      have hcn : ((m : Int) % 256) = (c.toNat : Int) := by rw [← hc, UInt8.toNat_ofNat']; omega
      have hct := UInt8.toNat_lt c
      have y1 : ¬ 9223372036854775807 < (⟨#[c]⟩ : ByteArray).size + s.size := by
        show ¬ 9223372036854775807 < 1 + s.size
        omega
      obtain ⟨s1, hs1⟩ : ∃ s1, (⟨#[c]⟩ : ByteArray) = s1 := ⟨_, rfl⟩
      obtain ⟨s2, hs2⟩ : ∃ s2, s1 ++ s = s2 := ⟨_, rfl⟩
      have RC := convB wr ((c.toNat : Int)) c rfl
      rw [hs1] at RC y1
      have HN : Hid (m / 256 = n / 256 ^ (i + 1) ∧ s2.data.toList = fxS n (i + 1) ∧ Below W.heap.size W (wr.alloc (.cells #[.int .u8 (c.toNat : Int)] 5))) := by
        refine ⟨?_, ?_, ?_⟩
        · rw [HI.out.1, Nat.div_div_eq_div_mul, Nat.pow_succ]
        · rw [← hs2, ← hs1, ByteArray.data_append, Array.toList_append, HI.out.2.1]
          show c :: fxS n i = UInt8.ofNat (n / 256 ^ i) :: fxS n i
          rw [← hc, HI.out.1]
        · exact HI.out.2.2.trans (((Below.refl _ wr).alloc (Nat.le_refl _) _).mono HI.out.2.2.size)
      clear HI hc hs1
      go_wp2
      exact ⟨⟨i + 1, m / 256, s2, by go_num, rfl, by go_num, by omega, by omega, HN⟩, by simp [intOf]; omega⟩
end Go.Proofs.YtdmiciblfbkndaaDoor
