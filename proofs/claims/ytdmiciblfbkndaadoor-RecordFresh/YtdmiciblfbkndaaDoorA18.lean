import Derived.RangeFuncOwn
import Derived.Test.YtdmiciblfbkndaaDoorA13
import Derived.Test.YtdmiciblfbkndaaDoorA14
import Derived.Test.YtdmiciblfbkndaaDoorA06
import Derived.Test.YtdmiciblfbkndaaDoorA09
import Derived.Test.YtdmiciblfbkndaaDoorA11
namespace Go.Proofs.YtdmiciblfbkndaaDoor
open Go.RowKit

theorem clone_any (s : ByteArray) (w : World) (hs : s.size ≤ 281474976710656) : Calls Tryd.prog 63 #[.string s] w fun e w' => e = .returned (.string s) ∧ Below w.heap.size w w' := by
  go_enter Tryd.func63, Tryd.ntmps63
  go_wp2_with (go_at_call 92; refine (Tryd.stringslite_Clone s w hs).mono ?_; rintro e w1 ⟨rfl, hb1⟩)
  go_ret
  exact ⟨rfl, hb1⟩
set_option maxRecDepth 100000 in
set_option maxHeartbeats 1000000 in
theorem own_any (W : World) (k n vk vn : Int) (nm vs : ByteArray) (h1 : nm.size ≤ 140737488355328) (h2 : vs.size ≤ 140737488355328) :
    Calls Tryd.prog 61 #[.agg #[.int .i64 k, .int .i64 n, .string nm, .int .i64 vk, .int .i64 vn, .string vs]] W fun e w' => e = .returned (.agg #[.int .i64 k, .int .i64 n, .string nm, .int .i64 vk, .int .i64 vn, .string vs]) ∧ Below W.heap.size W w' := by
  obtain ⟨X, hX⟩ : ∃ X, (W.alloc (.cells #[.int .i64 k, .int .i64 n, .string nm, .int .i64 vk, .int .i64 vn, .string vs] 37)).alloc (.cells #[.int .i64 0, .int .i64 0, .string ⟨#[]⟩, .int .i64 0, .int .i64 0, .string ⟨#[]⟩] 37) = X := ⟨_, rfl⟩
  obtain ⟨A, hA⟩ : ∃ A, W.heap.size = A := ⟨_, rfl⟩
  obtain ⟨R, hR⟩ : ∃ R, W.heap.size + 1 = R := ⟨_, rfl⟩
  have hAR : A ≠ R := by omega
  have fA : Full X A 37 [.int .i64 k, .int .i64 n, .string nm, .int .i64 vk, .int .i64 vn, .string vs] := by
    rw [← hX, ← hA]
    exact (Full.new W #[.int .i64 k, .int .i64 n, .string nm, .int .i64 vk, .int .i64 vn, .string vs] 37).next ((Below.refl _ _).alloc (Nat.le_refl _) _)
  have fR : Full X R 37 EvZ := by
    have := Full.new (W.alloc (.cells #[.int .i64 k, .int .i64 n, .string nm, .int .i64 vk, .int .i64 vn, .string vs] 37)) #[.int .i64 0, .int .i64 0, .string ⟨#[]⟩, .int .i64 0, .int .i64 0, .string ⟨#[]⟩] 37
    rw [World.size_alloc, hX, hR] at this
    exact this
  have bX : Below W.heap.size W X := by rw [← hX]; exact ((Below.refl _ W).alloc (Nat.le_refl _) _).alloc (by simp) _
  have HC := clone_any nm X (by omega)
  have HD : Hid (W.heap.size ≤ A ∧ W.heap.size ≤ R ∧ A ≠ R ∧ vs.size ≤ 140737488355328) := ⟨by omega, by omega, hAR, h2⟩
  have HX : Hid (Full X A 37 [.int .i64 k, .int .i64 n, .string nm, .int .i64 vk, .int .i64 vn, .string vs] ∧ Full X R 37 EvZ ∧ Below W.heap.size W X) := ⟨fA, fR, bX⟩
  obtain ⟨e0, e1, e2, e3, e4, e5⟩ := fA.six
  rw [hA] at hR
  clear fA fR bX h1 h2 hAR
  go_enter Tryd.func61, Tryd.ntmps61
  go_wp2_with fail
  refine HC.mono ?_
  rintro e w2 ⟨rfl, hb2⟩
  have fA2 := HX.out.1.next hb2
  have fR2 := HX.out.2.1.next hb2
  have fA3 := Full.put1 (a := [.int .i64 k, .int .i64 n]) (d := [.int .i64 vk, .int .i64 vn, .string vs]) fA2 (.string nm)
  have fR3 : Full (w2.setCell ⟨A, 2, none⟩ (.string nm)) R 37 EvZ := fR2.other1 (Ne.symm HD.out.2.2.1)
  have b3 : Below W.heap.size W (w2.setCell ⟨A, 2, none⟩ (.string nm)) := (below2 HX.out.2.2 hb2).setCell (p := ⟨A, 2, none⟩) HD.out.1 _
  obtain ⟨⟨⟨e0, f0⟩, ⟨e1, f1⟩, e2, f2⟩, ⟨e3, f3⟩, ⟨e4, f4⟩, e5, f5⟩ := fA2.six2
  obtain ⟨W3, hW3⟩ : ∃ W3, w2.setCell ⟨A, 2, none⟩ (.string nm) = W3 := ⟨_, rfl⟩
  have fA3' : Full W3 A 37 [.int .i64 k, .int .i64 n, .string nm, .int .i64 vk, .int .i64 vn, .string vs] := by rw [← hW3]; exact fA3
  rw [hW3] at fR3 b3
  obtain ⟨g0, g1, g2, g3, g4, g5⟩ := fA3'.six
  have HC2 := clone_any vs W3 (by have := HD.out.2.2.2; omega)
  have HY : Hid (Full W3 A 37 [.int .i64 k, .int .i64 n, .string nm, .int .i64 vk, .int .i64 vn, .string vs] ∧ Full W3 R 37 EvZ ∧ Below W.heap.size W W3) := ⟨fA3', fR3, b3⟩
  clear HC hb2 fA2 fR2 fA3 fR3 b3 fA3' HX hX
  go_wp2_with fail
  refine HC2.mono ?_
  rintro e w4 ⟨rfl, hb4⟩
  have fA4 := HY.out.1.next hb4
  have fR4 := HY.out.2.1.next hb4
  have fA5 := Full.put1 (a := [.int .i64 k, .int .i64 n, .string nm, .int .i64 vk, .int .i64 vn]) (d := []) fA4 (.string vs)
  have fR5 : Full (w4.setCell ⟨A, 5, none⟩ (.string vs)) R 37 EvZ := fR4.other1 (Ne.symm HD.out.2.2.1)
  have b5 : Below W.heap.size W (w4.setCell ⟨A, 5, none⟩ (.string vs)) := (below2 HY.out.2.2 hb4).setCell (p := ⟨A, 5, none⟩) HD.out.1 _
  obtain ⟨W5, hW5⟩ : ∃ W5, w4.setCell ⟨A, 5, none⟩ (.string vs) = W5 := ⟨_, rfl⟩
  have fA5' : Full W5 A 37 [.int .i64 k, .int .i64 n, .string nm, .int .i64 vk, .int .i64 vn, .string vs] := by rw [← hW5]; exact fA5
  obtain ⟨⟨⟨u0, v0⟩, ⟨u1, v1⟩, u2, v2⟩, ⟨u3, v3⟩, ⟨u4, v4⟩, u5, v5⟩ := fA4.six2
  rw [hW5] at fR5 b5
  clear e0 e1 e2 e3 e4 e5 f0 f1 f2 f3 f4 f5 g0 g1 g2 g3 g4 g5 hW3
  obtain ⟨g0, g1, g2, g3, g4, g5⟩ := fA5'.six
  obtain ⟨⟨⟨e0, f0⟩, ⟨e1, f1⟩, e2, f2⟩, ⟨e3, f3⟩, ⟨e4, f4⟩, e5, f5⟩ := fR5.six2
  have HZ : Hid (Full W5 R 37 EvZ ∧ Below W.heap.size W W5) := ⟨fR5, b5⟩
  clear HC2 hb4 fA4 fR4 fA5 fR5 b5 fA5' HY
  go_wp2_with fail
  have fZ : Full (W5.setCells R 0 [.int .i64 k, .int .i64 n, .string nm, .int .i64 vk, .int .i64 vn, .string vs]) R 37 [.int .i64 k, .int .i64 n, .string nm, .int .i64 vk, .int .i64 vn, .string vs] := Full.put (a := []) (b := EvZ) (d := []) [.int .i64 k, .int .i64 n, .string nm, .int .i64 vk, .int .i64 vn, .string vs] HZ.out.1 rfl
  obtain ⟨k0, k1, k2, k3, k4, k5⟩ := fZ.six
  have bZ : Below W.heap.size W (W5.setCells R 0 [.int .i64 k, .int .i64 n, .string nm, .int .i64 vk, .int .i64 vn, .string vs]) := below_sets HZ.out.2 HD.out.2.1 _ _
  simp only [World.setCells, Nat.zero_add, Nat.reduceAdd] at k0 k1 k2 k3 k4 k5 bZ
  exact bodyPost_ret (v := .agg #[.int .i64 k, .int .i64 n, .string nm, .int .i64 vk, .int .i64 vn, .string vs]) (by simp [results, Tryd.results61, go_sem, k0, k1, k2, k3, k4, k5]) rfl ⟨rfl, bZ⟩
end Go.Proofs.YtdmiciblfbkndaaDoor

namespace Go.Proofs.YtdmiciblfbkndaaDoor
open Go.RowKit

theorem Full.five2 {W : World} {g : Nat} {t : TypeId} {a b c d e : Value} (h : Full W g t [a, b, c, d, e]) : ((W.cell? ⟨g, 0, none⟩ = some a ∧ W.frozen? ⟨g, 0, none⟩ = false) ∧ (W.cell? ⟨g, 1, none⟩ = some b ∧ W.frozen? ⟨g, 1, none⟩ = false) ∧ W.cell? ⟨g, 2, none⟩ = some c ∧ W.frozen? ⟨g, 2, none⟩ = false) ∧ (W.cell? ⟨g, 3, none⟩ = some d ∧ W.frozen? ⟨g, 3, none⟩ = false) ∧ W.cell? ⟨g, 4, none⟩ = some e ∧ W.frozen? ⟨g, 4, none⟩ = false :=
  ⟨⟨h.cell 0 _ rfl, h.cell 1 _ rfl, h.cell 2 _ rfl⟩, h.cell 3 _ rfl, h.cell 4 _ rfl⟩
theorem ret_last {w : World} {R : Nat} {a b c d e : Value} {tm : Array Value} (h : Full w R 28 [a, b, c, d, e]) (h2 : tm[2]?.getD undef = .pointer (some ⟨R, 0, none⟩)) : (results Tryd.f62 tm).run Tryd.prog w = .ok (.agg #[a, b, c, d, e]) w := by
  obtain ⟨⟨⟨r0, g0⟩, ⟨r1', g1⟩, r2', g2⟩, ⟨r3', g3⟩, r4, g4⟩ := h.five2
  simp [results, Tryd.results62, go_sem, h2, r0, r1', r2', r3', r4]
set_option maxRecDepth 100000 in
set_option maxHeartbeats 1000000 in
theorem readLast_any (W : World) (b : ByteArray) (hz : b.size ≤ 140737488355328) :
    Calls Tryd.prog 62 #[.string b] W fun e w' => e = .returned (.agg #[.int .i64 (lastR b.data.toList []).ph, .int .i64 (lastR b.data.toList []).tr, sV (lastR b.data.toList []).out, .int .i64 (lastR b.data.toList []).inp, .slice none 0 0]) ∧ Below W.heap.size W w' := by
  obtain ⟨l, hl⟩ : ∃ l, b.data.toList = l := ⟨_, rfl⟩
  obtain ⟨r1, hr1⟩ : ∃ r1, (byteR l).2 = r1 := ⟨_, rfl⟩
  obtain ⟨c1, hc1⟩ : ∃ c, (byteR r1).1 = c := ⟨_, rfl⟩
  obtain ⟨r2, hr2⟩ : ∃ r2, (byteR r1).2 = r2 := ⟨_, rfl⟩
  obtain ⟨c2, hc2⟩ : ∃ c, (byteR r2).1 = c := ⟨_, rfl⟩
  obtain ⟨r3, hr3⟩ : ∃ r3, (byteR r2).2 = r3 := ⟨_, rfl⟩
  have hll : l.length ≤ 140737488355328 := by rw [← hl, ← Lib.size_eq]; exact hz
  have hl1 : r1.length ≤ 140737488355328 := by have := byteR_len l; rw [hr1] at this; omega
  have hl2 : r2.length ≤ 140737488355328 := by have := byteR_len r1; rw [hr2] at this; omega
  have hl3 : r3.length ≤ 140737488355328 := by have := byteR_len r2; rw [hr3] at this; omega
  have hLR : lastR l [] = ⟨(c1.toNat : Int), (c2.toNat : Int), r3.drop 6, (fxO (r3.take 2) : Int), []⟩ := by
    unfold lastR
    simp only [hr1, hc1, hr2, hc2, hr3]
  rw [hl, hLR]
  simp only
  obtain ⟨fx, hfx⟩ : ∃ fx, fxO (r3.take 2) = fx := ⟨_, rfl⟩
  obtain ⟨ob, hob⟩ : ∃ f : ByteArray, f.data.toList = r3.drop 6 := ⟨⟨(r3.drop 6).toArray⟩, rfl⟩
  have HN : Hid (fxO (r3.take 2) = fx ∧ sV (r3.drop 6) = .string ob) := ⟨hfx, sV_at hob⟩
  rw [hfx, sV_at hob]
  clear hfx hob
  obtain ⟨X, hX⟩ : ∃ X, (W.alloc (.cells #[.int .i64 0, .int .i64 0, .string ⟨#[]⟩, .int .i64 0, .slice none 0 0] 28)).alloc (.cells #[.int .i64 0, .slice none 0 0, .string b] 131) = X := ⟨_, rfl⟩
  obtain ⟨R, hR⟩ : ∃ R, W.heap.size = R := ⟨_, rfl⟩
  obtain ⟨P, hP⟩ : ∃ P, W.heap.size + 1 = P := ⟨_, rfl⟩
  have fR : Full X R 28 [.int .i64 0, .int .i64 0, .string ⟨#[]⟩, .int .i64 0, .slice none 0 0] := by
    rw [← hX, ← hR]
    exact (Full.new W #[.int .i64 0, .int .i64 0, .string ⟨#[]⟩, .int .i64 0, .slice none 0 0] 28).next ((Below.refl _ _).alloc (Nat.le_refl _) _)
  have fP : Full X P 131 [.int .i64 0, .slice none 0 0, .string b] := by
    have := Full.new (W.alloc (.cells #[.int .i64 0, .int .i64 0, .string ⟨#[]⟩, .int .i64 0, .slice none 0 0] 28)) #[.int .i64 0, .slice none 0 0, .string b] 131
    rw [World.size_alloc, hX, hP] at this
    exact this
  have bX : Below W.heap.size W X := by rw [← hX]; exact ((Below.refl _ W).alloc (Nat.le_refl _) _).alloc (by simp) _
  have hr0 : RdS W.heap.size X P ⟨0, [], l⟩ := ⟨.slice none 0 0, by omega, by rw [show sV (⟨0, [], l⟩ : Rd).r = .string b from sV_at hl]; exact fP, ⟨rfl, .inl ⟨rfl, rfl⟩⟩⟩
  have HC := rbyte hr0 hll
  simp only [hr1] at HC
  obtain ⟨c0, hc0⟩ : ∃ c, (byteR l).1 = c := ⟨_, rfl⟩
  rw [hc0] at HC
  have HX : Hid (Full X R 28 [.int .i64 0, .int .i64 0, .string ⟨#[]⟩, .int .i64 0, .slice none 0 0] ∧ Below W.heap.size W X ∧ W.heap.size ≤ R ∧ R = W.heap.size) := ⟨fR, bX, by omega, by omega⟩
  have HB : Hid ((byteR r1).1 = c1 ∧ (byteR r1).2 = r2 ∧ (byteR r2).1 = c2 ∧ (byteR r2).2 = r3) := ⟨hc1, hr2, hc2, hr3⟩
  rw [hR] at hP
  clear hLR hl hr1 hc1 hr2 hc2 hr3 hc0 fR fP bX hr0 hz
  go_enter Tryd.func62, Tryd.ntmps62
  go_wp2_with fail
  refine HC.mono ?_
  rintro e w2 ⟨rfl, hw2⟩
  have HC2 := rbyte hw2.out.1 hl1
  simp only [HB.out.1, HB.out.2.1] at HC2
  clear HC hX
  go_wp2_with fail
  refine HC2.mono ?_
  rintro e w3 ⟨rfl, hw3⟩
  have HC3 := rbyte hw3.out.1 hl2
  simp only [HB.out.2.2.1, HB.out.2.2.2] at HC3
  have hct1 := UInt8.toNat_lt c1
  have hct2 := UInt8.toNat_lt c2
  clear HC2
  go_wp2_with fail
  refine HC3.mono ?_
  rintro e w4 ⟨rfl, hw4⟩
  have HC4 : Calls Tryd.prog 84 #[.pointer (some ⟨P, 0, none⟩), .int .u64 2] w4 _ := rbytes hw4.out.1 2 (by decide) hl3
  simp only at HC4
  clear HC3
  go_wp2_with fail
  refine HC4.mono ?_
  rintro e w5 ⟨rfl, hw5⟩
  obtain ⟨f2, hf2⟩ : ∃ f : ByteArray, f.data.toList = r3.take 2 := ⟨⟨(r3.take 2).toArray⟩, rfl⟩
  have HF : Hid (sV (r3.take 2) = .string f2) := sV_at hf2
  have hfx : fxO (r3.take 2) = fx := HN.out.1
  have hfl : fx < 65536 := by
    have h1 := fxO_lt (r3.take 2)
    rw [hfx, List.length_take] at h1
    have h2 : (256 : Nat) ^ (min 2 r3.length) ≤ 256 ^ 2 := Nat.pow_le_pow_right (by decide) (by omega)
    have h3 : (256 : Nat) ^ 2 = 65536 := by decide
    omega
  have HC5 := fixedOf_any w5 f2 (by rw [Lib.size_eq, hf2, List.length_take]; omega)
  rw [hf2, hfx] at HC5
  have hfq : IntKind.i64.wrap (fx : Int) = (fx : Int) := by rw [IntKind.wrap_i64]; omega
  clear hfl hfx hct1 hct2
  rw [HF.out]
  clear HC4 hf2
  go_wp2_with fail
  refine HC5.mono ?_
  rintro e w6 ⟨rfl, hw6⟩
  have HW6 : Hid (RdQ W.heap.size w5 P ⟨0, [], r3.drop 2⟩ w6) := RdQ.of hw5.out.1 hw6
  have HC6 : Calls Tryd.prog 84 #[.pointer (some ⟨P, 0, none⟩), .int .u64 4] w6 _ := rbytes HW6.out.out.1 4 (by decide) (by rw [List.length_drop]; omega)
  simp only [List.drop_drop, Nat.reduceAdd] at HC6
  clear HC5 hw6
  go_wp2_with fail
  refine HC6.mono ?_
  rintro e w7 ⟨rfl, hw7⟩
  obtain ⟨-, -, -, -, c7, d7, -⟩ := hw7.out.1.cells
  rw [show sV (⟨0, [], r3.drop 6⟩ : Rd).r = .string ob from HN.out.2] at c7
  have HQ : Hid (RdQ W.heap.size X P ⟨0, [], r3.drop 6⟩ w7) := ((((hw2.trans hw3).trans hw4).trans hw5).trans HW6.out).trans hw7
  have HR : Hid (Full w7 R 28 [.int .i64 0, .int .i64 0, .string ⟨#[]⟩, .int .i64 0, .slice none 0 0]) := HQ.out.out.2.2 _ _ _ HX.out.1 (by decide) (by decide)
  obtain ⟨⟨⟨r0, g0⟩, ⟨r1', g1⟩, r2', g2⟩, ⟨r3', g3⟩, r4, g4⟩ := HR.out.five2
  have HF5 : Hid (∀ a b c d e, Full (w7.setCells R 0 [a, b, c, d, e]) R 28 [a, b, c, d, e]) := fun a b c d e => Full.put (a := []) (b := [.int .i64 0, .int .i64 0, .string ⟨#[]⟩, .int .i64 0, .slice none 0 0]) (d := []) [a, b, c, d, e] HR.out rfl
  have HBl : Hid (∀ us, Below W.heap.size W (w7.setCells R 0 us)) := fun us => below_sets (HX.out.2.1.trans HQ.out.out.2.1) HX.out.2.2.1 0 us
  clear hll hl1 hl2 hl3 hP hR HN HB HR HQ HX
  clear HC6 hw2 hw3 hw4 hw5 HW6 hw7
  go_wp2_with fail
  try simp only [Exit.inBlock, Exit.then]
  refine bodyPost_ret (ret_last (HF5.out _ _ _ _ _) rfl) rfl ⟨rfl, HBl.out [_, _, _, _, _]⟩
end Go.Proofs.YtdmiciblfbkndaaDoor

namespace Go.Proofs.YtdmiciblfbkndaaDoor
open Go.RowKit

theorem takeLast_call (v : Value) (u : Value) (w : World) : (callFunc 48 #[v, u]).run Tryd.prog w = .ok (.enter 48 #[v, u]) w := by kernel_rfl
/-- Blocks of other kinds than the way's are as they were. -/
def OthW (W W' : World) : Prop := (∀ g t vs, Full W g t vs → t ≠ 53 → t ≠ 37 → Full W' g t vs) ∧ KeepsOthers W W'
theorem keeps_below {W W' : World} (h : Below W.heap.size W W') : KeepsOthers W W' :=
  ⟨h.size, fun k o hk _ => by have hl := (Array.getElem?_eq_some_iff.1 hk).1; exact (h.block k hl).trans hk⟩
theorem keeps_sets : ∀ (vs : List Value) (W : World) (g o : Nat), KeepsOthers W (W.setCells g o vs)
  | [], W, _, _ => KeepsOthers.refl W
  | v :: vs, W, g, o => (KeepsOthers.setCell W ⟨g, o, none⟩ v).trans (keeps_sets vs _ g (o + 1))
theorem OthW.refl (W : World) : OthW W W := ⟨fun _ _ _ h _ _ => h, KeepsOthers.refl W⟩
theorem OthW.trans {a b c : World} (h : OthW a b) (k : OthW b c) : OthW a c := ⟨fun g t vs f h1 h2 => k.1 g t vs (h.1 g t vs f h1 h2) h1 h2, h.2.trans k.2⟩
theorem OthW.of {a b : World} (h : Below a.heap.size a b) : OthW a b := ⟨fun _ _ _ f _ _ => f.next h, keeps_below h⟩
/-- The way in memory. -/
structure Wyr (B : Nat) (W : World) (A : Nat) (w : Wy) (nv : Value) : Prop where
  low : B ≤ A
  box : Full W A 53 [.int .i64 w.rc.ph, .int .i64 w.rc.tr, sV w.rc.out, .int .i64 w.rc.inp, nv, .int .i64 (w.len : Int), .bool w.fin]
  evs : W.ownsRow B 37 6 nv w.rc.evs.length (w.rc.evs.flatMap ec)
theorem Wyr.next {B : Nat} {W W' : World} {A : Nat} {w : Wy} {nv : Value} (h : Wyr B W A w nv) (k : Below W.heap.size W W') : Wyr B W' A w nv := ⟨h.low, h.box.next k, own_next h.evs k⟩
theorem Wyr.size {B : Nat} {W : World} {A : Nat} {w : Wy} {nv : Value} (h : Wyr B W A w nv) : B ≤ W.heap.size := Nat.le_of_lt (Nat.lt_of_le_of_lt h.low h.box.lt)
/-- What is known of a way behind a call. -/
def WyQ (B : Nat) (W : World) (A : Nat) (w : Wy) (W' : World) : Prop := Hid ((∃ nv, Wyr B W' A w nv) ∧ Below B W W' ∧ OthW W W')
theorem WyQ.of {B : Nat} {W W' : World} {A : Nat} {w : Wy} {nv : Value} (h : Wyr B W A w nv) (k : Below W.heap.size W W') : WyQ B W A w W' := ⟨⟨nv, h.next k⟩, k.mono h.size, OthW.of k⟩
theorem Full.seven2 {W : World} {g : Nat} {t : TypeId} {a b c d e f x : Value} (h : Full W g t [a, b, c, d, e, f, x]) : (((W.cell? ⟨g, 0, none⟩ = some a ∧ W.frozen? ⟨g, 0, none⟩ = false) ∧ (W.cell? ⟨g, 1, none⟩ = some b ∧ W.frozen? ⟨g, 1, none⟩ = false) ∧ W.cell? ⟨g, 2, none⟩ = some c ∧ W.frozen? ⟨g, 2, none⟩ = false) ∧ (W.cell? ⟨g, 3, none⟩ = some d ∧ W.frozen? ⟨g, 3, none⟩ = false) ∧ (W.cell? ⟨g, 4, none⟩ = some e ∧ W.frozen? ⟨g, 4, none⟩ = false) ∧ W.cell? ⟨g, 5, none⟩ = some f ∧ W.frozen? ⟨g, 5, none⟩ = false) ∧ W.cell? ⟨g, 6, none⟩ = some x ∧ W.frozen? ⟨g, 6, none⟩ = false :=
  ⟨⟨⟨h.cell 0 _ rfl, h.cell 1 _ rfl, h.cell 2 _ rfl⟩, h.cell 3 _ rfl, h.cell 4 _ rfl, h.cell 5 _ rfl⟩, h.cell 6 _ rfl⟩
theorem takeL_eq (w : Wy) (body : List UInt8) : takeL w body = if (lastR body []).out.length ≤ 16777216 ∧ endOk (lastR body []).ph (lastR body []).tr (lastR body []).inp = true ∧ lastL ⟨(lastR body []).ph, (lastR body []).tr, (lastR body []).out, (lastR body []).inp, w.rc.evs⟩ = body then some ⟨⟨(lastR body []).ph, (lastR body []).tr, (lastR body []).out, (lastR body []).inp, w.rc.evs⟩, w.len, true⟩ else none := rfl
/-- The way's record and its mark are stored. -/
theorem Wyr.put {B : Nat} {W : World} {A : Nat} {w : Wy} {nv : Value} (h : Wyr B W A w nv) (rc : Rc) (he : rc.evs = w.rc.evs) (fb : Bool) : Wyr B ((W.setCells A 0 [.int .i64 rc.ph, .int .i64 rc.tr, sV rc.out, .int .i64 rc.inp, nv]).setCell ⟨A, 6, none⟩ (.bool fb)) A ⟨rc, w.len, fb⟩ nv ∧ (∀ {X : World}, Below B X W → Below B X ((W.setCells A 0 [.int .i64 rc.ph, .int .i64 rc.tr, sV rc.out, .int .i64 rc.inp, nv]).setCell ⟨A, 6, none⟩ (.bool fb))) ∧ OthW W ((W.setCells A 0 [.int .i64 rc.ph, .int .i64 rc.tr, sV rc.out, .int .i64 rc.inp, nv]).setCell ⟨A, 6, none⟩ (.bool fb)) := by
  have f1 : Full (W.setCells A 0 [.int .i64 rc.ph, .int .i64 rc.tr, sV rc.out, .int .i64 rc.inp, nv]) A 53 [.int .i64 rc.ph, .int .i64 rc.tr, sV rc.out, .int .i64 rc.inp, nv, .int .i64 (w.len : Int), .bool w.fin] := Full.put (a := []) (b := [.int .i64 w.rc.ph, .int .i64 w.rc.tr, sV w.rc.out, .int .i64 w.rc.inp, nv]) (d := [.int .i64 (w.len : Int), .bool w.fin]) [.int .i64 rc.ph, .int .i64 rc.tr, sV rc.out, .int .i64 rc.inp, nv] h.box rfl
  have e1 : (W.setCells A 0 [.int .i64 rc.ph, .int .i64 rc.tr, sV rc.out, .int .i64 rc.inp, nv]).ownsRow B 37 6 nv w.rc.evs.length (w.rc.evs.flatMap ec) := own_same h.evs fun g hg => sets_heap (fun e => (own_blk h.evs g hg).ne (⟨_, h.box, Nat.zero_le _⟩ : Blk W A 53 0) (by decide) e) _ 0 W
  refine ⟨⟨h.low, Full.put1 (a := [.int .i64 rc.ph, .int .i64 rc.tr, sV rc.out, .int .i64 rc.inp, nv, .int .i64 (w.len : Int)]) (d := []) f1 (.bool fb), ?_⟩, fun k => (below_sets k h.low 0 _).setCell (p := ⟨A, 6, none⟩) h.low _, fun g t vs f k1 k2 => ?_, (keeps_sets _ W A 0).trans (KeepsOthers.setCell _ _ _)⟩
  · rw [he]
    exact own_oth e1 f1 (by decide) 6 (.bool fb)
  · have hg : g ≠ A := f.ne h.box k1
    exact (f.other hg).other1 hg
section
variable {B : Nat} {W : World} {A : Nat} {w : Wy} {nv : Value}
set_option maxRecDepth 100000 in
set_option maxHeartbeats 4000000 in
theorem takeLast_any (h : Wyr B W A w nv) (b : ByteArray) (hb : b.size ≤ 140737488355328) (hn : w.rc.evs.length ≤ 1048576) :
    Calls Tryd.prog 48 #[.pointer (some ⟨A, 0, none⟩), .string b] W fun e w' => e = .returned (.bool (takeL w b.data.toList).isSome) ∧ WyQ B W A ((takeL w b.data.toList).getD w) w' := by
  have HC := readLast_any W b hb
  rw [takeL_eq]
  have hlen : (lastR b.data.toList []).out.length ≤ 140737488355328 := by
    have e : (lastR b.data.toList []).out = (byteR (byteR (byteR b.data.toList).2).2).2.drop 6 := rfl
    rw [e, List.length_drop]
    have h1 := byteR_len b.data.toList
    have h2 := byteR_len (byteR b.data.toList).2
    have h3 := byteR_len (byteR (byteR b.data.toList).2).2
    have h4 := Lib.size_eq b
    omega
  generalize lastR b.data.toList [] = L at HC hlen ⊢
  obtain ⟨ph, tr, out, inp, le⟩ := L
  simp only at HC hlen ⊢
  obtain ⟨ob, hob⟩ : ∃ f : ByteArray, f.data.toList = out := ⟨⟨out.toArray⟩, rfl⟩
  have hbl : Hid (out.length = ob.size) := by show _ = _; rw [Lib.size_eq, hob]
  rw [sV_at hob] at HC
  obtain ⟨q, cap, rfl, hcap, -⟩ := own_slice h.evs
  have HH : Hid (Wyr B W A w (.slice q w.rc.evs.length cap)) := h
  have HO : Hid (ob.data.toList = out) := hob
  obtain ⟨n, hnn⟩ : ∃ n, w.rc.evs.length = n := ⟨_, rfl⟩
  rw [hnn] at HH hcap hn
  have HNn : Hid (w.rc.evs.length = n) := hnn
  obtain ⟨T, hT⟩ : ∃ T, (if out.length ≤ 16777216 ∧ endOk ph tr inp = true ∧ lastL ⟨ph, tr, out, inp, w.rc.evs⟩ = b.data.toList then some (⟨⟨ph, tr, out, inp, w.rc.evs⟩, w.len, true⟩ : Wy) else none) = T := ⟨_, rfl⟩
  have HT : Hid ((if out.length ≤ 16777216 ∧ endOk ph tr inp = true ∧ lastL ⟨ph, tr, out, inp, w.rc.evs⟩ = b.data.toList then some (⟨⟨ph, tr, out, inp, w.rc.evs⟩, w.len, true⟩ : Wy) else none) = T) := hT
  rw [hT]
  clear h hob hnn hT
  go_enter Tryd.func48, Tryd.ntmps48
  go_wp2_with fail
  refine HC.mono ?_
  rintro e w2 ⟨rfl, hw2⟩
  have HH2 : Hid (Wyr B w2 A w (.slice q n cap)) := HH.out.next hw2
  obtain ⟨D, hD⟩ : ∃ D, w2.heap.size = D := ⟨_, rfl⟩
  have HDW : Hid (W.heap.size ≤ D) := by rw [← hD]; exact hw2.size
  obtain ⟨w0, hw0⟩ : ∃ w0, w2.alloc (.cells #[.int .i64 ph, .int .i64 tr, .string ob, .int .i64 inp, .slice none 0 0] 28) = w0 := ⟨_, rfl⟩
  have b0 : Below w2.heap.size w2 w0 := by rw [← hw0]; exact (Below.refl _ _).alloc (Nat.le_refl _) _
  have f0 : Full w0 D 28 [.int .i64 ph, .int .i64 tr, .string ob, .int .i64 inp, .slice none 0 0] := by rw [← hw0, ← hD]; exact Full.new w2 _ _
  obtain ⟨-, -, k0, l0⟩ := f0.five2
  obtain ⟨w3, hw3⟩ : ∃ w3, w0.setCell ⟨D, 4, none⟩ (.slice none 0 0) = w3 := ⟨_, rfl⟩
  have b3 : Below w2.heap.size w2 w3 := by rw [← hw3]; exact b0.setCell (p := ⟨D, 4, none⟩) (by show _ ≤ D; omega) _
  have f3 : Full w3 D 28 [.int .i64 ph, .int .i64 tr, .string ob, .int .i64 inp, .slice none 0 0] := by rw [← hw3]; exact Full.put1 (a := [.int .i64 ph, .int .i64 tr, .string ob, .int .i64 inp]) (d := []) f0 _
  obtain ⟨⟨-, -, ⟨c4, d4⟩, -⟩, -⟩ := (HH2.out.next b3).box.seven2
  obtain ⟨-, -, k4, l4⟩ := f3.five2
  obtain ⟨w4, hw4⟩ : ∃ w4, w3.setCell ⟨D, 4, none⟩ (.slice q n cap) = w4 := ⟨_, rfl⟩
  have f4 : Full w4 D 28 [.int .i64 ph, .int .i64 tr, .string ob, .int .i64 inp, .slice q n cap] := by rw [← hw4]; exact Full.put1 (a := [.int .i64 ph, .int .i64 tr, .string ob, .int .i64 inp]) (d := []) f3 _
  have b4 : Below w2.heap.size w2 w4 := by rw [← hw4]; exact b3.setCell (p := ⟨D, 4, none⟩) (by show _ ≤ D; omega) _
  have HH4 : Hid (Wyr B w4 A w (.slice q n cap) ∧ Full w4 D 28 [.int .i64 ph, .int .i64 tr, .string ob, .int .i64 inp, .slice q n cap] ∧ Below W.heap.size W w4) := ⟨HH2.out.next b4, f4, hw2.trans (b4.mono hw2.size)⟩
  obtain ⟨⟨⟨r0, g0⟩, ⟨r1, g1⟩, r2, g2⟩, ⟨r3, g3⟩, r4, g4⟩ := f4.five2
  clear HC HH2 b0 f0 b3 f3 b4 f4 hw2
  by_cases hz : ob.size ≤ 16777216
  · have HE := end_any w4 ph tr ob inp q n cap
    unfold recC at HE
    have hzi : (ob.size : Int) ≤ 16777216 := by omega
    go_wp2_with fail
    refine HE.mono ?_
    rintro e w5 ⟨rfl, hw5⟩
    have HH5 : Hid (Wyr B w5 A w (.slice q n cap) ∧ Full w5 D 28 [.int .i64 ph, .int .i64 tr, .string ob, .int .i64 inp, .slice q n cap] ∧ Below W.heap.size W w5) := ⟨HH4.out.1.next hw5, HH4.out.2.1.next hw5, HH4.out.2.2.trans (hw5.mono HH4.out.2.2.size)⟩
    obtain ⟨⟨⟨s0, -⟩, ⟨s1, -⟩, s2, -⟩, ⟨s3, -⟩, s4, -⟩ := HH5.out.2.1.five2
    obtain ⟨eo, heo⟩ : ∃ x, endOk ph tr inp = x := ⟨_, rfl⟩
    rw [heo]
    have HEo : Hid (endOk ph tr inp = eo) := heo
    clear HE hw5 heo r0 r1 r2 r3 r4 g0 g1 g2 g3 g4 hw4 hw3 hw0
    cases eo with
    | false =>
      have HV : Hid (T = none) := by
        have := HT.out
        rw [if_neg (fun h => by have h1 := h.2.1; rw [HEo.out] at h1; cases h1)] at this
        exact this.symm
      clear HT hlen hb
      go_wp2
      go_ret
      rw [HV.out]
      exact ⟨rfl, WyQ.of HH.out HH5.out.2.2⟩
    | true =>
      have HL := last_any w5 ph tr ob inp q n cap w.rc.evs HNn.out (by omega) HEo.out (by omega)
      unfold recC at HL
      rw [HO.out] at HL
      go_wp2_with fail
      refine HL.mono ?_
      rintro e w6 ⟨rfl, hw6⟩
      obtain ⟨ll, hll⟩ : ∃ ll, lastL ⟨ph, tr, out, inp, w.rc.evs⟩ = ll := ⟨_, rfl⟩
      have HLl : Hid (lastL ⟨ph, tr, out, inp, w.rc.evs⟩ = ll) := hll
      rw [hll]
      obtain ⟨lb, hlb⟩ : ∃ lb : ByteArray, (⟨ll.toArray⟩ : ByteArray) = lb := ⟨_, rfl⟩
      have HLb : Hid (lb.data.toList = ll) := by rw [← hlb]; rfl
      rw [hlb]
      have HH6 : Hid (Wyr B w6 A w (.slice q n cap) ∧ Full w6 D 28 [.int .i64 ph, .int .i64 tr, .string ob, .int .i64 inp, .slice q n cap] ∧ Below W.heap.size W w6) := ⟨HH5.out.1.next hw6, HH5.out.2.1.next hw6, HH5.out.2.2.trans (hw6.mono HH5.out.2.2.size)⟩
      clear hll hlb HL hw6 s0 s1 s2 s3 s4
      by_cases heq : ll = b.data.toList
      · have hne : (lb.toList == b.toList) = true := by rw [toL, toL, HLb.out, heq]; exact beq_self_eq_true _
        have HV : Hid (T = some ⟨⟨ph, tr, out, inp, w.rc.evs⟩, w.len, true⟩) := by
          have := HT.out
          rw [if_pos ⟨by rw [hbl.out]; exact hz, HEo.out, by rw [HLl.out]; exact heq⟩] at this
          exact this.symm
        have HCl := clone_any ob w6 (by omega)
        obtain ⟨⟨⟨s0, -⟩, ⟨s1, -⟩, s2, -⟩, ⟨s3, -⟩, s4, -⟩ := HH6.out.2.1.five2
        clear HT hlen hb heq
        go_wp2_with fail
        refine HCl.mono ?_
        rintro e w7 ⟨rfl, hw7⟩
        have f7 := HH6.out.2.1.next hw7
        have y7 := HH6.out.1.next hw7
        have hAD : A ≠ D := (y7.box.ne f7 (by decide))
        have b7 : Below W.heap.size W w7 := HH6.out.2.2.trans (hw7.mono HH6.out.2.2.size)
        have hDW : W.heap.size ≤ D := HDW.out
        obtain ⟨-, -, ⟨t2, u2⟩⟩ := f7.five2.1
        obtain ⟨w8, hw8⟩ : ∃ w8, w7.setCell ⟨D, 2, none⟩ (.string ob) = w8 := ⟨_, rfl⟩
        have f8 : Full w8 D 28 [.int .i64 ph, .int .i64 tr, .string ob, .int .i64 inp, .slice q n cap] := by rw [← hw8]; exact Full.put1 (a := [.int .i64 ph, .int .i64 tr]) (d := [.int .i64 inp, .slice q n cap]) f7 _
        have b8 : Below W.heap.size W w8 := by rw [← hw8]; exact b7.setCell (p := ⟨D, 2, none⟩) (by show _ ≤ D; omega) _
        have y8 : Wyr B w8 A w (.slice q n cap) := HH.out.next b8
        have HH8 : Hid (Wyr B w8 A w (.slice q n cap) ∧ Full w8 D 28 [.int .i64 ph, .int .i64 tr, .string ob, .int .i64 inp, .slice q n cap] ∧ Below W.heap.size W w8) := ⟨y8, f8, b8⟩
        obtain ⟨⟨⟨s0, -⟩, ⟨s1, -⟩, s2, -⟩, ⟨s3, -⟩, s4, -⟩ := f8.five2
        obtain ⟨⟨⟨⟨v0, x0⟩, ⟨v1, x1⟩, v2, x2⟩, ⟨v3, x3⟩, ⟨v4, x4⟩, v5, x5⟩, v6, x6⟩ := y8.box.seven2
        clear HCl f7 y7 b7 f8 b8 y8
        go_wp2_with fail
        go_ret
        rw [HV.out]
        have hp := HH8.out.1.put ⟨ph, tr, out, inp, w.rc.evs⟩ rfl true
        rw [show sV (⟨ph, tr, out, inp, w.rc.evs⟩ : Rc).out = .string ob from sV_at HO.out] at hp
        exact ⟨rfl, ⟨_, hp.1⟩, hp.2.1 (HH8.out.2.2.mono HH.out.size), (OthW.of HH8.out.2.2).trans hp.2.2⟩
      · have hne : (lb.toList == b.toList) = false := by rw [toL, toL, HLb.out]; exact beq_eq_false_iff_ne.2 heq
        have HV : Hid (T = none) := by
          have := HT.out
          rw [if_neg (fun h => heq (by rw [← HLl.out]; exact h.2.2))] at this
          exact this.symm
        clear HT hlen hb heq
        go_wp2
        go_ret
        rw [HV.out]
        exact ⟨rfl, WyQ.of HH.out HH6.out.2.2⟩
  · have hzi : (16777216 : Int) < (ob.size : Int) := by omega
    have HV : Hid (T = none) := by
      have := HT.out
      rw [if_neg (fun h => hz (by rw [← hbl.out]; exact h.1))] at this
      exact this.symm
    clear HT hlen hb
    go_wp2
    go_ret
    rw [HV.out]
    exact ⟨rfl, WyQ.of HH.out HH4.out.2.2⟩
end
end Go.Proofs.YtdmiciblfbkndaaDoor

namespace Go.Proofs.YtdmiciblfbkndaaDoor
open Go.RowKit

section
variable {B : Nat} {W : World} {A : Nat} {w : Wy} {nv : Value}
set_option maxRecDepth 100000 in
set_option maxHeartbeats 4000000 in
theorem take_any (h : Wyr B W A w nv) (b : ByteArray) (hb : b.size ≤ 140737488355328) (h0 : 0 < b.size) (hn : w.rc.evs.length ≤ 1048576)
    (HE : w.fin = false → Calls Tryd.prog 47 #[.pointer (some ⟨A, 0, none⟩), .string b] W fun e w' => e = .returned (.bool (takeE w b.data.toList).isSome) ∧ WyQ B W A ((takeE w b.data.toList).getD w) w') :
    Calls Tryd.prog 27 #[.pointer (some ⟨A, 0, none⟩), .string b] W fun e w' => e = .returned (.bool (takeS w b.data.toList).isSome) ∧ WyQ B W A ((takeS w b.data.toList).getD w) w' := by
  have HL := takeLast_any h b hb hn
  obtain ⟨TE, hTE⟩ : ∃ T, takeE w b.data.toList = T := ⟨_, rfl⟩
  obtain ⟨TL, hTL⟩ : ∃ T, takeL w b.data.toList = T := ⟨_, rfl⟩
  rw [hTE] at HE
  rw [hTL] at HL
  obtain ⟨c, hc⟩ : ∃ c, b[0]'h0 = c := ⟨_, rfl⟩
  have hby : (byteR b.data.toList).1 = c := by
    have hlen := Lib.size_eq b
    have e : b.data.toList[0]? = some c := by rw [List.getElem?_eq_getElem (by omega), ← hc]; rfl
    cases hl : b.data.toList with
    | nil => rw [hl] at e; cases e
    | cons x r => rw [hl] at e; exact Option.some.inj e
  obtain ⟨T, hT⟩ : ∃ T, takeS w b.data.toList = T := ⟨_, rfl⟩
  have HT : Hid (T = if w.fin = true then none else if c = 1 then TE else if c = 2 then TL else none) := by
    show T = _
    rw [← hT]
    unfold takeS
    rw [hby, hTE, hTL]
  rw [hT]
  obtain ⟨-, v6, x6⟩ := h.box.seven2
  have HH : Hid (Wyr B W A w nv) := h
  have qlt : (0 : Int) < (b.size : Int) := by omega
  obtain ⟨fin, hfin⟩ : ∃ f, w.fin = f := ⟨_, rfl⟩
  have HFN : Hid (w.fin = fin) := hfin
  have HEh : Hid (w.fin = false → Calls Tryd.prog 47 #[.pointer (some ⟨A, 0, none⟩), .string b] W fun e w' => e = .returned (.bool TE.isSome) ∧ WyQ B W A (TE.getD w) w') := HE
  rw [hfin] at v6 HT
  have hct := UInt8.toNat_lt c
  clear hTE hTL hby hT h hb hn hfin HE
  cases fin with
  | true =>
    have HV : Hid (T = none) := by have := HT.out; rw [if_pos rfl] at this; exact this
    clear HT HEh HL hct
    go_enter Tryd.func27, Tryd.ntmps27
    go_wp2_with fail
    go_ret
    rw [HV.out]
    exact ⟨rfl, WyQ.of HH.out (Below.refl _ _)⟩
  | false =>
    by_cases c1 : c = 1
    · have HV : Hid (T = TE) := by have := HT.out; rw [if_neg (by decide), if_pos c1] at this; exact this
      have hci : (c.toNat : Int) = 1 := by rw [c1]; rfl
      have HE := HEh.out HFN.out
      clear HT HL hct c1 HEh
      go_enter Tryd.func27, Tryd.ntmps27
      go_wp2_with (first | (refine HE.mono ?_; rintro e w2 ⟨rfl, hw2⟩) | fail)
      go_ret
      rw [HV.out]
      exact ⟨rfl, hw2⟩
    · by_cases c2 : c = 2
      · have HV : Hid (T = TL) := by have := HT.out; rw [if_neg (by decide), if_neg c1, if_pos c2] at this; exact this
        have hci : (c.toNat : Int) = 2 := by rw [c2]; rfl
        clear HT HEh hct c1 c2
        go_enter Tryd.func27, Tryd.ntmps27
        go_wp2_with (first | (refine HL.mono ?_; rintro e w2 ⟨rfl, hw2⟩) | fail)
        go_ret
        rw [HV.out]
        exact ⟨rfl, hw2⟩
      · have HV : Hid (T = none) := by have := HT.out; rw [if_neg (by decide), if_neg c1, if_neg c2] at this; exact this
        have k1 : (c.toNat : Int) ≠ 1 := fun e => c1 (UInt8.toNat_inj.1 (by have : (1 : UInt8).toNat = 1 := rfl; omega))
        have k2 : (c.toNat : Int) ≠ 2 := fun e => c2 (UInt8.toNat_inj.1 (by have : (2 : UInt8).toNat = 2 := rfl; omega))
        have d1 : decide ((c.toNat : Int) = 1) = false := decide_eq_false k1
        have d2 : decide ((c.toNat : Int) = 2) = false := decide_eq_false k2
        clear HT HEh HL hct c1 c2
        go_enter Tryd.func27, Tryd.ntmps27
        go_wp2_with fail
        go_ret
        rw [HV.out]
        exact ⟨rfl, WyQ.of HH.out (Below.refl _ _)⟩
end
end Go.Proofs.YtdmiciblfbkndaaDoor

namespace Go.Proofs.YtdmiciblfbkndaaDoor
open Go.RowKit

theorem infoE : (Tryd.prog.info? 37).map (fun i => (i.zero, i.size, i.bytes)) = some (some (.agg #[.int .i64 0, .int .i64 0, .string ⟨#[]⟩, .int .i64 0, .int .i64 0, .string ⟨#[]⟩]), 6, 64) := by kernel_rfl
/-- One event more, in the rows' world. -/
theorem Wyr.app {B : Nat} {W : World} {A : Nat} {w : Wy} {nv : Value} (h : Wyr B W A w nv) (e : Ev) (hl : w.rc.evs.length + 1 ≤ 100000000) : ∃ q cp w2,
    (Builtin.append_ #[26, 26] 26 #[nv, .slice (some ⟨W.heap.size, 0, none⟩) 1 1]).run Tryd.prog (W.alloc (.cells (ec e).toArray 37)) = .ok (.slice q (w.rc.evs.length + 1) cp) w2 ∧
    w2.cell? ⟨A, 4, none⟩ = some nv ∧ w2.frozen? ⟨A, 4, none⟩ = false ∧
    Hid (Wyr B (w2.setCell ⟨A, 4, none⟩ (.slice q (w.rc.evs.length + 1) cp)) A ⟨{ w.rc with evs := w.rc.evs ++ [e] }, w.len, w.fin⟩ (.slice q (w.rc.evs.length + 1) cp) ∧ Below B W (w2.setCell ⟨A, 4, none⟩ (.slice q (w.rc.evs.length + 1) cp)) ∧ OthW W (w2.setCell ⟨A, 4, none⟩ (.slice q (w.rc.evs.length + 1) cp)) ∧
      ∀ c n v xs, W.ownsRow c 37 6 v n xs → (∀ g, v.ownBlock = some g → nv.ownBlock ≠ some g) → (w2.setCell ⟨A, 4, none⟩ (.slice q (w.rc.evs.length + 1) cp)).ownsRow c 37 6 v n xs ∧ (∀ g, v.ownBlock = some g → (Value.slice q (w.rc.evs.length + 1) cp).ownBlock ≠ some g)) := by
  have bZ : Below W.heap.size W (W.alloc (.cells (ec e).toArray 37)) := (Below.refl _ W).alloc (Nat.le_refl _) _
  have hZ := h.next bZ
  have fZ : Full (W.alloc (.cells (ec e).toArray 37)) W.heap.size 37 (ec e) := Full.new W _ _
  obtain ⟨nv', w2, r9, o9, g9⟩ := app_two (P := Tryd.prog) 26 26 _ 64 Tryd.underlying26 infoE rfl (by decide) (by decide) nv w.rc.evs.length _ hZ.evs W.heap.size (ec e) rfl (by simp [ec, sV, Value.oneCell']) fZ.range (by omega) hZ.size
  obtain ⟨q9, k9, rfl, -, -⟩ := own_slice o9
  rw [show w.rc.evs.flatMap ec ++ ec e = (w.rc.evs ++ [e]).flatMap ec by simp] at o9
  have f : Full w2 A 53 [.int .i64 w.rc.ph, .int .i64 w.rc.tr, sV w.rc.out, .int .i64 w.rc.inp, nv, .int .i64 (w.len : Int), .bool w.fin] := by
    rcases g9 with ⟨-, g9⟩ | ⟨-, g9⟩
    · exact hZ.box.grow hZ.evs (by decide) g9
    · exact hZ.box.next g9
  have hb : ∀ {X : World}, Below B X (W.alloc (.cells (ec e).toArray 37)) → Below B X w2 := fun k => by
    rcases g9 with ⟨-, g9⟩ | ⟨-, g9⟩
    · exact k.grown g9 hZ.size (own_ge hZ.evs)
    · exact k.trans (g9.mono hZ.size)
  obtain ⟨⟨-, -, f4, -⟩, -⟩ := f.seven2
  refine ⟨q9, k9, w2, r9, f4.1, f4.2, ⟨h.low, Full.put1 (a := [.int .i64 w.rc.ph, .int .i64 w.rc.tr, sV w.rc.out, .int .i64 w.rc.inp]) (d := [.int .i64 (w.len : Int), .bool w.fin]) f _, ?_⟩, (hb (bZ.mono h.size)).setCell (p := ⟨A, 4, none⟩) h.low _, ⟨fun g t vs fg k1 k2 => ?_, ?_⟩, fun c n v xs ho hs => ?_⟩
  · have ho' : w2.ownsRow B 37 6 (.slice q9 (w.rc.evs.length + 1) k9) (w.rc.evs ++ [e]).length ((w.rc.evs ++ [e]).flatMap ec) := by simpa using o9
    exact own_oth ho' f (by decide) 4 _
  · have fg2 : Full w2 g t vs := by
      rcases g9 with ⟨-, g9⟩ | ⟨-, g9⟩
      · exact (fg.next bZ).grow hZ.evs (Ne.symm k2) g9
      · exact (fg.next bZ).next g9
    exact fg2.other1 (fg2.ne f k1)
  · have hk2 : KeepsOthers (W.alloc (.cells (ec e).toArray 37)) w2 := by
      rcases g9 with ⟨-, g9⟩ | ⟨-, g9⟩
      · refine KeepsOthers.of_grownBy g9 fun j o hj ho => ?_
        obtain ⟨cur, hcur, -⟩ := own_blk hZ.evs j hj
        rw [hcur] at ho
        rw [← Option.some.inj ho]
        rfl
      · exact keeps_below g9
    exact ((KeepsOthers.alloc W _).trans hk2).trans (KeepsOthers.setCell _ _ _)
  · have hoZ := own_next ho bZ
    have h2 : w2.ownsRow c 37 6 v n xs := by
      rcases g9 with ⟨-, g9⟩ | ⟨-, g9⟩
      · exact own_same hoZ fun g hg => g9.block g (own_blk hoZ g hg).lt (fun e => hs g hg e.symm)
      · exact own_next hoZ g9
    refine ⟨own_oth h2 f (by decide) 4 _, fun g hg e2 => ?_⟩
    rcases g9 with ⟨ge, -⟩ | ⟨ge, -⟩
    · exact hs g hg (ge ▸ e2)
    · have h3 := ge g e2
      have h4 := (own_blk hoZ g hg).lt
      omega
end Go.Proofs.YtdmiciblfbkndaaDoor

namespace Go.Proofs.YtdmiciblfbkndaaDoor
open Go.RowKit

/-- What readEvents answers. -/
def ReadsEv (W : World) (b : ByteArray) (L : List Ev) : Prop := Calls Tryd.prog 60 #[.string b] W fun e w' => ∃ q cap, e = .returned (.slice q L.length cap) ∧ w'.ownsRow W.heap.size 37 6 (.slice q L.length cap) L.length (L.flatMap ec) ∧ Below W.heap.size W w'
theorem step_run {P : Program} {w : World} {ops : Array Oper} {o : Oper} {a : Act} {K : Act → World → Prop} {Q : Exit → Act → World → Prop} {E : Prop} (hgd : o.guard = none) (t : TypeId) (s x : Operand) (ho : o.op = .call { callee := .builtin .append, args := #[s, x], argTypes := #[t, t] })
    (vs vx v' : Value) (w' : World) (hs : a.eval s = vs) (hx : a.eval x = vx) (hr : (Builtin.append_ #[t, t] o.type #[vs, vx]).run P w = .ok v' w') (h : K (a.put o.dst v') w') : if Region.wanted o (yielded ops a.tmps) = true then Oper.wp P o a w K Q else E := by
  have hw : Region.wanted o (yielded ops a.tmps) = true := by simp [Region.wanted, hgd]
  rw [if_pos hw]
  unfold Oper.wp execOp
  simp only [ho, resolve, invoke, builtin, Sem.run_bind, Sem.run_pure, Result.andThen_ok, List.map_toArray, List.map_cons, List.map_nil, hs, hx, hr]
  exact h
theorem callOwn (v : Value) (w : World) : (callFunc 61 #[v]).run Tryd.prog w = .ok (.enter 61 #[v]) w := by kernel_rfl
/-- Where the loop stands: so many events are taken. -/
def TvI (B : Nat) (W : World) (A : Nat) (w : Wy) (L : List Ev) (v : Value) (i : Nat) (wr : World) : Prop := ∃ nvi, Wyr B wr A ⟨{ w.rc with evs := w.rc.evs ++ L.take i }, w.len, w.fin⟩ nvi ∧ wr.ownsRow W.heap.size 37 6 v L.length (L.flatMap ec) ∧ Below B W wr ∧ OthW W wr ∧ ∀ g, v.ownBlock = some g → nvi.ownBlock ≠ some g
theorem TvI.next {B : Nat} {W : World} {A : Nat} {w : Wy} {L : List Ev} {v : Value} {i : Nat} {wr w' : World} (h : TvI B W A w L v i wr) (k : Below wr.heap.size wr w') : TvI B W A w L v i w' := by
  obtain ⟨nvi, h1, h2, h3, h4, h5⟩ := h
  exact ⟨nvi, h1.next k, own_next h2 k, h3.trans (k.mono h1.size), h4.trans (OthW.of k), h5⟩
section
variable {B : Nat} {W : World} {A : Nat} {w : Wy} {nv : Value}
set_option maxRecDepth 100000 in
set_option maxHeartbeats 4000000 in
theorem takeEvents_any (h : Wyr B W A w nv) (b : ByteArray) (hn : w.rc.evs.length ≤ 1048576) (hf : w.fin = false)
    (HE : ReadsEv W b (bodyR b.data.toList)) (hz : ∀ e ∈ bodyR b.data.toList, EvSz e) (hv : ∀ e ∈ bodyR b.data.toList, -9223372036854775808 ≤ e.vn ∧ e.vn ≤ 9223372036854775807) (hl : (bodyR b.data.toList).length ≤ 64) :
    Calls Tryd.prog 47 #[.pointer (some ⟨A, 0, none⟩), .string b] W fun e w' => e = .returned (.bool (takeE w b.data.toList).isSome) ∧ WyQ B W A ((takeE w b.data.toList).getD w) w' := by
  obtain ⟨T, hT⟩ : ∃ T, takeE w b.data.toList = T := ⟨_, rfl⟩
  rw [hT]
  obtain ⟨L, hL⟩ : ∃ L, bodyR b.data.toList = L := ⟨_, rfl⟩
  rw [hL] at HE hz hv hl
  have HT : Hid (T = if w.rc.evs.length % 64 ≠ 0 ∨ w.rc.evs.length = 1048576 then none else if L ≠ [] ∧ L.all evOk = true ∧ bodyL L = b.data.toList then some ⟨{ w.rc with evs := w.rc.evs ++ L }, w.len, false⟩ else none) := by
    show T = _
    rw [← hT]
    unfold takeE
    rw [hL]
  obtain ⟨q, cap, rfl, hcap, -⟩ := own_slice h.evs
  obtain ⟨⟨-, -, ⟨v4, x4⟩, -⟩, -⟩ := h.box.seven2
  have HH : Hid (Wyr B W A w (.slice q w.rc.evs.length cap)) := h
  obtain ⟨n, hnn⟩ : ∃ n, w.rc.evs.length = n := ⟨_, rfl⟩
  rw [hnn] at HH v4 HT hn
  have HNn : Hid (w.rc.evs.length = n) := hnn
  have HF : Hid (w.fin = false) := hf
  have HD : Hid ((∀ e ∈ L, EvSz e) ∧ (∀ e ∈ L, -9223372036854775808 ≤ e.vn ∧ e.vn ≤ 9223372036854775807)) := ⟨hz, hv⟩
  clear hT hL h hcap hnn hf hz hv
  have n0 : (0 : Int) ≤ (n : Int) := by omega
  have n1 : (n : Int) ≤ 1048576 := by omega
  by_cases h1 : n % 64 = 0
  · by_cases h2 : n = 1048576
    · have HV : Hid (T = none) := by have := HT.out; rw [if_pos (.inr h2)] at this; exact this
      subst h2
      clear HT HE hn hl HD
      go_enter Tryd.func47, Tryd.ntmps47
      go_wp2_with fail
      go_ret
      rw [HV.out]
      exact ⟨rfl, WyQ.of HH.out (Below.refl _ _)⟩
    · have q1 : ((n : Int) == 1048576) = false := by rw [beq_eq_false_iff_ne]; omega
      have q2 : (n : Int) % 64 = 0 := by omega
      have HT2 : Hid (T = if L ≠ [] ∧ L.all evOk = true ∧ bodyL L = b.data.toList then some ⟨{ w.rc with evs := w.rc.evs ++ L }, w.len, false⟩ else none) := by have := HT.out; rw [if_neg (by rintro (h | h) <;> omega)] at this; exact this
      have HX : Hid (n % 64 = 0 ∧ n ≤ 1048576) := ⟨h1, hn⟩
      unfold ReadsEv at HE
      clear HT hn h1 h2
      go_enter Tryd.func47, Tryd.ntmps47
      go_wp2_with fail
      refine HE.mono ?_
      rintro e w1 ⟨qp, kp, rfl, o1, b1⟩
      obtain ⟨m, hm⟩ : ∃ m, L.length = m := ⟨_, rfl⟩
      rw [hm] at o1 hl ⊢
      have HM : Hid (L.length = m) := hm
      have HO1 : Hid (w1.ownsRow W.heap.size 37 6 (.slice qp m kp) m (L.flatMap ec) ∧ Wyr B w1 A w (.slice q n cap) ∧ Below W.heap.size W w1) := ⟨o1, HH.out.next b1, b1⟩
      have hR1 : Row w1 w1.heap.size qp L.length (L.flatMap ec) := by rw [hm]; exact row_of_own o1
      have HEV := evm_any w1 qp kp L hR1 HD.out.1 (by omega)
      rw [hm] at HEV
      clear HE o1 b1 hm hR1 v4 x4 q1 q2
      have hl0 : (m : Int) ≤ 64 := by omega
      by_cases hm0 : m = 0
      · have HV : Hid (T = none) := by
          have := HT2.out
          rw [if_neg (fun h => h.1 (List.length_eq_zero_iff.1 (by rw [HM.out]; exact hm0)))] at this
          exact this
        subst hm0
        clear HT2 HEV
        go_wp2_with fail
        go_ret
        rw [HV.out]
        exact ⟨rfl, WyQ.of HH.out HO1.out.2.2⟩
      · have hm1 : ((m : Int) == 0) = false := by rw [beq_eq_false_iff_ne]; omega
        obtain ⟨ok, hok⟩ : ∃ x, L.all evOk = x := ⟨_, rfl⟩
        rw [hok] at HEV
        have HOk : Hid (L.all evOk = ok) := hok
        have HM0 : Hid (m ≠ 0) := hm0
        clear hok hm0
        go_wp2_with fail
        refine HEV.mono ?_
        rintro e w2 ⟨rfl, hb2⟩
        have HO2 : Hid (w2.ownsRow W.heap.size 37 6 (.slice qp m kp) m (L.flatMap ec) ∧ Wyr B w2 A w (.slice q n cap) ∧ Below W.heap.size W w2) := ⟨own_next HO1.out.1 hb2, HO1.out.2.1.next hb2, HO1.out.2.2.trans (hb2.mono HO1.out.2.2.size)⟩
        clear HEV hb2 HO1
        cases ok with
        | false =>
          have HV : Hid (T = none) := by
            have := HT2.out
            rw [if_neg (fun h => by have h1 := h.2.1; rw [HOk.out] at h1; cases h1)] at this
            exact this
          clear HT2
          go_wp2_with fail
          go_ret
          rw [HV.out]
          exact ⟨rfl, WyQ.of HH.out HO2.out.2.2⟩
        | true =>
          have HEV : EvsOk L := ⟨fun e he => ⟨List.all_eq_true.1 HOk.out e he, HD.out.2 e he⟩, by rw [HM.out]; exact hl⟩
          have HB := body_any w2 qp kp L (by rw [HM.out]; exact row_of_own HO2.out.1) HEV
          rw [HM.out] at HB
          obtain ⟨lb, hlb⟩ : ∃ lb : ByteArray, (⟨(bodyL L).toArray⟩ : ByteArray) = lb := ⟨_, rfl⟩
          have HLb : Hid (lb.data.toList = bodyL L) := by rw [← hlb]; rfl
          rw [hlb] at HB
          clear HEV hlb
          go_wp2_with fail
          refine HB.mono ?_
          rintro e w3 ⟨rfl, hb3⟩
          have HO3 : Hid (w3.ownsRow W.heap.size 37 6 (.slice qp m kp) m (L.flatMap ec) ∧ Wyr B w3 A w (.slice q n cap) ∧ Below W.heap.size W w3) := ⟨own_next HO2.out.1 hb3, HO2.out.2.1.next hb3, HO2.out.2.2.trans (hb3.mono HO2.out.2.2.size)⟩
          clear HB hb3 HO2
          by_cases heq : bodyL L = b.data.toList
          · have hne : (lb.toList == b.toList) = true := by rw [toL, toL, HLb.out, heq]; exact beq_self_eq_true _
            have HV : Hid (T = some ⟨{ w.rc with evs := w.rc.evs ++ L }, w.len, false⟩) := by
              have := HT2.out
              rw [if_pos ⟨fun h => HM0.out (by rw [← HM.out, h]; rfl), HOk.out, heq⟩] at this
              exact this
            clear HT2 heq
            have HI0 : Hid (TvI B W A w L (.slice qp m kp) 0 w3) := ⟨_, by rw [List.take_zero, List.append_nil]; exact HO3.out.2.1, by rw [HM.out]; exact HO3.out.1, HO3.out.2.2.mono HH.out.size, OthW.of HO3.out.2.2, fun g hg e => by
              have h1 := own_ge HO3.out.1 g hg
              have h2 := (own_blk HH.out.evs g e).lt
              omega⟩
            have HWW : Hid (B ≤ W.heap.size) := HH.out.size
            have HLn : Hid (w.rc.evs.length + m ≤ 2000000) := by show _ ≤ _; rw [HNn.out]; omega
            go_wp2_with fail
            clear HO3 HH HX hne n0 n1 hl hm1 HM0 HLb HNn
            go_loopw [43] (fun v wr => ∃ (i : Nat), v = .int .i64 (i : Int) ∧ i ≤ m ∧ Hid (TvI B W A w L (.slice qp m kp) i wr)) (fun v _ => m - (intOf v).toNat)
            case atStart => exact ⟨0, rfl, Nat.zero_le _, HI0⟩
            case round =>
              obtain ⟨i, rfl, him, HQ⟩ := hrel
              clear HI0
              by_cases hlt : i < m
              · have qi : (i : Int) < (m : Int) := by omega
                have q0 : (0 : Int) ≤ (i : Int) := by omega
                obtain ⟨e, he⟩ : ∃ e, L[i]? = some e := ⟨L[i]'(by rw [HM.out]; exact hlt), List.getElem?_eq_getElem _⟩
                have HMem : Hid (L[i]? = some e) := he
                obtain ⟨nvi, t1, t2, t3, t4, t5⟩ := HQ.out
                rw [HM.out] at t2
                obtain ⟨g, o, rfl, hgB, hrg⟩ := row_of_own t2 (by omega)
                have cc : ∀ j v, (ec e)[j]? = some v → wr.cell? ⟨g, o + (i * 6 + j), none⟩ = some v := fun j v hv => hrg (i * 6 + j) v (ec_at L i e he j v hv)
                have hsz := HD.out.1 e (List.mem_of_getElem? he)
                obtain ⟨k, en, nm, vk, vn, vs⟩ := e
                have c0 := cc 0 _ rfl
                have c1 := cc 1 _ rfl
                have c2 := cc 2 _ rfl
                have c3 := cc 3 _ rfl
                have c4 := cc 4 _ rfl
                have c5 := cc 5 _ rfl
                simp only [← Nat.add_assoc, Nat.add_zero] at c0 c1 c2 c3 c4 c5
                unfold sV at c2 c5
                obtain ⟨⟨-, -, ⟨v4, x4⟩, -⟩, -⟩ := t1.box.seven2
                obtain ⟨qn, cn, rfl, -, -⟩ := own_slice t1.evs
                obtain ⟨N, hN⟩ : ∃ N, (w.rc.evs ++ L.take i).length = N := ⟨_, rfl⟩
                have hNl : N + 1 ≤ 100000000 := by
                  have h1 := HLn.out
                  rw [List.length_append, List.length_take] at hN
                  omega
                simp only [hN] at v4
                have HQn : Hid (Wyr B wr A ⟨{ w.rc with evs := w.rc.evs ++ L.take i }, w.len, w.fin⟩ (.slice qn N cn) ∧ wr.ownsRow W.heap.size 37 6 (.slice (some ⟨g, o, none⟩) m kp) L.length (L.flatMap ec) ∧ Below B W wr ∧ OthW W wr ∧ ∀ G, (Value.slice (some ⟨g, o, none⟩) m kp).ownBlock = some G → (Value.slice qn N cn).ownBlock ≠ some G) := by
                  simp only [hN] at t1 t5
                  exact ⟨t1, by rw [HM.out]; exact t2, t3, t4, t5⟩
                have HNn : Hid ((w.rc.evs ++ L.take i).length = N) := hN
                obtain ⟨wz, hwz⟩ : ∃ wz, wr.alloc (.cells #[.int .i64 k, .int .i64 en, .string ⟨nm.toArray⟩, .int .i64 vk, .int .i64 vn, .string ⟨vs.toArray⟩] 37) = wz := ⟨_, rfl⟩
                obtain ⟨wd, hwd⟩ : ∃ wd, wz.drew = wd := ⟨_, rfl⟩
                obtain ⟨E, hE⟩ : ∃ E, wr.heap.size = E := ⟨_, rfl⟩
                have bz : Below wr.heap.size wr wz := by rw [← hwz]; exact (Below.refl _ wr).alloc (Nat.le_refl _) _
                have bd : Below wr.heap.size wr wd := by rw [← hwd]; exact bz.drew
                obtain ⟨z0, z1, z2, z3, z4, z5⟩ : _ ∧ _ ∧ _ ∧ _ ∧ _ ∧ _ := Full.six (show Full wd E 37 [.int .i64 k, .int .i64 en, .string ⟨nm.toArray⟩, .int .i64 vk, .int .i64 vn, .string ⟨vs.toArray⟩] by rw [← hwd, ← hwz, ← hE]; exact (Full.new wr _ _).next (Below.refl _ _).drew)
                obtain ⟨⟨-, -, ⟨y4, -⟩, -⟩, -⟩ := (HQn.out.1.next bd).box.seven2
                have HC := own_any wd k en vk vn ⟨nm.toArray⟩ ⟨vs.toArray⟩ (by rw [Lib.size_eq]; exact hsz.1) (by rw [Lib.size_eq]; exact hsz.2)
                have HBD : Hid (Below wr.heap.size wr wd) := bd
                clear t1 t2 t3 t4 t5 cc hrg he hN bz bd hsz
                go_upto_region 9 with fail
                clear c0 c1 c2 c3 c4 c5 v4 x4
                go_region_law (first
                  | (refine step_call (by rfl) 61 [.tmp 53] _ [.agg #[.int .i64 k, .int .i64 en, .string ⟨nm.toArray⟩, .int .i64 vk, .int .i64 vn, .string ⟨vs.toArray⟩]] (by rfl) (by rfl) (callOwn _) (fun v w' => v = .agg #[.int .i64 k, .int .i64 en, .string ⟨nm.toArray⟩, .int .i64 vk, .int .i64 vn, .string ⟨vs.toArray⟩] ∧ Below wd.heap.size wd w') (HC.mono fun _ _ q => ⟨_, q.1, rfl, q.2⟩) ?_; rintro v5 w5 ⟨rfl, hw5⟩; have hy5 := HQn.out.1.next (HBD.out.trans (hw5.mono HBD.out.size)); obtain ⟨⟨-, -, ⟨yy4, -⟩, -⟩, -⟩ := hy5.box.seven2; obtain ⟨q9, k9, w9, r9, d9, x9, HK⟩ := hy5.app ⟨k, en, nm, vk, vn, vs⟩ (by simp only; rw [HNn.out]; exact hNl); simp only [HNn.out] at r9 d9 HK yy4; simp only [ec, sV] at r9; have yy5 : (w5.alloc (.cells #[.int .i64 k, .int .i64 en, .string ⟨nm.toArray⟩, .int .i64 vk, .int .i64 vn, .string ⟨vs.toArray⟩] 37)).cell? ⟨A, 4, none⟩ = some (.slice qn N cn) := (Below.cell (p := ⟨A, 4, none⟩) ((Below.refl w5.heap.size w5).alloc (Nat.le_refl _) _) (World.block_lt_of_cell? w5 _ yy4)).trans yy4; clear hy5)
                  | (refine step_call (by rfl) 61 [.tmp 54] _ [.agg #[.int .i64 k, .int .i64 en, .string ⟨nm.toArray⟩, .int .i64 vk, .int .i64 vn, .string ⟨vs.toArray⟩]] (by rfl) (by rfl) (callOwn _) (fun v w' => v = .agg #[.int .i64 k, .int .i64 en, .string ⟨nm.toArray⟩, .int .i64 vk, .int .i64 vn, .string ⟨vs.toArray⟩] ∧ Below wd.heap.size wd w') (HC.mono fun _ _ q => ⟨_, q.1, rfl, q.2⟩) ?_; rintro v5 w5 ⟨rfl, hw5⟩; have hy5 := HQn.out.1.next (HBD.out.trans (hw5.mono HBD.out.size)); obtain ⟨⟨-, -, ⟨yy4, -⟩, -⟩, -⟩ := hy5.box.seven2; obtain ⟨q9, k9, w9, r9, d9, x9, HK⟩ := hy5.app ⟨k, en, nm, vk, vn, vs⟩ (by simp only; rw [HNn.out]; exact hNl); simp only [HNn.out] at r9 d9 HK yy4; simp only [ec, sV] at r9; have yy5 : (w5.alloc (.cells #[.int .i64 k, .int .i64 en, .string ⟨nm.toArray⟩, .int .i64 vk, .int .i64 vn, .string ⟨vs.toArray⟩] 37)).cell? ⟨A, 4, none⟩ = some (.slice qn N cn) := (Below.cell (p := ⟨A, 4, none⟩) ((Below.refl w5.heap.size w5).alloc (Nat.le_refl _) _) (World.block_lt_of_cell? w5 _ yy4)).trans yy4; clear hy5)
                  | (refine step_run (by rfl) 26 (.tmp 52) (.tmp 55) (by rfl) _ _ _ _ (by rfl) (by rfl) r9 ?_)
                  | fail)
                all_goals
                  have b5 : Below wr.heap.size wr w5 := HBD.out.trans (hw5.mono HBD.out.size)
                  have hrows := HK.out.2.2.2 _ _ _ _ (own_next HQn.out.2.1 b5) HQn.out.2.2.2.2
                  have HTn : Hid (TvI B W A w L (.slice (some ⟨g, o, none⟩) m kp) (i + 1) (w9.setCell ⟨A, 4, none⟩ (.slice q9 (N + 1) k9))) :=
                    ⟨_, by rw [List.take_add_one, HMem.out, ← List.append_assoc]; exact HK.out.1, hrows.1, (HQn.out.2.2.1.trans (b5.mono HQn.out.1.size)).trans HK.out.2.1, (HQn.out.2.2.2.1.trans (OthW.of b5)).trans HK.out.2.2.1, hrows.2⟩
                  clear b5 hrows HK HQn HQ HC HBD hw5 r9 d9 x9 yy4 yy5 y4 z0 z1 z2 z3 z4 z5 hwz hwd
                  go_wp2
                  exact ⟨⟨i + 1, by go_num, by omega, HTn⟩, by simp [intOf]; omega⟩
              · obtain rfl : i = m := by omega
                have qi : ¬ (i : Int) < (i : Int) := by omega
                have HQ2 : Hid (WyQ B W A ⟨{ w.rc with evs := w.rc.evs ++ L }, w.len, false⟩ wr) := by
                  obtain ⟨nvi, t1, -, t3, t4, -⟩ := HQ.out
                  rw [← HM.out, List.take_length, HF.out] at t1
                  exact ⟨⟨nvi, t1⟩, t3, t4⟩
                clear HQ hlt him
                go_wp2_with fail
                go_ret
                rw [HV.out]
                exact ⟨rfl, HQ2.out⟩
          · have hne : (lb.toList == b.toList) = false := by rw [toL, toL, HLb.out]; exact beq_eq_false_iff_ne.2 heq
            have HV : Hid (T = none) := by
              have := HT2.out
              rw [if_neg (fun h => heq h.2.2)] at this
              exact this
            clear HT2 heq
            go_wp2_with fail
            go_ret
            rw [HV.out]
            exact ⟨rfl, WyQ.of HH.out HO3.out.2.2⟩
  · have HV : Hid (T = none) := by have := HT.out; rw [if_pos (.inl h1)] at this; exact this
    have q2 : ¬ (n : Int) % 64 = 0 := by omega
    clear HT HE hn hl HD h1
    go_enter Tryd.func47, Tryd.ntmps47
    go_wp2_with fail
    go_ret
    rw [HV.out]
    exact ⟨rfl, WyQ.of HH.out (Below.refl _ _)⟩
end
end Go.Proofs.YtdmiciblfbkndaaDoor
