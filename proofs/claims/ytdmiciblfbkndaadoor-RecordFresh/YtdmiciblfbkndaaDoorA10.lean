import Derived.Laws.EntriesVeiled
import Derived.Test.YtdmiciblfbkndaaDoorA09
namespace Go.Proofs.YtdmiciblfbkndaaDoor
open Go.RowKit
def rowV : Nat → Value
  | 0 => .agg #[.func (.func 67) #[] #[], .func (.func 68) #[] #[], .func (.func 69) #[] #[]]
  | 1 => .agg #[.func (.func 70) #[] #[], .func (.func 71) #[] #[], .func (.func 73) #[] #[]]
  | 2 => .agg #[.func (.func 75) #[] #[], .func (.func 76) #[] #[], .func (.func 77) #[] #[]]
  | 3 => .agg #[.func (.func 79) #[] #[], .func (.func 80) #[] #[], .func (.func 83) #[] #[]]
  | 4 => .agg #[.func (.func 86) #[] #[], .func (.func 87) #[] #[], .func (.func 88) #[] #[]]
  | _ => .agg #[.nilFunc, .nilFunc, .nilFunc]
set_option maxRecDepth 100000 in
set_option maxHeartbeats 4000000 in
theorem rowOf_any (W : World) (n : Int) :
    Calls Tryd.prog 51 #[.int .i64 n] W fun e w' => e = .returned (.tuple #[rowV (if 0 ≤ n ∧ n < 5 then n.toNat else 5), .bool (decide (0 ≤ n ∧ n < 5))]) ∧ Below W.heap.size W w' := by
  have hq : n < 0 ∨ 5 ≤ n ∨ n = 0 ∨ n = 1 ∨ n = 2 ∨ n = 3 ∨ n = 4 := by omega
  rcases hq with hq | hq | rfl | rfl | rfl | rfl | rfl
  · go_enter Tryd.func51, Tryd.ntmps51
    go_wp2_with fail
    exact bodyPost_ret (v := .tuple #[rowV 5, .bool false]) (by simp [results, Tryd.results51, go_sem, rowV]) rfl ⟨rfl, ((Below.refl _ W).alloc (Nat.le_refl _) _).alloc (by simp) _⟩
  · go_enter Tryd.func51, Tryd.ntmps51
    go_wp2_with fail
    exact bodyPost_ret (v := .tuple #[rowV 5, .bool false]) (by simp [results, Tryd.results51, go_sem, rowV]) rfl ⟨rfl, ((Below.refl _ W).alloc (Nat.le_refl _) _).alloc (by simp) _⟩
  · go_enter Tryd.func51, Tryd.ntmps51
    go_wp2_with fail
    exact bodyPost_ret (v := .tuple #[rowV 0, .bool true]) (by simp [results, Tryd.results51, go_sem, rowV]) rfl ⟨rfl, ((Below.refl _ W).alloc (Nat.le_refl _) _).alloc (by simp) _⟩
  · go_enter Tryd.func51, Tryd.ntmps51
    go_wp2_with fail
    exact bodyPost_ret (v := .tuple #[rowV 1, .bool true]) (by simp [results, Tryd.results51, go_sem, rowV]) rfl ⟨rfl, ((Below.refl _ W).alloc (Nat.le_refl _) _).alloc (by simp) _⟩
  · go_enter Tryd.func51, Tryd.ntmps51
    go_wp2_with fail
    exact bodyPost_ret (v := .tuple #[rowV 2, .bool true]) (by simp [results, Tryd.results51, go_sem, rowV]) rfl ⟨rfl, ((Below.refl _ W).alloc (Nat.le_refl _) _).alloc (by simp) _⟩
  · go_enter Tryd.func51, Tryd.ntmps51
    go_wp2_with fail
    exact bodyPost_ret (v := .tuple #[rowV 3, .bool true]) (by simp [results, Tryd.results51, go_sem, rowV]) rfl ⟨rfl, ((Below.refl _ W).alloc (Nat.le_refl _) _).alloc (by simp) _⟩
  · go_enter Tryd.func51, Tryd.ntmps51
    go_wp2_with fail
    exact bodyPost_ret (v := .tuple #[rowV 4, .bool true]) (by simp [results, Tryd.results51, go_sem, rowV]) rfl ⟨rfl, ((Below.refl _ W).alloc (Nat.le_refl _) _).alloc (by simp) _⟩
end Go.Proofs.YtdmiciblfbkndaaDoor

namespace Go.Proofs.YtdmiciblfbkndaaDoor
open Go.RowKit

section
variable {B : Nat} {W : World} {P : Nat} {nd : Int} {ns : List (List UInt8)} {l : List UInt8}
set_option maxRecDepth 100000 in
theorem lay_none (h : WrS B W P nd ns l) (vk vn : Int) (vs : ByteArray) :
    Calls Tryd.prog 68 #[.pointer (some ⟨P, 0, none⟩), .agg #[.int .i64 vk, .int .i64 vn, .string vs]] W fun e w' => e = .returned (.tuple #[]) ∧ WrQ B W P nd ns l w' := by
  have HK : WrQ B W P nd ns l (W.alloc (.cells #[.int .i64 vk, .int .i64 vn, .string vs] 35)) := WrQ.of h ((Below.refl _ W).alloc (Nat.le_refl _) _)
  have HK0 : WrQ B W P nd ns l W := WrQ.of h (Below.refl _ _)
  clear h
  go_enter Tryd.func68, Tryd.ntmps68
  go_wp2
  go_end0
  exact ⟨rfl, by first | exact HK | exact HK0⟩
set_option maxRecDepth 100000 in
theorem lay_int (h : WrS B W P nd ns l) (vk vn : Int) (vs : ByteArray) (hn : -9223372036854775808 ≤ vn ∧ vn ≤ 9223372036854775807) (hl : l.length + 20 ≤ 100000000) :
    Calls Tryd.prog 71 #[.pointer (some ⟨P, 0, none⟩), .agg #[.int .i64 vk, .int .i64 vn, .string vs]] W fun e w' => e = .returned (.tuple #[]) ∧ WrQ B W P nd ns (l ++ sgnS vn) w' := by
  have nb : Below W.heap.size W (W.alloc (.cells #[.int .i64 vk, .int .i64 vn, .string vs] 35)) := (Below.refl _ W).alloc (Nat.le_refl _) _
  have HC := wsigned (h.next nb) vn hn hl
  have HB : WrQ B W P nd ns l (W.alloc (.cells #[.int .i64 vk, .int .i64 vn, .string vs] 35)) := WrQ.of h nb
  clear h nb
  go_enter Tryd.func71, Tryd.ntmps71
  go_wp2_with fail
  refine HC.mono ?_
  rintro e w2 ⟨rfl, hw2⟩
  clear HC
  have HK : WrQ B W P nd ns (l ++ sgnS vn) w2 := HB.trans hw2
  go_wp2
  go_end0
  exact ⟨rfl, HK⟩
set_option maxRecDepth 100000 in
theorem lay_bool (h : WrS B W P nd ns l) (vk vn : Int) (vs : ByteArray) (hn : vn = 0 ∨ vn = 1) (hl : l.length + 20 ≤ 100000000) :
    Calls Tryd.prog 76 #[.pointer (some ⟨P, 0, none⟩), .agg #[.int .i64 vk, .int .i64 vn, .string vs]] W fun e w' => e = .returned (.tuple #[]) ∧ WrQ B W P nd ns (l ++ [UInt8.ofNat vn.toNat]) w' := by
  have nb : Below W.heap.size W (W.alloc (.cells #[.int .i64 vk, .int .i64 vn, .string vs] 35)) := (Below.refl _ W).alloc (Nat.le_refl _) _
  have HC := wbyte (h.next nb) (UInt8.ofNat vn.toNat) vn (by rcases hn with rfl | rfl <;> rfl) (by omega)
  have HB : WrQ B W P nd ns l (W.alloc (.cells #[.int .i64 vk, .int .i64 vn, .string vs] 35)) := WrQ.of h nb
  have q0 : 0 ≤ vn := by omega
  have q1 : vn < 256 := by omega
  clear h nb hn
  go_enter Tryd.func76, Tryd.ntmps76
  go_wp2_with fail
  refine HC.mono ?_
  rintro e w2 ⟨rfl, hw2⟩
  clear HC
  have HK : WrQ B W P nd ns (l ++ [UInt8.ofNat vn.toNat]) w2 := HB.trans hw2
  go_wp2
  go_end0
  exact ⟨rfl, HK⟩
set_option maxRecDepth 100000 in
theorem lay_ref (h : WrS B W P nd ns l) (vk vn : Int) (vs : ByteArray) (hn : 0 ≤ vn ∧ vn ≤ 9223372036854775807) (hl : l.length + 20 ≤ 100000000) :
    Calls Tryd.prog 87 #[.pointer (some ⟨P, 0, none⟩), .agg #[.int .i64 vk, .int .i64 vn, .string vs]] W fun e w' => e = .returned (.tuple #[]) ∧ WrQ B W P nd ns (l ++ numS vn.toNat) w' := by
  have nb : Below W.heap.size W (W.alloc (.cells #[.int .i64 vk, .int .i64 vn, .string vs] 35)) := (Below.refl _ W).alloc (Nat.le_refl _) _
  have HC := wnumber (h.next nb) vn.toNat (by omega) hl
  have HB : WrQ B W P nd ns l (W.alloc (.cells #[.int .i64 vk, .int .i64 vn, .string vs] 35)) := WrQ.of h nb
  obtain ⟨q0, q1⟩ := hn
  rw [Int.toNat_of_nonneg q0] at HC
  clear h nb
  go_enter Tryd.func87, Tryd.ntmps87
  go_wp2_with fail
  refine HC.mono ?_
  rintro e w2 ⟨rfl, hw2⟩
  clear HC
  have HK : WrQ B W P nd ns (l ++ numS vn.toNat) w2 := HB.trans hw2
  go_wp2
  go_end0
  exact ⟨rfl, HK⟩
set_option maxRecDepth 100000 in
theorem lay_text (h : WrS B W P nd ns l) (vk vn : Int) (vs : ByteArray) (hn : vs.size ≤ 256) (hl : l.length + 1000 ≤ 100000000) :
    Calls Tryd.prog 80 #[.pointer (some ⟨P, 0, none⟩), .agg #[.int .i64 vk, .int .i64 vn, .string vs]] W fun e w' => e = .returned (.tuple #[]) ∧ WrQ B W P nd ns (l ++ (numS vs.data.toList.length ++ vs.data.toList)) w' := by
  have nb : Below W.heap.size W (W.alloc (.cells #[.int .i64 vk, .int .i64 vn, .string vs] 35)) := (Below.refl _ W).alloc (Nat.le_refl _) _
  have HC := wnumber (h.next nb) vs.size (by omega) (by omega)
  have HB : WrQ B W P nd ns l (W.alloc (.cells #[.int .i64 vk, .int .i64 vn, .string vs] 35)) := WrQ.of h nb
  have hsz : (vs.size : Int) < 18446744073709551616 := by omega
  have HSz : Hid (vs.size = vs.data.toList.length) := Lib.size_eq vs
  have HL : Hid (l.length + 1000 ≤ 100000000) := hl
  have f1 : Full (W.alloc (.cells #[.int .i64 vk, .int .i64 vn, .string vs] 35)) W.heap.size 35 [.int .i64 vk, .int .i64 vn, .string vs] := Full.new W _ _
  have HPz : Hid (Full (W.alloc (.cells #[.int .i64 vk, .int .i64 vn, .string vs] 35)) W.heap.size 35 [.int .i64 vk, .int .i64 vn, .string vs] ∧ B ≤ W.heap.size) := ⟨f1, h.size⟩
  have HN : Hid (vs.size ≤ 256) := hn
  clear h nb hn hl f1
  go_enter Tryd.func80, Tryd.ntmps80
  go_wp2_with fail
  refine HC.mono ?_
  rintro e w2 ⟨rfl, hw2⟩
  clear HC
  have f2 : Full w2 W.heap.size 35 [.int .i64 vk, .int .i64 vn, .string vs] := hw2.out.2.2 _ _ _ HPz.out.1 (by decide) (by decide) (by decide)
  obtain ⟨-, -, c2, -⟩ := f2.three
  have HC := wbytes hw2.out.1 vs (by have := numS_le10 vs.size (by have := HN.out; omega); have := HN.out; have := HL.out; rw [List.length_append]; omega)
  have HB2 := HB.trans hw2
  clear f2 hw2 HB HPz hsz
  go_wp2_with fail
  refine HC.mono ?_
  rintro e w3 ⟨rfl, hw3⟩
  clear HC
  have HK : WrQ B W P nd ns (l ++ (numS vs.data.toList.length ++ vs.data.toList)) w3 := by
    rw [← List.append_assoc, ← HSz.out]
    exact HB2.trans hw3
  go_wp2
  go_end0
  exact ⟨rfl, HK⟩
end
end Go.Proofs.YtdmiciblfbkndaaDoor

namespace Go.Proofs.YtdmiciblfbkndaaDoor
open Go.RowKit

/-- The run of an append of a name. -/
theorem Wr.nam {B : Nat} {W : World} {P : Nat} {nd : Int} {ns : List (List UInt8)} {l : List UInt8} {nv lv : Value} (h : Wr B W P nd ns l nv lv) (x : ByteArray) (hl : ns.length + 1 ≤ 100000000) : ∃ q cp w2,
    (Builtin.append_ #[95, 95] 95 #[nv, .slice (some ⟨W.heap.size, 0, none⟩) 1 1]).run Tryd.prog (W.alloc (.cells #[.string x] 9)) = .ok (.slice q (ns.length + 1) cp) w2 ∧
    w2.cell? ⟨P, 1, none⟩ = some nv ∧ w2.frozen? ⟨P, 1, none⟩ = false ∧ Hid (∃ Y, w2.setCell ⟨P, 1, none⟩ (.slice q (ns.length + 1) cp) = Y ∧ Wr B Y P nd (ns ++ [x.data.toList]) l (.slice q (ns.length + 1) cp) lv ∧ Below B W Y ∧ Oth W Y) := by
  have bZ : Below W.heap.size W (W.alloc (.cells #[.string x] 9)) := (Below.refl _ W).alloc (Nat.le_refl _) _
  have hZ := h.next bZ
  have fZ : Full (W.alloc (.cells #[.string x] 9)) W.heap.size 9 [.string x] := Full.new W _ _
  obtain ⟨nv', w2, r9, o9, g9⟩ := app_any (P := Tryd.prog) 95 95 _ 16 Tryd.underlying95 infoS rfl (by decide) (by decide) nv ns.length _ hZ.names W.heap.size [.string x] rfl (by simp [Value.oneCell']) fZ.range (by omega) hZ.size
  obtain ⟨q9, k9, rfl, -, -⟩ := own_slice o9
  rw [show [Value.string x] = [sV x.data.toList] by rw [sV_at rfl]] at o9
  obtain ⟨k1, k2, k3⟩ := hZ.name o9 g9
  have f9 := (hZ.box.grow hZ.names (by decide) g9).three
  exact ⟨q9, k9, w2, r9, f9.2.1.1, f9.2.1.2, _, rfl, k1, (bZ.mono h.size).trans k2, (Oth.of bZ).trans k3⟩
theorem Wr.names_slice {B : Nat} {W : World} {P : Nat} {nd : Int} {ns : List (List UInt8)} {l : List UInt8} {nv lv : Value} (h : Wr B W P nd ns l nv lv) : ∃ q cap, nv = .slice q ns.length cap ∧ Row W W.heap.size q ns.length (ns.map sV) := by
  obtain ⟨q, cap, rfl, -, -⟩ := own_slice h.names
  exact ⟨q, cap, rfl, row_of_own h.names⟩
section
variable {B : Nat} {W : World} {P : Nat} {nd : Int} {ns : List (List UInt8)} {l : List UInt8}
set_option maxRecDepth 100000 in
theorem wname (h : WrS B W P nd ns l) (x : ByteArray) (hx : x.size ≤ 24) (hl : l.length + 100 ≤ 100000000) (hns : ns.length ≤ 900) :
    Calls Tryd.prog 90 #[.pointer (some ⟨P, 0, none⟩), .string x] W fun e w' => e = .returned (.tuple #[]) ∧ WrQ B W P nd (nmN ns x.data.toList) (l ++ nmS ns x.data.toList) w' := by
  by_cases h0 : x.data.toList = []
  · obtain rfl : x = ⟨#[]⟩ := ByteArray.ext (Array.ext' h0)
    have HC := wnumber h 0 (by omega) (by omega)
    have HS : Hid (nmN ns [] = ns ∧ nmS ns [] = numS 0) := ⟨by unfold nmN; rw [if_pos rfl], by unfold nmS; rw [if_pos rfl]⟩
    clear h hl hns hx h0
    go_enter Tryd.func90, Tryd.ntmps90
    go_wp2_with fail
    refine HC.mono ?_
    rintro e w2 ⟨rfl, hw2⟩
    clear HC
    have HK : WrQ B W P nd (nmN ns (⟨#[]⟩ : ByteArray).data.toList) (l ++ nmS ns (⟨#[]⟩ : ByteArray).data.toList) w2 := by
      rw [show (⟨#[]⟩ : ByteArray).data.toList = [] from rfl, HS.out.1, HS.out.2]
      exact hw2
    go_wp2
    exact bodyPost_ret (v := .tuple #[]) (by simp [results, Tryd.results90, go_sem]) rfl ⟨rfl, HK⟩
  have qx : (x.toList == ([] : List UInt8)) = false := by rw [toL, beq_eq_false_iff_ne]; exact h0
  have qe : (x.toList == (⟨#[]⟩ : ByteArray).toList) = false := by rw [toL, toL, beq_eq_false_iff_ne]; exact h0
  obtain ⟨nv, lv, h⟩ := h
  obtain ⟨q, cap, rfl, hrow⟩ := h.names_slice
  obtain ⟨⟨-, -⟩, ⟨c1, f1⟩, -, -⟩ := h.box.three
  have HI := index_any W q cap ns x hrow (by omega)
  by_cases hm : x.data.toList ∈ ns
  · have hi : ns.idxOf x.data.toList < ns.length := List.idxOf_lt_length_iff.2 hm
    have hv : ixV ns x.data.toList = (ns.idxOf x.data.toList : Int) := by unfold ixV; rw [if_pos hm]
    have HS : Hid (nmN ns x.data.toList = ns ∧ nmS ns x.data.toList = numS (ns.idxOf x.data.toList + 1)) := ⟨by unfold nmN; rw [if_neg h0, if_pos hm], by unfold nmS; rw [if_neg h0, if_pos hm]⟩
    have HC := wnumber ⟨_, _, h⟩ (ns.idxOf x.data.toList + 1) (by omega) (by omega)
    rw [hv] at HI
    generalize ns.idxOf x.data.toList = k at hi HI HS HC
    have q0 : (0 : Int) ≤ (k : Int) := by omega
    have q1 : (k : Int) + 1 < 18446744073709551616 := by omega
    rw [show ((k + 1 : Nat) : Int) = (k : Int) + 1 by omega] at HC
    clear h hrow hm hv hi hns hx h0 hl
    go_enter Tryd.func90, Tryd.ntmps90
    go_wp2_with fail
    refine HI.mono ?_
    rintro e w2 ⟨rfl, rfl⟩
    clear HI
    go_wp2_with fail
    refine HC.mono ?_
    rintro e w3 ⟨rfl, hw3⟩
    clear HC
    have HK : WrQ B w2 P nd (nmN ns x.data.toList) (l ++ nmS ns x.data.toList) w3 := by
      rw [HS.out.1, HS.out.2]
      exact hw3
    go_wp2
    exact bodyPost_ret (v := .tuple #[]) (by simp [results, Tryd.results90, go_sem]) rfl ⟨rfl, HK⟩
  · have hv : ixV ns x.data.toList = -1 := by unfold ixV; rw [if_neg hm]
    have HS : Hid (nmN ns x.data.toList = ns ++ [x.data.toList] ∧ nmS ns x.data.toList = numS (ns.length + 1) ++ (UInt8.ofNat x.data.toList.length :: x.data.toList)) := ⟨by unfold nmN; rw [if_neg h0, if_neg hm], by unfold nmS; rw [if_neg h0, if_neg hm]⟩
    rw [hv] at HI
    obtain ⟨q2, cp2, w2, hr, d1, d2, HY⟩ := h.nam x (by omega)
    obtain ⟨Y, hY, hWY, hBY, hOY⟩ := HY.out
    obtain ⟨⟨-, -⟩, ⟨c2, -⟩, -, -⟩ := hWY.box.three
    have hn1 : ns.length + 1 ≤ 901 := by omega
    have hb10 := numS_le10 (ns.length + 1) (by omega)
    have HC := wnumber ⟨_, _, hWY⟩ (ns.length + 1) (by omega) (by omega)
    have HQ0 : WrQ B W P nd (ns ++ [x.data.toList]) l Y := ⟨⟨_, _, hWY⟩, hBY, hOY⟩
    have HL : Hid (l.length + 100 ≤ 100000000 ∧ (numS (ns.length + 1)).length ≤ 10) := ⟨hl, hb10⟩
    have HX : Hid (x.size = x.data.toList.length) := Lib.size_eq x
    have q1 : (ns.length : Int) + 1 < 18446744073709551616 := by omega
    clear h hrow hm hv hns h0 hl hWY hBY hOY HY hb10
    go_enter Tryd.func90, Tryd.ntmps90
    go_wp2_with fail
    refine HI.mono ?_
    rintro e w9 ⟨rfl, rfl⟩
    clear HI
    go_wp2_with (at_builtin; refine wpList_run rfl _ _ _ _ _ _ _ hr (by rfl) (by rfl) (by rfl) (by rfl) ?_)
    rw [show ((ns.length + 1 : Nat) : Int) = (ns.length : Int) + 1 by omega] at HC
    refine HC.mono ?_
    rintro e w3 ⟨rfl, hw3⟩
    have HQ1 := HQ0.trans hw3
    have HC2 := wbyte HQ1.out.1 (UInt8.ofNat x.size) (x.size : Int) (by rw [UInt8.toNat_ofNat']; omega) (by have := HL.out; rw [List.length_append]; omega)
    have qs : (x.size : Int) < 256 := by omega
    clear HC hw3 hr d1 d2 c1 f1 c2 hY HQ0
    go_wp2_with fail
    refine HC2.mono ?_
    rintro e w4 ⟨rfl, hw4⟩
    have HQ2 := HQ1.trans hw4
    have HC3 := wbytes HQ2.out.1 x (by have := HL.out; rw [List.length_append, List.length_append, List.length_singleton]; omega)
    clear HC2 hw4 HQ1
    go_wp2_with fail
    refine HC3.mono ?_
    rintro e w5 ⟨rfl, hw5⟩
    have HK : WrQ B w9 P nd (nmN ns x.data.toList) (l ++ nmS ns x.data.toList) w5 := by
      have h5 := HQ2.trans hw5
      rw [HS.out.1, HS.out.2, ← HX.out]
      simpa using h5
    clear HC3 hw5 HQ2
    go_wp2
    go_end0
    exact ⟨rfl, HK⟩
end
end Go.Proofs.YtdmiciblfbkndaaDoor
