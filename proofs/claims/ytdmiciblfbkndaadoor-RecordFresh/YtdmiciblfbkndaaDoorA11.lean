import Derived.Deep.CutBlock
import Derived.Deep.DeepCutAuto
import Derived.Test.YtdmiciblfbkndaaDoorA10
namespace Go.Proofs.YtdmiciblfbkndaaDoor
open Go.RowKit

theorem or_kinds (k vk : Int) (hk : 0 ≤ k ∧ k ≤ 8) (hv : 0 ≤ vk ∧ vk ≤ 4) : bits .or .u8 k (vk * 16) = ((UInt8.ofNat (k.toNat + 16 * vk.toNat)).toNat : Int) := by
  have h : ∀ (a : Fin 9) (b : Fin 5), bits .or .u8 (((a : Nat) : Int)) (((b : Nat) : Int) * 16) = ((UInt8.ofNat ((a : Nat) + 16 * (b : Nat))).toNat : Int) := by decide +kernel
  have h2 := h ⟨k.toNat, by omega⟩ ⟨vk.toNat, by omega⟩
  simp only [Int.toNat_of_nonneg hk.1, Int.toNat_of_nonneg hv.1] at h2
  exact h2
theorem Full.six {W : World} {g : Nat} {t : TypeId} {a b c d e f : Value} (h : Full W g t [a, b, c, d, e, f]) : W.cell? ⟨g, 0, none⟩ = some a ∧ W.cell? ⟨g, 1, none⟩ = some b ∧ W.cell? ⟨g, 2, none⟩ = some c ∧ W.cell? ⟨g, 3, none⟩ = some d ∧ W.cell? ⟨g, 4, none⟩ = some e ∧ W.cell? ⟨g, 5, none⟩ = some f :=
  ⟨(h.cell 0 _ rfl).1, (h.cell 1 _ rfl).1, (h.cell 2 _ rfl).1, (h.cell 3 _ rfl).1, (h.cell 4 _ rfl).1, (h.cell 5 _ rfl).1⟩
theorem rowOf_at (W : World) (n : Int) (k : Nat) (hn : n = (k : Int)) (hk : k < 5) : Calls Tryd.prog 51 #[.int .i64 n] W fun e w' => e = .returned (.tuple #[rowV k, .bool true]) ∧ Below W.heap.size W w' := by
  have h := rowOf_any W n
  rw [if_pos (by omega), decide_eq_true (by omega), hn, Int.toNat_natCast] at h
  rw [hn]
  exact h
theorem callSg (a b : Value) (w : World) : (callFunc 72 #[a, b]).run Tryd.prog w = .ok (.enter 72 #[a, b]) w := by kernel_rfl
/-- Where event stands: the writer, the event, the row. -/
structure EvI (B : Nat) (W : World) (P A R : Nat) (ev row : List Value) (nd : Int) (ns : List (List UInt8)) (l : List UInt8) (w' : World) : Prop where
  q : WrQ B W P nd ns l w'
  e : Full w' A 37 ev
  r : Full w' R 102 row
theorem EvI.step {B : Nat} {W : World} {P A R : Nat} {ev row : List Value} {nd nd' : Int} {ns ns' : List (List UInt8)} {l l' : List UInt8} {a b : World} (h : EvI B W P A R ev row nd ns l a) (k : WrQ B a P nd' ns' l' b) : EvI B W P A R ev row nd' ns' l' b :=
  ⟨h.q.trans k, k.out.2.2 _ _ _ h.e (by decide) (by decide) (by decide), k.out.2.2 _ _ _ h.r (by decide) (by decide) (by decide)⟩
theorem WrQ.node {B : Nat} {W : World} {P : Nat} {nd : Int} {ns : List (List UInt8)} {l : List UInt8} (h : WrS B W P nd ns l) (nd' : Int) : WrQ B W P nd' ns l (W.setCell ⟨P, 0, none⟩ (.int .i64 nd')) := by
  obtain ⟨nv, lv, h⟩ := h
  obtain ⟨h1, h2, h3⟩ := h.node nd'
  exact ⟨⟨nv, lv, h1⟩, h2, h3⟩
theorem WrS.nd {B : Nat} {W : World} {P : Nat} {nd : Int} {ns : List (List UInt8)} {l : List UInt8} (h : WrS B W P nd ns l) : W.cell? ⟨P, 0, none⟩ = some (.int .i64 nd) ∧ W.frozen? ⟨P, 0, none⟩ = false := by
  obtain ⟨nv, lv, h⟩ := h
  exact h.box.three.1
section
variable {B : Nat} {W : World} {P : Nat} {nd : Int} {ns : List (List UInt8)} {l : List UInt8}
set_option maxRecDepth 100000 in
set_option maxHeartbeats 2000000 in
theorem wevent_0 (h : WrS B W P nd ns l) (k n vn : Int) (nm vs : ByteArray) (hok : evOk ⟨k, n, nm.data.toList, 0, vn, vs.data.toList⟩ = true) (hvn : -9223372036854775808 ≤ vn ∧ vn ≤ 9223372036854775807) (hnd : 0 ≤ nd ∧ nd < 40000) (hns : ns.length ≤ 900) (hl : l.length + 2000 ≤ 100000000) :
    Calls Tryd.prog 57 #[.pointer (some ⟨P, 0, none⟩), .agg #[.int .i64 k, .int .i64 n, .string nm, .int .i64 0, .int .i64 vn, .string vs]] W fun e w' => e = .returned (.tuple #[]) ∧ WrQ B W P n (nmN ns nm.data.toList) (l ++ evL nd ns ⟨k, n, nm.data.toList, 0, vn, vs.data.toList⟩) w' := by
  obtain ⟨hv, hk1, hk8, hn0, hn4, hnm⟩ := evOk_parts hok
  simp only at hv hk1 hk8 hn0 hn4 hnm
  have HOR : Hid (bits .or .u8 k 0 = ((UInt8.ofNat (k.toNat + 16 * (0 : Int).toNat)).toNat : Int)) := by
    have hor := or_kinds k 0 ⟨by omega, hk8⟩ (by decide)
    rw [show (0 : Int) * 16 = 0 by decide] at hor
    exact hor
  have hsg := numS_le10 (zz (n - nd)) (zz_lt _ (by omega))
  have hnl : (nmS ns nm.data.toList).length ≤ 40 := by
    unfold nmS
    split
    · have := numS_le10 0 (by decide); omega
    · split
      · rename_i hm
        have hi : ns.idxOf nm.data.toList < ns.length := List.idxOf_lt_length_iff.2 hm
        have := numS_le10 (ns.idxOf nm.data.toList + 1) (by omega)
        omega
      · have := numS_le10 (ns.length + 1) (by omega)
        rw [List.length_append, List.length_cons]
        omega
  have HL : Hid (l.length + 2000 ≤ 100000000 ∧ (sgnS (n - nd)).length ≤ 10 ∧ (nmS ns nm.data.toList).length ≤ 40) := ⟨hl, hsg, hnl⟩
  have HOK : Hid (valOk 0 vn vs.data.toList = true ∧ nm.data.toList.length ≤ 24 ∧ (-9223372036854775808 ≤ vn ∧ vn ≤ 9223372036854775807) ∧ True) := ⟨hv, hnm, hvn, trivial⟩
  have HN : Hid ((0 ≤ nd ∧ nd < 40000) ∧ (0 ≤ n ∧ n < 40000) ∧ ns.length ≤ 900) := ⟨hnd, ⟨hn0, hn4⟩, hns⟩
  have qk0 : 0 ≤ k := by omega
  have qk1 : k < 256 := by omega
  have qd0 : -9223372036854775808 ≤ n - nd := by omega
  have qd1 : n - nd ≤ 9223372036854775807 := by omega
  obtain ⟨X0, hX0⟩ : ∃ X0, W.alloc (.cells #[.int .i64 k, .int .i64 n, .string nm, .int .i64 0, .int .i64 vn, .string vs] 37) = X0 := ⟨_, rfl⟩
  have HQ0 : WrQ B W P nd ns l X0 := by rw [← hX0]; exact WrQ.of h ((Below.refl _ W).alloc (Nat.le_refl _) _)
  have HF0 : Hid (Full X0 W.heap.size 37 [.int .i64 k, .int .i64 n, .string nm, .int .i64 0, .int .i64 vn, .string vs]) := by rw [← hX0]; exact Full.new W _ _
  have HR := rowOf_at X0 0 0 rfl (by decide)
  obtain ⟨A, hA⟩ : ∃ A, W.heap.size = A := ⟨_, rfl⟩
  rw [hA] at HF0
  obtain ⟨e0, e1, e2, e3, e4, e5⟩ := HF0.out.six
  clear h hv hnm hok hsg hnl hl hvn hnd hns hn0 hn4
  go_enter Tryd.func57, Tryd.ntmps57
  go_wp2_with fail
  refine HR.mono ?_
  rintro e w1 ⟨rfl, hb1⟩
  clear HR
  obtain ⟨W2, hW2⟩ : ∃ W2, w1.alloc (.cells #[.func (.func 67) #[] #[], .func (.func 68) #[] #[], .func (.func 69) #[] #[]] 102) = W2 := ⟨_, rfl⟩
  obtain ⟨R, hR⟩ : ∃ R, w1.heap.size = R := ⟨_, rfl⟩
  have HE2 : Hid (EvI B W P A R [.int .i64 k, .int .i64 n, .string nm, .int .i64 0, .int .i64 vn, .string vs] [.func (.func 67) #[] #[], .func (.func 68) #[] #[], .func (.func 69) #[] #[]] nd ns l W2) := by
    have nb : Below w1.heap.size w1 W2 := by rw [← hW2]; exact (Below.refl _ _).alloc (Nat.le_refl _) _
    exact ⟨(HQ0.trans (WrQ.of HQ0.out.1 hb1)).trans (WrQ.of ((HQ0.out.1.next hb1)) nb), (HF0.out.next hb1).next nb, by rw [← hR, ← hW2]; exact Full.new w1 _ _⟩
  clear e0 e1 e2 e3 e4 e5 HF0 HQ0 hb1 hX0
  obtain ⟨e0, e1, e2, e3, e4, e5⟩ := HE2.out.e.six
  have HC := wbyte HE2.out.q.out.1 (UInt8.ofNat (k.toNat + 16 * (0 : Int).toNat)) (bits .or .u8 k 0) HOR.out (by have := HL.out; omega)
  unfold rowV
  go_wp2_with fail
  refine HC.mono ?_
  rintro e w3 ⟨rfl, hw3⟩
  have HE3 : Hid (EvI B W P A R [.int .i64 k, .int .i64 n, .string nm, .int .i64 0, .int .i64 vn, .string vs] [.func (.func 67) #[] #[], .func (.func 68) #[] #[], .func (.func 69) #[] #[]] nd ns (l ++ [UInt8.ofNat (k.toNat + 16 * (0 : Int).toNat)]) w3) := HE2.out.step hw3
  clear HC HE2 hw3 e0 e1 e2 e3 e4 e5 hW2
  obtain ⟨e0, e1, e2, e3, e4, e5⟩ := HE3.out.e.six
  obtain ⟨p0, p1⟩ := HE3.out.q.out.1.nd
  have HE3d : Hid (EvI B W P A R [.int .i64 k, .int .i64 n, .string nm, .int .i64 0, .int .i64 vn, .string vs] [.func (.func 67) #[] #[], .func (.func 68) #[] #[], .func (.func 69) #[] #[]] nd ns (l ++ [UInt8.ofNat (k.toNat + 16 * (0 : Int).toNat)]) w3.drew) := HE3.out.step (WrQ.of HE3.out.q.out.1 (Below.refl _ _).drew)
  have hwr : IntKind.i64.wrap (n - nd) = n - nd := by rw [IntKind.wrap_i64]; omega
  have HC : Calls Tryd.prog 72 #[.pointer (some ⟨P, 0, none⟩), .int .i64 (IntKind.i64.wrap (n - nd))] w3.drew (fun e w' => e = .returned (.tuple #[]) ∧ WrQ B w3.drew P nd ns (l ++ [UInt8.ofNat (k.toNat + 16 * (0 : Int).toNat)] ++ sgnS (n - nd)) w') := by
    rw [hwr]
    exact wsigned HE3d.out.q.out.1 (n - nd) (by have := HN.out; omega) (by have := HL.out; rw [List.length_append, List.length_singleton]; omega)
  clear hwr
  go_upto_region 3 with fail
  go_cut [4] (fun u wx => u = .pointer (some ⟨R, 0, none⟩) ∧ Hid (EvI B W P A R [.int .i64 k, .int .i64 n, .string nm, .int .i64 0, .int .i64 vn, .string vs] [.func (.func 67) #[] #[], .func (.func 68) #[] #[], .func (.func 69) #[] #[]] nd ns (l ++ [UInt8.ofNat (k.toNat + 16 * (0 : Int).toNat)] ++ sgnS (n - nd)) wx))
  case first =>
    go_region_law (first
      | (refine step_call (by rfl) 72 [.tmp 24, .tmp 32] _ [.pointer (some ⟨P, 0, none⟩), .int .i64 (IntKind.i64.wrap (n - nd))] (by rfl) (by rfl) (callSg _ _) (fun v w' => v = .tuple #[] ∧ WrQ B w3.drew P nd ns (l ++ [UInt8.ofNat (k.toNat + 16 * (0 : Int).toNat)] ++ sgnS (n - nd)) w') (HC.mono fun _ _ q => ⟨_, q.1, rfl, q.2⟩) ?_; rintro v5 w4 ⟨rfl, hw4⟩)
      | fail)
    all_goals
      have HE4 := HE3d.out.step hw4
      go_wp2
      go_meet
      case rel => exact ⟨rfl, HE4⟩
  case rest =>
  obtain ⟨rfl, h4⟩ := hcut
  obtain ⟨w4, hw4⟩ : ∃ w4, wc = w4 := ⟨_, rfl⟩
  subst hw4
  have HE4 := h4.out
  have HE4' : Hid (EvI B W P A R [.int .i64 k, .int .i64 n, .string nm, .int .i64 0, .int .i64 vn, .string vs] [.func (.func 67) #[] #[], .func (.func 68) #[] #[], .func (.func 69) #[] #[]] n ns (l ++ [UInt8.ofNat (k.toNat + 16 * (0 : Int).toNat)] ++ sgnS (n - nd)) (wc.setCell ⟨P, 0, none⟩ (.int .i64 n))) := HE4.step (WrQ.node HE4.q.out.1 n)
  obtain ⟨W4, hW4⟩ : ∃ W4, wc.setCell ⟨P, 0, none⟩ (.int .i64 n) = W4 := ⟨_, rfl⟩
  obtain ⟨p0, p1⟩ := HE4.q.out.1.nd
  obtain ⟨e0, e1, e2, e3, e4, e5⟩ := HE4.e.six
  rw [hW4] at HE4'
  obtain ⟨f0, f1, f2, f3, f4, f5⟩ := HE4'.out.e.six
  clear HC HE3 HE3d
  have HC := wname HE4'.out.q.out.1 nm (by have := HOK.out.2.1; rw [Lib.size_eq]; exact this) (by have := HL.out; simp only [List.length_append, List.length_singleton]; omega) HN.out.2.2
  go_wp2_with fail
  refine HC.mono ?_
  rintro e w5 ⟨rfl, hw5⟩
  have HE5 : Hid (EvI B W P A R [.int .i64 k, .int .i64 n, .string nm, .int .i64 0, .int .i64 vn, .string vs] [.func (.func 67) #[] #[], .func (.func 68) #[] #[], .func (.func 69) #[] #[]] n (nmN ns nm.data.toList) (l ++ [UInt8.ofNat (k.toNat + 16 * (0 : Int).toNat)] ++ sgnS (n - nd) ++ nmS ns nm.data.toList) w5) := HE4'.out.step hw5
  clear HC HE4' hw5 e0 e1 e2 e3 e4 e5 f0 f1 f2 f3 f4 f5 p0 p1 hW4
  obtain ⟨e0, e1, e2, e3, e4, e5⟩ := HE5.out.e.six
  obtain ⟨⟨r0, -⟩, ⟨r1, -⟩, r2, -⟩ := HE5.out.r.three
  have HC := lay_none HE5.out.q.out.1 0 vn vs
  go_wp2_with fail
  refine HC.mono ?_
  rintro e w6 ⟨rfl, hw6⟩
  have HK : WrQ B W P n (nmN ns nm.data.toList) (l ++ evL nd ns ⟨k, n, nm.data.toList, 0, vn, vs.data.toList⟩) w6 := by
    have h6 := HE5.out.q.trans hw6
    have e : evL nd ns ⟨k, n, nm.data.toList, 0, vn, vs.data.toList⟩ = UInt8.ofNat (k.toNat + 16 * (0 : Int).toNat) :: (sgnS (n - nd) ++ nmS ns nm.data.toList ++ vlS 0 vn vs.data.toList) := rfl
    rw [e]
    rw [show vlS 0 vn vs.data.toList = [] from rfl, List.append_nil]
    simp only [List.append_assoc, List.cons_append] at h6

    exact h6
  clear HC HE5 hw6 e0 e1 e2 e3 e4 e5 r0 r1 r2
  go_wp2
  go_end0
  exact ⟨rfl, HK⟩
set_option maxRecDepth 100000 in
set_option maxHeartbeats 2000000 in
theorem wevent_1 (h : WrS B W P nd ns l) (k n vn : Int) (nm vs : ByteArray) (hok : evOk ⟨k, n, nm.data.toList, 1, vn, vs.data.toList⟩ = true) (hvn : -9223372036854775808 ≤ vn ∧ vn ≤ 9223372036854775807) (hnd : 0 ≤ nd ∧ nd < 40000) (hns : ns.length ≤ 900) (hl : l.length + 2000 ≤ 100000000) :
    Calls Tryd.prog 57 #[.pointer (some ⟨P, 0, none⟩), .agg #[.int .i64 k, .int .i64 n, .string nm, .int .i64 1, .int .i64 vn, .string vs]] W fun e w' => e = .returned (.tuple #[]) ∧ WrQ B W P n (nmN ns nm.data.toList) (l ++ evL nd ns ⟨k, n, nm.data.toList, 1, vn, vs.data.toList⟩) w' := by
  obtain ⟨hv, hk1, hk8, hn0, hn4, hnm⟩ := evOk_parts hok
  simp only at hv hk1 hk8 hn0 hn4 hnm
  have HOR : Hid (bits .or .u8 k 16 = ((UInt8.ofNat (k.toNat + 16 * (1 : Int).toNat)).toNat : Int)) := by
    have hor := or_kinds k 1 ⟨by omega, hk8⟩ (by decide)
    rw [show (1 : Int) * 16 = 16 by decide] at hor
    exact hor
  have hsg := numS_le10 (zz (n - nd)) (zz_lt _ (by omega))
  have hnl : (nmS ns nm.data.toList).length ≤ 40 := by
    unfold nmS
    split
    · have := numS_le10 0 (by decide); omega
    · split
      · rename_i hm
        have hi : ns.idxOf nm.data.toList < ns.length := List.idxOf_lt_length_iff.2 hm
        have := numS_le10 (ns.idxOf nm.data.toList + 1) (by omega)
        omega
      · have := numS_le10 (ns.length + 1) (by omega)
        rw [List.length_append, List.length_cons]
        omega
  have HL : Hid (l.length + 2000 ≤ 100000000 ∧ (sgnS (n - nd)).length ≤ 10 ∧ (nmS ns nm.data.toList).length ≤ 40) := ⟨hl, hsg, hnl⟩
  have HOK : Hid (valOk 1 vn vs.data.toList = true ∧ nm.data.toList.length ≤ 24 ∧ (-9223372036854775808 ≤ vn ∧ vn ≤ 9223372036854775807) ∧ True) := ⟨hv, hnm, hvn, trivial⟩
  have HN : Hid ((0 ≤ nd ∧ nd < 40000) ∧ (0 ≤ n ∧ n < 40000) ∧ ns.length ≤ 900) := ⟨hnd, ⟨hn0, hn4⟩, hns⟩
  have qk0 : 0 ≤ k := by omega
  have qk1 : k < 256 := by omega
  have qd0 : -9223372036854775808 ≤ n - nd := by omega
  have qd1 : n - nd ≤ 9223372036854775807 := by omega
  obtain ⟨X0, hX0⟩ : ∃ X0, W.alloc (.cells #[.int .i64 k, .int .i64 n, .string nm, .int .i64 1, .int .i64 vn, .string vs] 37) = X0 := ⟨_, rfl⟩
  have HQ0 : WrQ B W P nd ns l X0 := by rw [← hX0]; exact WrQ.of h ((Below.refl _ W).alloc (Nat.le_refl _) _)
  have HF0 : Hid (Full X0 W.heap.size 37 [.int .i64 k, .int .i64 n, .string nm, .int .i64 1, .int .i64 vn, .string vs]) := by rw [← hX0]; exact Full.new W _ _
  have HR := rowOf_at X0 1 1 rfl (by decide)
  obtain ⟨A, hA⟩ : ∃ A, W.heap.size = A := ⟨_, rfl⟩
  rw [hA] at HF0
  obtain ⟨e0, e1, e2, e3, e4, e5⟩ := HF0.out.six
  clear h hv hnm hok hsg hnl hl hvn hnd hns hn0 hn4
  go_enter Tryd.func57, Tryd.ntmps57
  go_wp2_with fail
  refine HR.mono ?_
  rintro e w1 ⟨rfl, hb1⟩
  clear HR
  obtain ⟨W2, hW2⟩ : ∃ W2, w1.alloc (.cells #[.func (.func 70) #[] #[], .func (.func 71) #[] #[], .func (.func 73) #[] #[]] 102) = W2 := ⟨_, rfl⟩
  obtain ⟨R, hR⟩ : ∃ R, w1.heap.size = R := ⟨_, rfl⟩
  have HE2 : Hid (EvI B W P A R [.int .i64 k, .int .i64 n, .string nm, .int .i64 1, .int .i64 vn, .string vs] [.func (.func 70) #[] #[], .func (.func 71) #[] #[], .func (.func 73) #[] #[]] nd ns l W2) := by
    have nb : Below w1.heap.size w1 W2 := by rw [← hW2]; exact (Below.refl _ _).alloc (Nat.le_refl _) _
    exact ⟨(HQ0.trans (WrQ.of HQ0.out.1 hb1)).trans (WrQ.of ((HQ0.out.1.next hb1)) nb), (HF0.out.next hb1).next nb, by rw [← hR, ← hW2]; exact Full.new w1 _ _⟩
  clear e0 e1 e2 e3 e4 e5 HF0 HQ0 hb1 hX0
  obtain ⟨e0, e1, e2, e3, e4, e5⟩ := HE2.out.e.six
  have HC := wbyte HE2.out.q.out.1 (UInt8.ofNat (k.toNat + 16 * (1 : Int).toNat)) (bits .or .u8 k 16) HOR.out (by have := HL.out; omega)
  unfold rowV
  go_wp2_with fail
  refine HC.mono ?_
  rintro e w3 ⟨rfl, hw3⟩
  have HE3 : Hid (EvI B W P A R [.int .i64 k, .int .i64 n, .string nm, .int .i64 1, .int .i64 vn, .string vs] [.func (.func 70) #[] #[], .func (.func 71) #[] #[], .func (.func 73) #[] #[]] nd ns (l ++ [UInt8.ofNat (k.toNat + 16 * (1 : Int).toNat)]) w3) := HE2.out.step hw3
  clear HC HE2 hw3 e0 e1 e2 e3 e4 e5 hW2
  obtain ⟨e0, e1, e2, e3, e4, e5⟩ := HE3.out.e.six
  obtain ⟨p0, p1⟩ := HE3.out.q.out.1.nd
  have HE3d : Hid (EvI B W P A R [.int .i64 k, .int .i64 n, .string nm, .int .i64 1, .int .i64 vn, .string vs] [.func (.func 70) #[] #[], .func (.func 71) #[] #[], .func (.func 73) #[] #[]] nd ns (l ++ [UInt8.ofNat (k.toNat + 16 * (1 : Int).toNat)]) w3.drew) := HE3.out.step (WrQ.of HE3.out.q.out.1 (Below.refl _ _).drew)
  have hwr : IntKind.i64.wrap (n - nd) = n - nd := by rw [IntKind.wrap_i64]; omega
  have HC : Calls Tryd.prog 72 #[.pointer (some ⟨P, 0, none⟩), .int .i64 (IntKind.i64.wrap (n - nd))] w3.drew (fun e w' => e = .returned (.tuple #[]) ∧ WrQ B w3.drew P nd ns (l ++ [UInt8.ofNat (k.toNat + 16 * (1 : Int).toNat)] ++ sgnS (n - nd)) w') := by
    rw [hwr]
    exact wsigned HE3d.out.q.out.1 (n - nd) (by have := HN.out; omega) (by have := HL.out; rw [List.length_append, List.length_singleton]; omega)
  clear hwr
  go_upto_region 3 with fail
  go_cut [4] (fun u wx => u = .pointer (some ⟨R, 0, none⟩) ∧ Hid (EvI B W P A R [.int .i64 k, .int .i64 n, .string nm, .int .i64 1, .int .i64 vn, .string vs] [.func (.func 70) #[] #[], .func (.func 71) #[] #[], .func (.func 73) #[] #[]] nd ns (l ++ [UInt8.ofNat (k.toNat + 16 * (1 : Int).toNat)] ++ sgnS (n - nd)) wx))
  case first =>
    go_region_law (first
      | (refine step_call (by rfl) 72 [.tmp 24, .tmp 32] _ [.pointer (some ⟨P, 0, none⟩), .int .i64 (IntKind.i64.wrap (n - nd))] (by rfl) (by rfl) (callSg _ _) (fun v w' => v = .tuple #[] ∧ WrQ B w3.drew P nd ns (l ++ [UInt8.ofNat (k.toNat + 16 * (1 : Int).toNat)] ++ sgnS (n - nd)) w') (HC.mono fun _ _ q => ⟨_, q.1, rfl, q.2⟩) ?_; rintro v5 w4 ⟨rfl, hw4⟩)
      | fail)
    all_goals
      have HE4 := HE3d.out.step hw4
      go_wp2
      go_meet
      case rel => exact ⟨rfl, HE4⟩
  case rest =>
  obtain ⟨rfl, h4⟩ := hcut
  obtain ⟨w4, hw4⟩ : ∃ w4, wc = w4 := ⟨_, rfl⟩
  subst hw4
  have HE4 := h4.out
  have HE4' : Hid (EvI B W P A R [.int .i64 k, .int .i64 n, .string nm, .int .i64 1, .int .i64 vn, .string vs] [.func (.func 70) #[] #[], .func (.func 71) #[] #[], .func (.func 73) #[] #[]] n ns (l ++ [UInt8.ofNat (k.toNat + 16 * (1 : Int).toNat)] ++ sgnS (n - nd)) (wc.setCell ⟨P, 0, none⟩ (.int .i64 n))) := HE4.step (WrQ.node HE4.q.out.1 n)
  obtain ⟨W4, hW4⟩ : ∃ W4, wc.setCell ⟨P, 0, none⟩ (.int .i64 n) = W4 := ⟨_, rfl⟩
  obtain ⟨p0, p1⟩ := HE4.q.out.1.nd
  obtain ⟨e0, e1, e2, e3, e4, e5⟩ := HE4.e.six
  rw [hW4] at HE4'
  obtain ⟨f0, f1, f2, f3, f4, f5⟩ := HE4'.out.e.six
  clear HC HE3 HE3d
  have HC := wname HE4'.out.q.out.1 nm (by have := HOK.out.2.1; rw [Lib.size_eq]; exact this) (by have := HL.out; simp only [List.length_append, List.length_singleton]; omega) HN.out.2.2
  go_wp2_with fail
  refine HC.mono ?_
  rintro e w5 ⟨rfl, hw5⟩
  have HE5 : Hid (EvI B W P A R [.int .i64 k, .int .i64 n, .string nm, .int .i64 1, .int .i64 vn, .string vs] [.func (.func 70) #[] #[], .func (.func 71) #[] #[], .func (.func 73) #[] #[]] n (nmN ns nm.data.toList) (l ++ [UInt8.ofNat (k.toNat + 16 * (1 : Int).toNat)] ++ sgnS (n - nd) ++ nmS ns nm.data.toList) w5) := HE4'.out.step hw5
  clear HC HE4' hw5 e0 e1 e2 e3 e4 e5 f0 f1 f2 f3 f4 f5 p0 p1 hW4
  obtain ⟨e0, e1, e2, e3, e4, e5⟩ := HE5.out.e.six
  obtain ⟨⟨r0, -⟩, ⟨r1, -⟩, r2, -⟩ := HE5.out.r.three
  have HC := lay_int HE5.out.q.out.1 1 vn vs HOK.out.2.2.1 (by have := HL.out; simp only [List.length_append, List.length_singleton]; omega)
  go_wp2_with fail
  refine HC.mono ?_
  rintro e w6 ⟨rfl, hw6⟩
  have HK : WrQ B W P n (nmN ns nm.data.toList) (l ++ evL nd ns ⟨k, n, nm.data.toList, 1, vn, vs.data.toList⟩) w6 := by
    have h6 := HE5.out.q.trans hw6
    have e : evL nd ns ⟨k, n, nm.data.toList, 1, vn, vs.data.toList⟩ = UInt8.ofNat (k.toNat + 16 * (1 : Int).toNat) :: (sgnS (n - nd) ++ nmS ns nm.data.toList ++ vlS 1 vn vs.data.toList) := rfl
    rw [e]

    simp only [List.append_assoc, List.cons_append] at h6
    simp only [List.append_assoc]
    exact h6
  clear HC HE5 hw6 e0 e1 e2 e3 e4 e5 r0 r1 r2
  go_wp2
  go_end0
  exact ⟨rfl, HK⟩
set_option maxRecDepth 100000 in
set_option maxHeartbeats 2000000 in
theorem wevent_2 (h : WrS B W P nd ns l) (k n vn : Int) (nm vs : ByteArray) (hok : evOk ⟨k, n, nm.data.toList, 2, vn, vs.data.toList⟩ = true) (hvn : -9223372036854775808 ≤ vn ∧ vn ≤ 9223372036854775807) (hnd : 0 ≤ nd ∧ nd < 40000) (hns : ns.length ≤ 900) (hl : l.length + 2000 ≤ 100000000) :
    Calls Tryd.prog 57 #[.pointer (some ⟨P, 0, none⟩), .agg #[.int .i64 k, .int .i64 n, .string nm, .int .i64 2, .int .i64 vn, .string vs]] W fun e w' => e = .returned (.tuple #[]) ∧ WrQ B W P n (nmN ns nm.data.toList) (l ++ evL nd ns ⟨k, n, nm.data.toList, 2, vn, vs.data.toList⟩) w' := by
  obtain ⟨hv, hk1, hk8, hn0, hn4, hnm⟩ := evOk_parts hok
  simp only at hv hk1 hk8 hn0 hn4 hnm
  have HOR : Hid (bits .or .u8 k 32 = ((UInt8.ofNat (k.toNat + 16 * (2 : Int).toNat)).toNat : Int)) := by
    have hor := or_kinds k 2 ⟨by omega, hk8⟩ (by decide)
    rw [show (2 : Int) * 16 = 32 by decide] at hor
    exact hor
  have hsg := numS_le10 (zz (n - nd)) (zz_lt _ (by omega))
  have hnl : (nmS ns nm.data.toList).length ≤ 40 := by
    unfold nmS
    split
    · have := numS_le10 0 (by decide); omega
    · split
      · rename_i hm
        have hi : ns.idxOf nm.data.toList < ns.length := List.idxOf_lt_length_iff.2 hm
        have := numS_le10 (ns.idxOf nm.data.toList + 1) (by omega)
        omega
      · have := numS_le10 (ns.length + 1) (by omega)
        rw [List.length_append, List.length_cons]
        omega
  have HL : Hid (l.length + 2000 ≤ 100000000 ∧ (sgnS (n - nd)).length ≤ 10 ∧ (nmS ns nm.data.toList).length ≤ 40) := ⟨hl, hsg, hnl⟩
  have HOK : Hid (valOk 2 vn vs.data.toList = true ∧ nm.data.toList.length ≤ 24 ∧ (-9223372036854775808 ≤ vn ∧ vn ≤ 9223372036854775807) ∧ (vn = 0 ∨ vn = 1)) := ⟨hv, hnm, hvn, by unfold valOk at hv; simp at hv; exact hv.1⟩
  have HN : Hid ((0 ≤ nd ∧ nd < 40000) ∧ (0 ≤ n ∧ n < 40000) ∧ ns.length ≤ 900) := ⟨hnd, ⟨hn0, hn4⟩, hns⟩
  have qk0 : 0 ≤ k := by omega
  have qk1 : k < 256 := by omega
  have qd0 : -9223372036854775808 ≤ n - nd := by omega
  have qd1 : n - nd ≤ 9223372036854775807 := by omega
  obtain ⟨X0, hX0⟩ : ∃ X0, W.alloc (.cells #[.int .i64 k, .int .i64 n, .string nm, .int .i64 2, .int .i64 vn, .string vs] 37) = X0 := ⟨_, rfl⟩
  have HQ0 : WrQ B W P nd ns l X0 := by rw [← hX0]; exact WrQ.of h ((Below.refl _ W).alloc (Nat.le_refl _) _)
  have HF0 : Hid (Full X0 W.heap.size 37 [.int .i64 k, .int .i64 n, .string nm, .int .i64 2, .int .i64 vn, .string vs]) := by rw [← hX0]; exact Full.new W _ _
  have HR := rowOf_at X0 2 2 rfl (by decide)
  obtain ⟨A, hA⟩ : ∃ A, W.heap.size = A := ⟨_, rfl⟩
  rw [hA] at HF0
  obtain ⟨e0, e1, e2, e3, e4, e5⟩ := HF0.out.six
  clear h hv hnm hok hsg hnl hl hvn hnd hns hn0 hn4
  go_enter Tryd.func57, Tryd.ntmps57
  go_wp2_with fail
  refine HR.mono ?_
  rintro e w1 ⟨rfl, hb1⟩
  clear HR
  obtain ⟨W2, hW2⟩ : ∃ W2, w1.alloc (.cells #[.func (.func 75) #[] #[], .func (.func 76) #[] #[], .func (.func 77) #[] #[]] 102) = W2 := ⟨_, rfl⟩
  obtain ⟨R, hR⟩ : ∃ R, w1.heap.size = R := ⟨_, rfl⟩
  have HE2 : Hid (EvI B W P A R [.int .i64 k, .int .i64 n, .string nm, .int .i64 2, .int .i64 vn, .string vs] [.func (.func 75) #[] #[], .func (.func 76) #[] #[], .func (.func 77) #[] #[]] nd ns l W2) := by
    have nb : Below w1.heap.size w1 W2 := by rw [← hW2]; exact (Below.refl _ _).alloc (Nat.le_refl _) _
    exact ⟨(HQ0.trans (WrQ.of HQ0.out.1 hb1)).trans (WrQ.of ((HQ0.out.1.next hb1)) nb), (HF0.out.next hb1).next nb, by rw [← hR, ← hW2]; exact Full.new w1 _ _⟩
  clear e0 e1 e2 e3 e4 e5 HF0 HQ0 hb1 hX0
  obtain ⟨e0, e1, e2, e3, e4, e5⟩ := HE2.out.e.six
  have HC := wbyte HE2.out.q.out.1 (UInt8.ofNat (k.toNat + 16 * (2 : Int).toNat)) (bits .or .u8 k 32) HOR.out (by have := HL.out; omega)
  unfold rowV
  go_wp2_with fail
  refine HC.mono ?_
  rintro e w3 ⟨rfl, hw3⟩
  have HE3 : Hid (EvI B W P A R [.int .i64 k, .int .i64 n, .string nm, .int .i64 2, .int .i64 vn, .string vs] [.func (.func 75) #[] #[], .func (.func 76) #[] #[], .func (.func 77) #[] #[]] nd ns (l ++ [UInt8.ofNat (k.toNat + 16 * (2 : Int).toNat)]) w3) := HE2.out.step hw3
  clear HC HE2 hw3 e0 e1 e2 e3 e4 e5 hW2
  obtain ⟨e0, e1, e2, e3, e4, e5⟩ := HE3.out.e.six
  obtain ⟨p0, p1⟩ := HE3.out.q.out.1.nd
  have HE3d : Hid (EvI B W P A R [.int .i64 k, .int .i64 n, .string nm, .int .i64 2, .int .i64 vn, .string vs] [.func (.func 75) #[] #[], .func (.func 76) #[] #[], .func (.func 77) #[] #[]] nd ns (l ++ [UInt8.ofNat (k.toNat + 16 * (2 : Int).toNat)]) w3.drew) := HE3.out.step (WrQ.of HE3.out.q.out.1 (Below.refl _ _).drew)
  have hwr : IntKind.i64.wrap (n - nd) = n - nd := by rw [IntKind.wrap_i64]; omega
  have HC : Calls Tryd.prog 72 #[.pointer (some ⟨P, 0, none⟩), .int .i64 (IntKind.i64.wrap (n - nd))] w3.drew (fun e w' => e = .returned (.tuple #[]) ∧ WrQ B w3.drew P nd ns (l ++ [UInt8.ofNat (k.toNat + 16 * (2 : Int).toNat)] ++ sgnS (n - nd)) w') := by
    rw [hwr]
    exact wsigned HE3d.out.q.out.1 (n - nd) (by have := HN.out; omega) (by have := HL.out; rw [List.length_append, List.length_singleton]; omega)
  clear hwr
  go_upto_region 3 with fail
  go_cut [4] (fun u wx => u = .pointer (some ⟨R, 0, none⟩) ∧ Hid (EvI B W P A R [.int .i64 k, .int .i64 n, .string nm, .int .i64 2, .int .i64 vn, .string vs] [.func (.func 75) #[] #[], .func (.func 76) #[] #[], .func (.func 77) #[] #[]] nd ns (l ++ [UInt8.ofNat (k.toNat + 16 * (2 : Int).toNat)] ++ sgnS (n - nd)) wx))
  case first =>
    go_region_law (first
      | (refine step_call (by rfl) 72 [.tmp 24, .tmp 32] _ [.pointer (some ⟨P, 0, none⟩), .int .i64 (IntKind.i64.wrap (n - nd))] (by rfl) (by rfl) (callSg _ _) (fun v w' => v = .tuple #[] ∧ WrQ B w3.drew P nd ns (l ++ [UInt8.ofNat (k.toNat + 16 * (2 : Int).toNat)] ++ sgnS (n - nd)) w') (HC.mono fun _ _ q => ⟨_, q.1, rfl, q.2⟩) ?_; rintro v5 w4 ⟨rfl, hw4⟩)
      | fail)
    all_goals
      have HE4 := HE3d.out.step hw4
      go_wp2
      go_meet
      case rel => exact ⟨rfl, HE4⟩
  case rest =>
  obtain ⟨rfl, h4⟩ := hcut
  obtain ⟨w4, hw4⟩ : ∃ w4, wc = w4 := ⟨_, rfl⟩
  subst hw4
  have HE4 := h4.out
  have HE4' : Hid (EvI B W P A R [.int .i64 k, .int .i64 n, .string nm, .int .i64 2, .int .i64 vn, .string vs] [.func (.func 75) #[] #[], .func (.func 76) #[] #[], .func (.func 77) #[] #[]] n ns (l ++ [UInt8.ofNat (k.toNat + 16 * (2 : Int).toNat)] ++ sgnS (n - nd)) (wc.setCell ⟨P, 0, none⟩ (.int .i64 n))) := HE4.step (WrQ.node HE4.q.out.1 n)
  obtain ⟨W4, hW4⟩ : ∃ W4, wc.setCell ⟨P, 0, none⟩ (.int .i64 n) = W4 := ⟨_, rfl⟩
  obtain ⟨p0, p1⟩ := HE4.q.out.1.nd
  obtain ⟨e0, e1, e2, e3, e4, e5⟩ := HE4.e.six
  rw [hW4] at HE4'
  obtain ⟨f0, f1, f2, f3, f4, f5⟩ := HE4'.out.e.six
  clear HC HE3 HE3d
  have HC := wname HE4'.out.q.out.1 nm (by have := HOK.out.2.1; rw [Lib.size_eq]; exact this) (by have := HL.out; simp only [List.length_append, List.length_singleton]; omega) HN.out.2.2
  go_wp2_with fail
  refine HC.mono ?_
  rintro e w5 ⟨rfl, hw5⟩
  have HE5 : Hid (EvI B W P A R [.int .i64 k, .int .i64 n, .string nm, .int .i64 2, .int .i64 vn, .string vs] [.func (.func 75) #[] #[], .func (.func 76) #[] #[], .func (.func 77) #[] #[]] n (nmN ns nm.data.toList) (l ++ [UInt8.ofNat (k.toNat + 16 * (2 : Int).toNat)] ++ sgnS (n - nd) ++ nmS ns nm.data.toList) w5) := HE4'.out.step hw5
  clear HC HE4' hw5 e0 e1 e2 e3 e4 e5 f0 f1 f2 f3 f4 f5 p0 p1 hW4
  obtain ⟨e0, e1, e2, e3, e4, e5⟩ := HE5.out.e.six
  obtain ⟨⟨r0, -⟩, ⟨r1, -⟩, r2, -⟩ := HE5.out.r.three
  have HC := lay_bool HE5.out.q.out.1 2 vn vs HOK.out.2.2.2 (by have := HL.out; simp only [List.length_append, List.length_singleton]; omega)
  go_wp2_with fail
  refine HC.mono ?_
  rintro e w6 ⟨rfl, hw6⟩
  have HK : WrQ B W P n (nmN ns nm.data.toList) (l ++ evL nd ns ⟨k, n, nm.data.toList, 2, vn, vs.data.toList⟩) w6 := by
    have h6 := HE5.out.q.trans hw6
    have e : evL nd ns ⟨k, n, nm.data.toList, 2, vn, vs.data.toList⟩ = UInt8.ofNat (k.toNat + 16 * (2 : Int).toNat) :: (sgnS (n - nd) ++ nmS ns nm.data.toList ++ vlS 2 vn vs.data.toList) := rfl
    rw [e]

    simp only [List.append_assoc, List.cons_append] at h6
    simp only [List.append_assoc]
    exact h6
  clear HC HE5 hw6 e0 e1 e2 e3 e4 e5 r0 r1 r2
  go_wp2
  go_end0
  exact ⟨rfl, HK⟩
set_option maxRecDepth 100000 in
set_option maxHeartbeats 2000000 in
theorem wevent_3 (h : WrS B W P nd ns l) (k n vn : Int) (nm vs : ByteArray) (hok : evOk ⟨k, n, nm.data.toList, 3, vn, vs.data.toList⟩ = true) (hvn : -9223372036854775808 ≤ vn ∧ vn ≤ 9223372036854775807) (hnd : 0 ≤ nd ∧ nd < 40000) (hns : ns.length ≤ 900) (hl : l.length + 2000 ≤ 100000000) :
    Calls Tryd.prog 57 #[.pointer (some ⟨P, 0, none⟩), .agg #[.int .i64 k, .int .i64 n, .string nm, .int .i64 3, .int .i64 vn, .string vs]] W fun e w' => e = .returned (.tuple #[]) ∧ WrQ B W P n (nmN ns nm.data.toList) (l ++ evL nd ns ⟨k, n, nm.data.toList, 3, vn, vs.data.toList⟩) w' := by
  obtain ⟨hv, hk1, hk8, hn0, hn4, hnm⟩ := evOk_parts hok
  simp only at hv hk1 hk8 hn0 hn4 hnm
  have HOR : Hid (bits .or .u8 k 48 = ((UInt8.ofNat (k.toNat + 16 * (3 : Int).toNat)).toNat : Int)) := by
    have hor := or_kinds k 3 ⟨by omega, hk8⟩ (by decide)
    rw [show (3 : Int) * 16 = 48 by decide] at hor
    exact hor
  have hsg := numS_le10 (zz (n - nd)) (zz_lt _ (by omega))
  have hnl : (nmS ns nm.data.toList).length ≤ 40 := by
    unfold nmS
    split
    · have := numS_le10 0 (by decide); omega
    · split
      · rename_i hm
        have hi : ns.idxOf nm.data.toList < ns.length := List.idxOf_lt_length_iff.2 hm
        have := numS_le10 (ns.idxOf nm.data.toList + 1) (by omega)
        omega
      · have := numS_le10 (ns.length + 1) (by omega)
        rw [List.length_append, List.length_cons]
        omega
  have HL : Hid (l.length + 2000 ≤ 100000000 ∧ (sgnS (n - nd)).length ≤ 10 ∧ (nmS ns nm.data.toList).length ≤ 40) := ⟨hl, hsg, hnl⟩
  have HOK : Hid (valOk 3 vn vs.data.toList = true ∧ nm.data.toList.length ≤ 24 ∧ (-9223372036854775808 ≤ vn ∧ vn ≤ 9223372036854775807) ∧ vs.size ≤ 256) := ⟨hv, hnm, hvn, by unfold valOk at hv; simp at hv; rw [Lib.size_eq]; simpa using hv.2⟩
  have HN : Hid ((0 ≤ nd ∧ nd < 40000) ∧ (0 ≤ n ∧ n < 40000) ∧ ns.length ≤ 900) := ⟨hnd, ⟨hn0, hn4⟩, hns⟩
  have qk0 : 0 ≤ k := by omega
  have qk1 : k < 256 := by omega
  have qd0 : -9223372036854775808 ≤ n - nd := by omega
  have qd1 : n - nd ≤ 9223372036854775807 := by omega
  obtain ⟨X0, hX0⟩ : ∃ X0, W.alloc (.cells #[.int .i64 k, .int .i64 n, .string nm, .int .i64 3, .int .i64 vn, .string vs] 37) = X0 := ⟨_, rfl⟩
  have HQ0 : WrQ B W P nd ns l X0 := by rw [← hX0]; exact WrQ.of h ((Below.refl _ W).alloc (Nat.le_refl _) _)
  have HF0 : Hid (Full X0 W.heap.size 37 [.int .i64 k, .int .i64 n, .string nm, .int .i64 3, .int .i64 vn, .string vs]) := by rw [← hX0]; exact Full.new W _ _
  have HR := rowOf_at X0 3 3 rfl (by decide)
  obtain ⟨A, hA⟩ : ∃ A, W.heap.size = A := ⟨_, rfl⟩
  rw [hA] at HF0
  obtain ⟨e0, e1, e2, e3, e4, e5⟩ := HF0.out.six
  clear h hv hnm hok hsg hnl hl hvn hnd hns hn0 hn4
  go_enter Tryd.func57, Tryd.ntmps57
  go_wp2_with fail
  refine HR.mono ?_
  rintro e w1 ⟨rfl, hb1⟩
  clear HR
  obtain ⟨W2, hW2⟩ : ∃ W2, w1.alloc (.cells #[.func (.func 79) #[] #[], .func (.func 80) #[] #[], .func (.func 83) #[] #[]] 102) = W2 := ⟨_, rfl⟩
  obtain ⟨R, hR⟩ : ∃ R, w1.heap.size = R := ⟨_, rfl⟩
  have HE2 : Hid (EvI B W P A R [.int .i64 k, .int .i64 n, .string nm, .int .i64 3, .int .i64 vn, .string vs] [.func (.func 79) #[] #[], .func (.func 80) #[] #[], .func (.func 83) #[] #[]] nd ns l W2) := by
    have nb : Below w1.heap.size w1 W2 := by rw [← hW2]; exact (Below.refl _ _).alloc (Nat.le_refl _) _
    exact ⟨(HQ0.trans (WrQ.of HQ0.out.1 hb1)).trans (WrQ.of ((HQ0.out.1.next hb1)) nb), (HF0.out.next hb1).next nb, by rw [← hR, ← hW2]; exact Full.new w1 _ _⟩
  clear e0 e1 e2 e3 e4 e5 HF0 HQ0 hb1 hX0
  obtain ⟨e0, e1, e2, e3, e4, e5⟩ := HE2.out.e.six
  have HC := wbyte HE2.out.q.out.1 (UInt8.ofNat (k.toNat + 16 * (3 : Int).toNat)) (bits .or .u8 k 48) HOR.out (by have := HL.out; omega)
  unfold rowV
  go_wp2_with fail
  refine HC.mono ?_
  rintro e w3 ⟨rfl, hw3⟩
  have HE3 : Hid (EvI B W P A R [.int .i64 k, .int .i64 n, .string nm, .int .i64 3, .int .i64 vn, .string vs] [.func (.func 79) #[] #[], .func (.func 80) #[] #[], .func (.func 83) #[] #[]] nd ns (l ++ [UInt8.ofNat (k.toNat + 16 * (3 : Int).toNat)]) w3) := HE2.out.step hw3
  clear HC HE2 hw3 e0 e1 e2 e3 e4 e5 hW2
  obtain ⟨e0, e1, e2, e3, e4, e5⟩ := HE3.out.e.six
  obtain ⟨p0, p1⟩ := HE3.out.q.out.1.nd
  have HE3d : Hid (EvI B W P A R [.int .i64 k, .int .i64 n, .string nm, .int .i64 3, .int .i64 vn, .string vs] [.func (.func 79) #[] #[], .func (.func 80) #[] #[], .func (.func 83) #[] #[]] nd ns (l ++ [UInt8.ofNat (k.toNat + 16 * (3 : Int).toNat)]) w3.drew) := HE3.out.step (WrQ.of HE3.out.q.out.1 (Below.refl _ _).drew)
  have hwr : IntKind.i64.wrap (n - nd) = n - nd := by rw [IntKind.wrap_i64]; omega
  have HC : Calls Tryd.prog 72 #[.pointer (some ⟨P, 0, none⟩), .int .i64 (IntKind.i64.wrap (n - nd))] w3.drew (fun e w' => e = .returned (.tuple #[]) ∧ WrQ B w3.drew P nd ns (l ++ [UInt8.ofNat (k.toNat + 16 * (3 : Int).toNat)] ++ sgnS (n - nd)) w') := by
    rw [hwr]
    exact wsigned HE3d.out.q.out.1 (n - nd) (by have := HN.out; omega) (by have := HL.out; rw [List.length_append, List.length_singleton]; omega)
  clear hwr
  go_upto_region 3 with fail
  go_cut [4] (fun u wx => u = .pointer (some ⟨R, 0, none⟩) ∧ Hid (EvI B W P A R [.int .i64 k, .int .i64 n, .string nm, .int .i64 3, .int .i64 vn, .string vs] [.func (.func 79) #[] #[], .func (.func 80) #[] #[], .func (.func 83) #[] #[]] nd ns (l ++ [UInt8.ofNat (k.toNat + 16 * (3 : Int).toNat)] ++ sgnS (n - nd)) wx))
  case first =>
    go_region_law (first
      | (refine step_call (by rfl) 72 [.tmp 24, .tmp 32] _ [.pointer (some ⟨P, 0, none⟩), .int .i64 (IntKind.i64.wrap (n - nd))] (by rfl) (by rfl) (callSg _ _) (fun v w' => v = .tuple #[] ∧ WrQ B w3.drew P nd ns (l ++ [UInt8.ofNat (k.toNat + 16 * (3 : Int).toNat)] ++ sgnS (n - nd)) w') (HC.mono fun _ _ q => ⟨_, q.1, rfl, q.2⟩) ?_; rintro v5 w4 ⟨rfl, hw4⟩)
      | fail)
    all_goals
      have HE4 := HE3d.out.step hw4
      go_wp2
      go_meet
      case rel => exact ⟨rfl, HE4⟩
  case rest =>
  obtain ⟨rfl, h4⟩ := hcut
  obtain ⟨w4, hw4⟩ : ∃ w4, wc = w4 := ⟨_, rfl⟩
  subst hw4
  have HE4 := h4.out
  have HE4' : Hid (EvI B W P A R [.int .i64 k, .int .i64 n, .string nm, .int .i64 3, .int .i64 vn, .string vs] [.func (.func 79) #[] #[], .func (.func 80) #[] #[], .func (.func 83) #[] #[]] n ns (l ++ [UInt8.ofNat (k.toNat + 16 * (3 : Int).toNat)] ++ sgnS (n - nd)) (wc.setCell ⟨P, 0, none⟩ (.int .i64 n))) := HE4.step (WrQ.node HE4.q.out.1 n)
  obtain ⟨W4, hW4⟩ : ∃ W4, wc.setCell ⟨P, 0, none⟩ (.int .i64 n) = W4 := ⟨_, rfl⟩
  obtain ⟨p0, p1⟩ := HE4.q.out.1.nd
  obtain ⟨e0, e1, e2, e3, e4, e5⟩ := HE4.e.six
  rw [hW4] at HE4'
  obtain ⟨f0, f1, f2, f3, f4, f5⟩ := HE4'.out.e.six
  clear HC HE3 HE3d
  have HC := wname HE4'.out.q.out.1 nm (by have := HOK.out.2.1; rw [Lib.size_eq]; exact this) (by have := HL.out; simp only [List.length_append, List.length_singleton]; omega) HN.out.2.2
  go_wp2_with fail
  refine HC.mono ?_
  rintro e w5 ⟨rfl, hw5⟩
  have HE5 : Hid (EvI B W P A R [.int .i64 k, .int .i64 n, .string nm, .int .i64 3, .int .i64 vn, .string vs] [.func (.func 79) #[] #[], .func (.func 80) #[] #[], .func (.func 83) #[] #[]] n (nmN ns nm.data.toList) (l ++ [UInt8.ofNat (k.toNat + 16 * (3 : Int).toNat)] ++ sgnS (n - nd) ++ nmS ns nm.data.toList) w5) := HE4'.out.step hw5
  clear HC HE4' hw5 e0 e1 e2 e3 e4 e5 f0 f1 f2 f3 f4 f5 p0 p1 hW4
  obtain ⟨e0, e1, e2, e3, e4, e5⟩ := HE5.out.e.six
  obtain ⟨⟨r0, -⟩, ⟨r1, -⟩, r2, -⟩ := HE5.out.r.three
  have HC := lay_text HE5.out.q.out.1 3 vn vs HOK.out.2.2.2 (by have := HL.out; simp only [List.length_append, List.length_singleton]; omega)
  go_wp2_with fail
  refine HC.mono ?_
  rintro e w6 ⟨rfl, hw6⟩
  have HK : WrQ B W P n (nmN ns nm.data.toList) (l ++ evL nd ns ⟨k, n, nm.data.toList, 3, vn, vs.data.toList⟩) w6 := by
    have h6 := HE5.out.q.trans hw6
    have e : evL nd ns ⟨k, n, nm.data.toList, 3, vn, vs.data.toList⟩ = UInt8.ofNat (k.toNat + 16 * (3 : Int).toNat) :: (sgnS (n - nd) ++ nmS ns nm.data.toList ++ vlS 3 vn vs.data.toList) := rfl
    rw [e]

    simp only [List.append_assoc, List.cons_append] at h6
    simp only [List.append_assoc]
    exact h6
  clear HC HE5 hw6 e0 e1 e2 e3 e4 e5 r0 r1 r2
  go_wp2
  go_end0
  exact ⟨rfl, HK⟩
set_option maxRecDepth 100000 in
set_option maxHeartbeats 2000000 in
theorem wevent_4 (h : WrS B W P nd ns l) (k n vn : Int) (nm vs : ByteArray) (hok : evOk ⟨k, n, nm.data.toList, 4, vn, vs.data.toList⟩ = true) (hvn : -9223372036854775808 ≤ vn ∧ vn ≤ 9223372036854775807) (hnd : 0 ≤ nd ∧ nd < 40000) (hns : ns.length ≤ 900) (hl : l.length + 2000 ≤ 100000000) :
    Calls Tryd.prog 57 #[.pointer (some ⟨P, 0, none⟩), .agg #[.int .i64 k, .int .i64 n, .string nm, .int .i64 4, .int .i64 vn, .string vs]] W fun e w' => e = .returned (.tuple #[]) ∧ WrQ B W P n (nmN ns nm.data.toList) (l ++ evL nd ns ⟨k, n, nm.data.toList, 4, vn, vs.data.toList⟩) w' := by
  obtain ⟨hv, hk1, hk8, hn0, hn4, hnm⟩ := evOk_parts hok
  simp only at hv hk1 hk8 hn0 hn4 hnm
  have HOR : Hid (bits .or .u8 k 64 = ((UInt8.ofNat (k.toNat + 16 * (4 : Int).toNat)).toNat : Int)) := by
    have hor := or_kinds k 4 ⟨by omega, hk8⟩ (by decide)
    rw [show (4 : Int) * 16 = 64 by decide] at hor
    exact hor
  have hsg := numS_le10 (zz (n - nd)) (zz_lt _ (by omega))
  have hnl : (nmS ns nm.data.toList).length ≤ 40 := by
    unfold nmS
    split
    · have := numS_le10 0 (by decide); omega
    · split
      · rename_i hm
        have hi : ns.idxOf nm.data.toList < ns.length := List.idxOf_lt_length_iff.2 hm
        have := numS_le10 (ns.idxOf nm.data.toList + 1) (by omega)
        omega
      · have := numS_le10 (ns.length + 1) (by omega)
        rw [List.length_append, List.length_cons]
        omega
  have HL : Hid (l.length + 2000 ≤ 100000000 ∧ (sgnS (n - nd)).length ≤ 10 ∧ (nmS ns nm.data.toList).length ≤ 40) := ⟨hl, hsg, hnl⟩
  have HOK : Hid (valOk 4 vn vs.data.toList = true ∧ nm.data.toList.length ≤ 24 ∧ (-9223372036854775808 ≤ vn ∧ vn ≤ 9223372036854775807) ∧ (0 ≤ vn ∧ vn ≤ 9223372036854775807)) := ⟨hv, hnm, hvn, by unfold valOk at hv; simp at hv; exact ⟨hv.1, hvn.2⟩⟩
  have HN : Hid ((0 ≤ nd ∧ nd < 40000) ∧ (0 ≤ n ∧ n < 40000) ∧ ns.length ≤ 900) := ⟨hnd, ⟨hn0, hn4⟩, hns⟩
  have qk0 : 0 ≤ k := by omega
  have qk1 : k < 256 := by omega
  have qd0 : -9223372036854775808 ≤ n - nd := by omega
  have qd1 : n - nd ≤ 9223372036854775807 := by omega
  obtain ⟨X0, hX0⟩ : ∃ X0, W.alloc (.cells #[.int .i64 k, .int .i64 n, .string nm, .int .i64 4, .int .i64 vn, .string vs] 37) = X0 := ⟨_, rfl⟩
  have HQ0 : WrQ B W P nd ns l X0 := by rw [← hX0]; exact WrQ.of h ((Below.refl _ W).alloc (Nat.le_refl _) _)
  have HF0 : Hid (Full X0 W.heap.size 37 [.int .i64 k, .int .i64 n, .string nm, .int .i64 4, .int .i64 vn, .string vs]) := by rw [← hX0]; exact Full.new W _ _
  have HR := rowOf_at X0 4 4 rfl (by decide)
  obtain ⟨A, hA⟩ : ∃ A, W.heap.size = A := ⟨_, rfl⟩
  rw [hA] at HF0
  obtain ⟨e0, e1, e2, e3, e4, e5⟩ := HF0.out.six
  clear h hv hnm hok hsg hnl hl hvn hnd hns hn0 hn4
  go_enter Tryd.func57, Tryd.ntmps57
  go_wp2_with fail
  refine HR.mono ?_
  rintro e w1 ⟨rfl, hb1⟩
  clear HR
  obtain ⟨W2, hW2⟩ : ∃ W2, w1.alloc (.cells #[.func (.func 86) #[] #[], .func (.func 87) #[] #[], .func (.func 88) #[] #[]] 102) = W2 := ⟨_, rfl⟩
  obtain ⟨R, hR⟩ : ∃ R, w1.heap.size = R := ⟨_, rfl⟩
  have HE2 : Hid (EvI B W P A R [.int .i64 k, .int .i64 n, .string nm, .int .i64 4, .int .i64 vn, .string vs] [.func (.func 86) #[] #[], .func (.func 87) #[] #[], .func (.func 88) #[] #[]] nd ns l W2) := by
    have nb : Below w1.heap.size w1 W2 := by rw [← hW2]; exact (Below.refl _ _).alloc (Nat.le_refl _) _
    exact ⟨(HQ0.trans (WrQ.of HQ0.out.1 hb1)).trans (WrQ.of ((HQ0.out.1.next hb1)) nb), (HF0.out.next hb1).next nb, by rw [← hR, ← hW2]; exact Full.new w1 _ _⟩
  clear e0 e1 e2 e3 e4 e5 HF0 HQ0 hb1 hX0
  obtain ⟨e0, e1, e2, e3, e4, e5⟩ := HE2.out.e.six
  have HC := wbyte HE2.out.q.out.1 (UInt8.ofNat (k.toNat + 16 * (4 : Int).toNat)) (bits .or .u8 k 64) HOR.out (by have := HL.out; omega)
  unfold rowV
  go_wp2_with fail
  refine HC.mono ?_
  rintro e w3 ⟨rfl, hw3⟩
  have HE3 : Hid (EvI B W P A R [.int .i64 k, .int .i64 n, .string nm, .int .i64 4, .int .i64 vn, .string vs] [.func (.func 86) #[] #[], .func (.func 87) #[] #[], .func (.func 88) #[] #[]] nd ns (l ++ [UInt8.ofNat (k.toNat + 16 * (4 : Int).toNat)]) w3) := HE2.out.step hw3
  clear HC HE2 hw3 e0 e1 e2 e3 e4 e5 hW2
  obtain ⟨e0, e1, e2, e3, e4, e5⟩ := HE3.out.e.six
  obtain ⟨p0, p1⟩ := HE3.out.q.out.1.nd
  have HE3d : Hid (EvI B W P A R [.int .i64 k, .int .i64 n, .string nm, .int .i64 4, .int .i64 vn, .string vs] [.func (.func 86) #[] #[], .func (.func 87) #[] #[], .func (.func 88) #[] #[]] nd ns (l ++ [UInt8.ofNat (k.toNat + 16 * (4 : Int).toNat)]) w3.drew) := HE3.out.step (WrQ.of HE3.out.q.out.1 (Below.refl _ _).drew)
  have hwr : IntKind.i64.wrap (n - nd) = n - nd := by rw [IntKind.wrap_i64]; omega
  have HC : Calls Tryd.prog 72 #[.pointer (some ⟨P, 0, none⟩), .int .i64 (IntKind.i64.wrap (n - nd))] w3.drew (fun e w' => e = .returned (.tuple #[]) ∧ WrQ B w3.drew P nd ns (l ++ [UInt8.ofNat (k.toNat + 16 * (4 : Int).toNat)] ++ sgnS (n - nd)) w') := by
    rw [hwr]
    exact wsigned HE3d.out.q.out.1 (n - nd) (by have := HN.out; omega) (by have := HL.out; rw [List.length_append, List.length_singleton]; omega)
  clear hwr
  go_upto_region 3 with fail
  go_cut [4] (fun u wx => u = .pointer (some ⟨R, 0, none⟩) ∧ Hid (EvI B W P A R [.int .i64 k, .int .i64 n, .string nm, .int .i64 4, .int .i64 vn, .string vs] [.func (.func 86) #[] #[], .func (.func 87) #[] #[], .func (.func 88) #[] #[]] nd ns (l ++ [UInt8.ofNat (k.toNat + 16 * (4 : Int).toNat)] ++ sgnS (n - nd)) wx))
  case first =>
    go_region_law (first
      | (refine step_call (by rfl) 72 [.tmp 24, .tmp 32] _ [.pointer (some ⟨P, 0, none⟩), .int .i64 (IntKind.i64.wrap (n - nd))] (by rfl) (by rfl) (callSg _ _) (fun v w' => v = .tuple #[] ∧ WrQ B w3.drew P nd ns (l ++ [UInt8.ofNat (k.toNat + 16 * (4 : Int).toNat)] ++ sgnS (n - nd)) w') (HC.mono fun _ _ q => ⟨_, q.1, rfl, q.2⟩) ?_; rintro v5 w4 ⟨rfl, hw4⟩)
      | fail)
    all_goals
      have HE4 := HE3d.out.step hw4
      go_wp2
      go_meet
      case rel => exact ⟨rfl, HE4⟩
  case rest =>
  obtain ⟨rfl, h4⟩ := hcut
  obtain ⟨w4, hw4⟩ : ∃ w4, wc = w4 := ⟨_, rfl⟩
  subst hw4
  have HE4 := h4.out
  have HE4' : Hid (EvI B W P A R [.int .i64 k, .int .i64 n, .string nm, .int .i64 4, .int .i64 vn, .string vs] [.func (.func 86) #[] #[], .func (.func 87) #[] #[], .func (.func 88) #[] #[]] n ns (l ++ [UInt8.ofNat (k.toNat + 16 * (4 : Int).toNat)] ++ sgnS (n - nd)) (wc.setCell ⟨P, 0, none⟩ (.int .i64 n))) := HE4.step (WrQ.node HE4.q.out.1 n)
  obtain ⟨W4, hW4⟩ : ∃ W4, wc.setCell ⟨P, 0, none⟩ (.int .i64 n) = W4 := ⟨_, rfl⟩
  obtain ⟨p0, p1⟩ := HE4.q.out.1.nd
  obtain ⟨e0, e1, e2, e3, e4, e5⟩ := HE4.e.six
  rw [hW4] at HE4'
  obtain ⟨f0, f1, f2, f3, f4, f5⟩ := HE4'.out.e.six
  clear HC HE3 HE3d
  have HC := wname HE4'.out.q.out.1 nm (by have := HOK.out.2.1; rw [Lib.size_eq]; exact this) (by have := HL.out; simp only [List.length_append, List.length_singleton]; omega) HN.out.2.2
  go_wp2_with fail
  refine HC.mono ?_
  rintro e w5 ⟨rfl, hw5⟩
  have HE5 : Hid (EvI B W P A R [.int .i64 k, .int .i64 n, .string nm, .int .i64 4, .int .i64 vn, .string vs] [.func (.func 86) #[] #[], .func (.func 87) #[] #[], .func (.func 88) #[] #[]] n (nmN ns nm.data.toList) (l ++ [UInt8.ofNat (k.toNat + 16 * (4 : Int).toNat)] ++ sgnS (n - nd) ++ nmS ns nm.data.toList) w5) := HE4'.out.step hw5
  clear HC HE4' hw5 e0 e1 e2 e3 e4 e5 f0 f1 f2 f3 f4 f5 p0 p1 hW4
  obtain ⟨e0, e1, e2, e3, e4, e5⟩ := HE5.out.e.six
  obtain ⟨⟨r0, -⟩, ⟨r1, -⟩, r2, -⟩ := HE5.out.r.three
  have HC := lay_ref HE5.out.q.out.1 4 vn vs HOK.out.2.2.2 (by have := HL.out; simp only [List.length_append, List.length_singleton]; omega)
  go_wp2_with fail
  refine HC.mono ?_
  rintro e w6 ⟨rfl, hw6⟩
  have HK : WrQ B W P n (nmN ns nm.data.toList) (l ++ evL nd ns ⟨k, n, nm.data.toList, 4, vn, vs.data.toList⟩) w6 := by
    have h6 := HE5.out.q.trans hw6
    have e : evL nd ns ⟨k, n, nm.data.toList, 4, vn, vs.data.toList⟩ = UInt8.ofNat (k.toNat + 16 * (4 : Int).toNat) :: (sgnS (n - nd) ++ nmS ns nm.data.toList ++ vlS 4 vn vs.data.toList) := rfl
    rw [e]

    simp only [List.append_assoc, List.cons_append] at h6
    simp only [List.append_assoc]
    exact h6
  clear HC HE5 hw6 e0 e1 e2 e3 e4 e5 r0 r1 r2
  go_wp2
  go_end0
  exact ⟨rfl, HK⟩
theorem wevent (h : WrS B W P nd ns l) (k n vk vn : Int) (nm vs : ByteArray) (hok : evOk ⟨k, n, nm.data.toList, vk, vn, vs.data.toList⟩ = true) (hvn : -9223372036854775808 ≤ vn ∧ vn ≤ 9223372036854775807) (hnd : 0 ≤ nd ∧ nd < 40000) (hns : ns.length ≤ 900) (hl : l.length + 2000 ≤ 100000000) :
    Calls Tryd.prog 57 #[.pointer (some ⟨P, 0, none⟩), .agg #[.int .i64 k, .int .i64 n, .string nm, .int .i64 vk, .int .i64 vn, .string vs]] W fun e w' => e = .returned (.tuple #[]) ∧ WrQ B W P n (nmN ns nm.data.toList) (l ++ evL nd ns ⟨k, n, nm.data.toList, vk, vn, vs.data.toList⟩) w' := by
  obtain ⟨hv, -, -, -, -, -⟩ := evOk_parts hok
  have hk := valOk_kind hv
  simp only at hk
  have hc : vk = 0 ∨ vk = 1 ∨ vk = 2 ∨ vk = 3 ∨ vk = 4 := by omega
  rcases hc with rfl | rfl | rfl | rfl | rfl
  · exact wevent_0 h k n vn nm vs hok hvn hnd hns hl
  · exact wevent_1 h k n vn nm vs hok hvn hnd hns hl
  · exact wevent_2 h k n vn nm vs hok hvn hnd hns hl
  · exact wevent_3 h k n vn nm vs hok hvn hnd hns hl
  · exact wevent_4 h k n vn nm vs hok hvn hnd hns hl
end
end Go.Proofs.YtdmiciblfbkndaaDoor

namespace Go.Proofs.YtdmiciblfbkndaaDoor
open Go.RowKit

/-- An event's cells. -/
def ec (e : Ev) : List Value := [.int .i64 e.k, .int .i64 e.n, sV e.nm, .int .i64 e.vk, .int .i64 e.vn, sV e.vs]
theorem ec_len (e : Ev) : (ec e).length = 6 := rfl
/-- What is known of the events of a body. -/
def EvsOk (L : List Ev) : Prop := (∀ e ∈ L, evOk e = true ∧ (-9223372036854775808 ≤ e.vn ∧ e.vn ≤ 9223372036854775807)) ∧ L.length ≤ 64
theorem ec_at (L : List Ev) (i : Nat) (e : Ev) (hi : L[i]? = some e) (j : Nat) (v : Value) (hv : (ec e)[j]? = some v) : (L.flatMap ec)[i * 6 + j]? = some v := by
  obtain ⟨hl, he⟩ := List.getElem?_eq_some_iff.1 hi
  have hj : j < 6 := by have := (List.getElem?_eq_some_iff.1 hv).1; rw [ec_len] at this; exact this
  rw [flat_at ec 6 ec_len L i j hl hj, he, hv]
theorem evL_le (nd : Int) (ns : List (List UInt8)) (e : Ev) (h : evOk e = true) (hv : -9223372036854775808 ≤ e.vn ∧ e.vn ≤ 9223372036854775807) (hnd : 0 ≤ nd ∧ nd < 40000) (hns : ns.length < 1000) : (evL nd ns e).length ≤ 400 := by
  obtain ⟨hok, hk1, hk8, hn0, hn1, hnm⟩ := evOk_parts h
  have h1 := numS_le10 _ (zz_lt (e.n - nd) (by omega))
  have h3 : (nmS ns e.nm).length ≤ 40 := by
    unfold nmS
    split
    · have := numS_le10 0 (by decide); omega
    · split
      · rename_i hm
        have hi : ns.idxOf e.nm < ns.length := List.idxOf_lt_length_iff.2 hm
        have := numS_le10 (ns.idxOf e.nm + 1) (by omega)
        omega
      · have := numS_le10 (ns.length + 1) (by omega)
        rw [List.length_append, List.length_cons]
        omega
  have h2 : (vlS e.vk e.vn e.vs).length ≤ 266 := by
    have hv3 : e.vk = 3 → e.vs.length ≤ 256 := by
      intro h3
      unfold valOk at hok
      rw [h3] at hok
      simp at hok
      exact hok.2
    unfold vlS
    split
    · have := numS_le10 _ (zz_lt e.vn hv)
      unfold sgnS
      omega
    · split
      · simp
      · split
        · rename_i h3
          have := hv3 h3
          have := numS_le10 e.vs.length (by omega)
          rw [List.length_append]
          omega
        · split
          · have := numS_le10 e.vn.toNat (by omega)
            omega
          · simp
  unfold evL sgnS
  simp only [List.length_cons, List.length_append]
  omega
/-- What stands behind some events of a body. -/
theorem body_mid (L : List Ev) (hok : EvsOk L) : ∀ i, i ≤ L.length → (0 ≤ ndA 0 (L.take i) ∧ ndA 0 (L.take i) < 40000) ∧ (nsA [] (L.take i)).length ≤ i ∧ (evsL 0 [] (L.take i)).length ≤ 400 * i := by
  intro i
  induction i with
  | zero => intro _; simp [ndA, nsA, evsL]
  | succ i ih =>
    intro hi
    obtain ⟨h1, h2, h3⟩ := ih (by omega)
    have e : L.take (i + 1) = L.take i ++ [L[i]] := by rw [List.take_append_getElem]
    obtain ⟨k1, k2⟩ := hok.1 L[i] (List.getElem_mem _)
    obtain ⟨-, -, -, h4, h5, -⟩ := evOk_parts k1
    have h64 := hok.2
    have h6 := evL_le _ _ _ k1 k2 h1 (show (nsA [] (L.take i)).length < 1000 by omega)
    have h7 := nmN_len (nsA [] (L.take i)) L[i].nm
    rw [e, ndA_app, nsA_app, evsL_app, List.length_append]
    exact ⟨⟨h4, h5⟩, by omega, by omega⟩
set_option maxRecDepth 100000 in
set_option maxHeartbeats 1000000 in
theorem body_any (W : World) (q : Option Addr) (cap : Nat) (L : List Ev) (hR : Row W W.heap.size q L.length (L.flatMap ec)) (hok : EvsOk L) :
    Calls Tryd.prog 36 #[.slice q L.length cap] W fun e w' => e = .returned (.string ⟨(bodyL L).toArray⟩) ∧ Below W.heap.size W w' := by
  obtain ⟨n, hn⟩ : ∃ n, L.length = n := ⟨_, rfl⟩
  rw [hn] at hR ⊢
  have HR : Hid (Row W W.heap.size q n (L.flatMap ec)) := hR
  have HN : Hid (L.length = n) := hn
  have HOK : Hid (EvsOk L) := hok
  obtain ⟨X, hX⟩ : ∃ X, W.alloc (.cells #[.int .i64 0, .slice none 0 0, .slice none 0 0] 110) = X := ⟨_, rfl⟩
  have hw0 : WrS W.heap.size X W.heap.size 0 [] [] := by
    rw [← hX]
    exact ⟨.slice none 0 0, .slice none 0 0, Nat.le_refl _, Full.new W _ _, ⟨rfl, .inl ⟨rfl, rfl⟩⟩, ⟨rfl, .inl ⟨rfl, rfl⟩⟩⟩
  have HB0 : Hid (Below W.heap.size W X) := by rw [← hX]; exact (Below.refl _ W).alloc (Nat.le_refl _) _
  have HC := wbyte hw0 1 1 rfl (by simp)
  clear hR hn hok hw0
  obtain ⟨P, hP⟩ : ∃ P, W.heap.size = P := ⟨_, rfl⟩
  rw [hP] at HC HB0
  go_enter Tryd.func36, Tryd.ntmps36
  go_wp2_with fail
  refine HC.mono ?_
  rintro e w1 ⟨rfl, hw1⟩
  have HQ1 : Hid (WrS P w1 P 0 [] [1] ∧ Below P W w1) := ⟨hw1.out.1, HB0.out.trans hw1.out.2.1⟩
  clear HC hw1 HB0 hX
  go_wp2_with fail
  go_loopw [9] (fun v wr => ∃ (i : Nat), v = .int .i64 (i : Int) ∧ i ≤ n ∧ Hid (WrS P wr P (ndA 0 (L.take i)) (nsA [] (L.take i)) (1 :: evsL 0 [] (L.take i)) ∧ Below P W wr)) (fun v _ => n - (intOf v).toNat)
  case atStart => exact ⟨0, rfl, Nat.zero_le _, HQ1⟩
  case round =>
    obtain ⟨i, rfl, him, HQ⟩ := hrel
    clear HQ1
    have hn64 : n ≤ 64 := by have := HOK.out.2; rw [HN.out] at this; exact this
    by_cases hlt : i < n
    · have qi : (i : Int) < (n : Int) := by omega
      have q0 : (0 : Int) ≤ (i : Int) := by omega
      obtain ⟨e, he⟩ : ∃ e, L[i]? = some e := ⟨L[i]'(by rw [HN.out]; exact hlt), List.getElem?_eq_getElem _⟩
      obtain ⟨g, o, rfl, hgB, hrg⟩ := HR.out (by omega)
      have cc : ∀ j v, (ec e)[j]? = some v → wr.cell? ⟨g, o + (i * 6 + j), none⟩ = some v := fun j v hv => by
        rw [← hrg (i * 6 + j) v (ec_at L i e he j v hv)]
        exact World.cell?_of_block (w := W) (w' := wr) (a := ⟨g, o + (i * 6 + j), none⟩) (HQ.out.2.block g (by rw [← hP]; exact hgB))
      obtain ⟨k, en, nm, vk, vn, vs⟩ := e
      have c0 := cc 0 _ rfl
      have c1 := cc 1 _ rfl
      have c2 := cc 2 _ rfl
      have c3 := cc 3 _ rfl
      have c4 := cc 4 _ rfl
      have c5 := cc 5 _ rfl
      simp only [← Nat.add_assoc, Nat.add_zero] at c0 c1 c2 c3 c4 c5
      unfold sV at c2 c5
      have hmem : (⟨k, en, nm, vk, vn, vs⟩ : Ev) ∈ L := List.mem_of_getElem? he
      obtain ⟨k1, k2⟩ := HOK.out.1 _ hmem
      obtain ⟨m1, m2, m3⟩ := body_mid L HOK.out i (by rw [HN.out]; exact him)
      obtain ⟨wz, hwz⟩ : ∃ wz, wr.alloc (.cells #[.int .i64 k, .int .i64 en, .string ⟨nm.toArray⟩, .int .i64 vk, .int .i64 vn, .string ⟨vs.toArray⟩] 37) = wz := ⟨_, rfl⟩
      have nb : Below wr.heap.size wr wz := by rw [← hwz]; exact (Below.refl _ wr).alloc (Nat.le_refl _) _
      obtain ⟨z0, z1, z2, z3, z4, z5⟩ : _ ∧ _ ∧ _ ∧ _ ∧ _ ∧ _ := Full.six (show Full wz wr.heap.size 37 [.int .i64 k, .int .i64 en, .string ⟨nm.toArray⟩, .int .i64 vk, .int .i64 vn, .string ⟨vs.toArray⟩] by rw [← hwz]; exact Full.new wr _ _)
      have HC := wevent (HQ.out.1.next nb) k en vk vn ⟨nm.toArray⟩ ⟨vs.toArray⟩ k1 k2 m1 (by omega) (by rw [List.length_cons]; omega)
      have HNX : Hid (∀ w9, WrQ P wz P en (nmN (nsA [] (L.take i)) nm) ((1 :: evsL 0 [] (L.take i)) ++ evL (ndA 0 (L.take i)) (nsA [] (L.take i)) ⟨k, en, nm, vk, vn, vs⟩) w9 → WrS P w9 P (ndA 0 (L.take (i + 1))) (nsA [] (L.take (i + 1))) (1 :: evsL 0 [] (L.take (i + 1))) ∧ Below P W w9) := by
        intro w9 h9
        have e1 : L.take (i + 1) = L.take i ++ [⟨k, en, nm, vk, vn, vs⟩] := by rw [List.take_add_one, he]; rfl
        rw [e1, ndA_app, nsA_app, evsL_app]
        exact ⟨h9.out.1, (HQ.out.2.trans (nb.mono HQ.out.1.size)).trans h9.out.2.1⟩
      clear cc he hrg HQ hmem k1 k2 m1 m2 m3 nb
      go_wp2_with fail
      refine HC.mono ?_
      rintro e w9 ⟨rfl, hw9⟩
      have HK := HNX.out w9 hw9
      have HK2 : Hid (WrS P w9 P (ndA 0 (L.take (i + 1))) (nsA [] (L.take (i + 1))) (1 :: evsL 0 [] (L.take (i + 1))) ∧ Below P W w9) := HK
      clear HC hw9 HK HNX c0 c1 c2 c3 c4 c5 z0 z1 z2 z3 z4 z5 hwz
      go_wp2
      exact ⟨⟨i + 1, by go_num, by omega, HK2⟩, by simp [intOf]; omega⟩
    · obtain rfl : i = n := by omega
      have qi : ¬ (i : Int) < (i : Int) := by omega
      have e1 : L.take i = L := by rw [← HN.out, List.take_length]
      rw [e1] at HQ
      obtain ⟨⟨nv, lv, hw⟩, hb⟩ := HQ.out
      obtain ⟨-, -, c2, -⟩ := hw.box.three
      have hcv := Lx.conv_own hw.laid
      have HB : Hid (Below P W wr) := hb
      clear hw hb HQ hlt him e1
      go_wp2_with fail
      go_ret
      exact ⟨rfl, HB.out⟩
end Go.Proofs.YtdmiciblfbkndaaDoor
