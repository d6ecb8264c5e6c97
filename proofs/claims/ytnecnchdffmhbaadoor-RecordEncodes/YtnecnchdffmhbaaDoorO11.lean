import Derived.Deep.CutBlock
import Derived.Deep.DeepCutAuto
import Derived.Test.YtnecnchdffmhbaaDoorO10
import Derived.Test.YtnecnchdffmhbaaDoorO01
namespace Go.Proofs.YtnecnchdffmhbaaDoor
open Go.RowKit

theorem or_kinds (k vk : Int) (hk : 0 ≤ k ∧ k ≤ 8) (hv : 0 ≤ vk ∧ vk ≤ 4) : bits .or .u8 k (vk * 16) = ((UInt8.ofNat (k.toNat + 16 * vk.toNat)).toNat : Int) := by
  have h : ∀ (a : Fin 9) (b : Fin 5), bits .or .u8 (((a : Nat) : Int)) (((b : Nat) : Int) * 16) = ((UInt8.ofNat ((a : Nat) + 16 * (b : Nat))).toNat : Int) := by decide +kernel
  have h2 := h ⟨k.toNat, by omega⟩ ⟨vk.toNat, by omega⟩
  simp only [Int.toNat_of_nonneg hk.1, Int.toNat_of_nonneg hv.1] at h2
  exact h2
theorem Full.six {W : World} {g : Nat} {t : TypeId} {a b c d e f : Value} (h : Full W g t [a, b, c, d, e, f]) : W.cell? ⟨g, 0, none⟩ = some a ∧ W.cell? ⟨g, 1, none⟩ = some b ∧ W.cell? ⟨g, 2, none⟩ = some c ∧ W.cell? ⟨g, 3, none⟩ = some d ∧ W.cell? ⟨g, 4, none⟩ = some e ∧ W.cell? ⟨g, 5, none⟩ = some f :=
  ⟨(h.cell 0 _ rfl).1, (h.cell 1 _ rfl).1, (h.cell 2 _ rfl).1, (h.cell 3 _ rfl).1, (h.cell 4 _ rfl).1, (h.cell 5 _ rfl).1⟩
theorem rowOf_at (W : World) (n : Int) (k : Nat) (hn : n = (k : Int)) (hk : k < 5) : Calls Tryd.prog 39 #[.int .i64 n] W fun e w' => e = .returned (.tuple #[rowV k, .bool true]) ∧ Below W.heap.size W w' := by
  have h := rowOf_any W n
  rw [if_pos (by omega), decide_eq_true (by omega), hn, Int.toNat_natCast] at h
  rw [hn]
  exact h
theorem callSg (a b : Value) (w : World) : (callFunc 60 #[a, b]).run Tryd.prog w = .ok (.enter 60 #[a, b]) w := by kernel_rfl
/-- Where event stands: the writer, the event, the row. -/
structure EvI (B : Nat) (W : World) (P A R : Nat) (ev row : List Value) (nd : Int) (ns : List (List UInt8)) (l : List UInt8) (w' : World) : Prop where
  q : WrQ B W P nd ns l w'
  e : Full w' A 54 ev
  r : Full w' R 88 row
theorem EvI.step {B : Nat} {W : World} {P A R : Nat} {ev row : List Value} {nd nd' : Int} {ns ns' : List (List UInt8)} {l l' : List UInt8} {a b : World} (h : EvI B W P A R ev row nd ns l a) (k : WrQ B a P nd' ns' l' b) : EvI B W P A R ev row nd' ns' l' b :=
  ⟨h.q.trans k, k.out.2.2 _ _ _ h.e (by decide) (by decide) (by decide), k.out.2.2 _ _ _ h.r (by decide) (by decide) (by decide)⟩
theorem WrQ.node {B : Nat} {W : World} {P : Nat} {nd : Int} {ns : List (List UInt8)} {l : List UInt8} (h : WrS B W P nd ns l) (nd' : Int) : WrQ B W P nd' ns l (W.setCell ⟨P, 0, none⟩ (.int .i64 nd')) := by
  obtain ⟨nv, lv, h⟩ := h
  obtain ⟨h1, h2, h3⟩ := h.node nd'
  exact ⟨⟨nv, lv, h1⟩, h2, h3⟩
theorem WrS.nd {B : Nat} {W : World} {P : Nat} {nd : Int} {ns : List (List UInt8)} {l : List UInt8} (h : WrS B W P nd ns l) : W.cell? ⟨P, 0, none⟩ = some (.int .i64 nd) ∧ W.frozen? ⟨P, 0, none⟩ = false := by
  obtain ⟨nv, lv, h⟩ := h
  exact h.box.three.1
section
variable {B : Nat} {W : World} {P : Nat} {nd : Int} {ns : List (List UInt8)} {l : List UInt8}
set_option maxRecDepth 100000 in
set_option maxHeartbeats 2000000 in
theorem wevent_0 (h : WrS B W P nd ns l) (k n vn : Int) (nm vs : ByteArray) (hok : evOk ⟨k, n, nm.data.toList, 0, vn, vs.data.toList⟩ = true) (hvn : -9223372036854775808 ≤ vn ∧ vn ≤ 9223372036854775807) (hnd : 0 ≤ nd ∧ nd < 40000) (hns : ns.length ≤ 900) (hl : l.length + 2000 ≤ 100000000) :
    Calls Tryd.prog 45 #[.pointer (some ⟨P, 0, none⟩), .agg #[.int .i64 k, .int .i64 n, .string nm, .int .i64 0, .int .i64 vn, .string vs]] W fun e w' => e = .returned (.tuple #[]) ∧ WrQ B W P n (nmN ns nm.data.toList) (l ++ evL nd ns ⟨k, n, nm.data.toList, 0, vn, vs.data.toList⟩) w' := by
  obtain ⟨hv, hk1, hk8, hn0, hn4, hnm⟩ := evOk_parts hok
  simp only at hv hk1 hk8 hn0 hn4 hnm
  have HOR : Hid (bits .or .u8 k 0 = ((UInt8.ofNat (k.toNat + 16 * (0 : Int).toNat)).toNat : Int)) := by
    have hor := or_kinds k 0 ⟨by omega, hk8⟩ (by decide)
    rw [show (0 : Int) * 16 = 0 by decide] at hor
    exact hor
  have hsg := numS_le10 (zz (n - nd)) (zz_lt _ (by omega))
  have hnl : (nmS ns nm.data.toList).length ≤ 40 := by
    unfold nmS
    split
    · have := numS_le10 0 (by decide); omega
    · split
      · rename_i hm
        have hi : ns.idxOf nm.data.toList < ns.length := List.idxOf_lt_length_iff.2 hm
        have := numS_le10 (ns.idxOf nm.data.toList + 1) (by omega)
        omega
      · have := numS_le10 (ns.length + 1) (by omega)
        rw [List.length_append, List.length_cons]
        omega
  have HL : Hid (l.length + 2000 ≤ 100000000 ∧ (sgnS (n - nd)).length ≤ 10 ∧ (nmS ns nm.data.toList).length ≤ 40) := ⟨hl, hsg, hnl⟩
  have HOK : Hid (valOk 0 vn vs.data.toList = true ∧ nm.data.toList.length ≤ 24 ∧ (-9223372036854775808 ≤ vn ∧ vn ≤ 9223372036854775807) ∧ True) := ⟨hv, hnm, hvn, trivial⟩
  have HN : Hid ((0 ≤ nd ∧ nd < 40000) ∧ (0 ≤ n ∧ n < 40000) ∧ ns.length ≤ 900) := ⟨hnd, ⟨hn0, hn4⟩, hns⟩
  have qk0 : 0 ≤ k := by omega
  have qk1 : k < 256 := by omega
  have qd0 : -9223372036854775808 ≤ n - nd := by omega
  have qd1 : n - nd ≤ 9223372036854775807 := by omega
  obtain ⟨X0, hX0⟩ : ∃ X0, W.alloc (.cells #[.int .i64 k, .int .i64 n, .string nm, .int .i64 0, .int .i64 vn, .string vs] 54) = X0 := ⟨_, rfl⟩
  have HQ0 : WrQ B W P nd ns l X0 := by rw [← hX0]; exact WrQ.of h ((Below.refl _ W).alloc (Nat.le_refl _) _)
  have HF0 : Hid (Full X0 W.heap.size 54 [.int .i64 k, .int .i64 n, .string nm, .int .i64 0, .int .i64 vn, .string vs]) := by rw [← hX0]; exact Full.new W _ _
  have HR := rowOf_at X0 0 0 rfl (by decide)
  obtain ⟨A, hA⟩ : ∃ A, W.heap.size = A := ⟨_, rfl⟩
  rw [hA] at HF0
  obtain ⟨e0, e1, e2, e3, e4, e5⟩ := HF0.out.six
  clear h hv hnm hok hsg hnl hl hvn hnd hns hn0 hn4
  go_enter Tryd.func45, Tryd.ntmps45
  go_wp2_with fail
  refine HR.mono ?_
  rintro e w1 ⟨rfl, hb1⟩
  clear HR
  obtain ⟨W2, hW2⟩ : ∃ W2, w1.alloc (.cells #[.func (.func 55) #[] #[], .func (.func 56) #[] #[], .func (.func 57) #[] #[]] 88) = W2 := ⟨_, rfl⟩
  obtain ⟨R, hR⟩ : ∃ R, w1.heap.size = R := ⟨_, rfl⟩
  have HE2 : Hid (EvI B W P A R [.int .i64 k, .int .i64 n, .string nm, .int .i64 0, .int .i64 vn, .string vs] [.func (.func 55) #[] #[], .func (.func 56) #[] #[], .func (.func 57) #[] #[]] nd ns l W2) := by
    have nb : Below w1.heap.size w1 W2 := by rw [← hW2]; exact (Below.refl _ _).alloc (Nat.le_refl _) _
    exact ⟨(HQ0.trans (WrQ.of HQ0.out.1 hb1)).trans (WrQ.of ((HQ0.out.1.next hb1)) nb), (HF0.out.next hb1).next nb, by rw [← hR, ← hW2]; exact Full.new w1 _ _⟩
  clear e0 e1 e2 e3 e4 e5 HF0 HQ0 hb1 hX0
  obtain ⟨e0, e1, e2, e3, e4, e5⟩ := HE2.out.e.six
  have HC := wbyte HE2.out.q.out.1 (UInt8.ofNat (k.toNat + 16 * (0 : Int).toNat)) (bits .or .u8 k 0) HOR.out (by have := HL.out; omega)
  unfold rowV
  go_wp2_with fail
  refine HC.mono ?_
  rintro e w3 ⟨rfl, hw3⟩
  have HE3 : Hid (EvI B W P A R [.int .i64 k, .int .i64 n, .string nm, .int .i64 0, .int .i64 vn, .string vs] [.func (.func 55) #[] #[], .func (.func 56) #[] #[], .func (.func 57) #[] #[]] nd ns (l ++ [UInt8.ofNat (k.toNat + 16 * (0 : Int).toNat)]) w3) := HE2.out.step hw3
  clear HC HE2 hw3 e0 e1 e2 e3 e4 e5 hW2
  obtain ⟨e0, e1, e2, e3, e4, e5⟩ := HE3.out.e.six
  obtain ⟨p0, p1⟩ := HE3.out.q.out.1.nd
  have HE3d : Hid (EvI B W P A R [.int .i64 k, .int .i64 n, .string nm, .int .i64 0, .int .i64 vn, .string vs] [.func (.func 55) #[] #[], .func (.func 56) #[] #[], .func (.func 57) #[] #[]] nd ns (l ++ [UInt8.ofNat (k.toNat + 16 * (0 : Int).toNat)]) w3.drew) := HE3.out.step (WrQ.of HE3.out.q.out.1 (Below.refl _ _).drew)
  have hwr : IntKind.i64.wrap (n - nd) = n - nd := by rw [IntKind.wrap_i64]; omega
  have HC : Calls Tryd.prog 60 #[.pointer (some ⟨P, 0, none⟩), .int .i64 (IntKind.i64.wrap (n - nd))] w3.drew (fun e w' => e = .returned (.tuple #[]) ∧ WrQ B w3.drew P nd ns (l ++ [UInt8.ofNat (k.toNat + 16 * (0 : Int).toNat)] ++ sgnS (n - nd)) w') := by
    rw [hwr]
    exact wsigned HE3d.out.q.out.1 (n - nd) (by have := HN.out; omega) (by have := HL.out; rw [List.length_append, List.length_singleton]; omega)
  clear hwr
  go_upto_region 3 with fail
  go_cut [4] (fun u wx => u = .pointer (some ⟨R, 0, none⟩) ∧ Hid (EvI B W P A R [.int .i64 k, .int .i64 n, .string nm, .int .i64 0, .int .i64 vn, .string vs] [.func (.func 55) #[] #[], .func (.func 56) #[] #[], .func (.func 57) #[] #[]] nd ns (l ++ [UInt8.ofNat (k.toNat + 16 * (0 : Int).toNat)] ++ sgnS (n - nd)) wx))
  case first =>
    go_region_law (first
      | (refine step_call (by rfl) 60 [.tmp 24, .tmp 32] _ [.pointer (some ⟨P, 0, none⟩), .int .i64 (IntKind.i64.wrap (n - nd))] (by rfl) (by rfl) (callSg _ _) (fun v w' => v = .tuple #[] ∧ WrQ B w3.drew P nd ns (l ++ [UInt8.ofNat (k.toNat + 16 * (0 : Int).toNat)] ++ sgnS (n - nd)) w') (HC.mono fun _ _ q => ⟨_, q.1, rfl, q.2⟩) ?_; rintro v5 w4 ⟨rfl, hw4⟩)
      | fail)
    all_goals
      have HE4 := HE3d.out.step hw4
      go_wp2
      go_meet
      case rel => exact ⟨rfl, HE4⟩
  case rest =>
  obtain ⟨rfl, h4⟩ := hcut
  obtain ⟨w4, hw4⟩ : ∃ w4, wc = w4 := ⟨_, rfl⟩
  subst hw4
  have HE4 := h4.out
  have HE4' : Hid (EvI B W P A R [.int .i64 k, .int .i64 n, .string nm, .int .i64 0, .int .i64 vn, .string vs] [.func (.func 55) #[] #[], .func (.func 56) #[] #[], .func (.func 57) #[] #[]] n ns (l ++ [UInt8.ofNat (k.toNat + 16 * (0 : Int).toNat)] ++ sgnS (n - nd)) (wc.setCell ⟨P, 0, none⟩ (.int .i64 n))) := HE4.step (WrQ.node HE4.q.out.1 n)
  obtain ⟨W4, hW4⟩ : ∃ W4, wc.setCell ⟨P, 0, none⟩ (.int .i64 n) = W4 := ⟨_, rfl⟩
  obtain ⟨p0, p1⟩ := HE4.q.out.1.nd
  obtain ⟨e0, e1, e2, e3, e4, e5⟩ := HE4.e.six
  rw [hW4] at HE4'
  obtain ⟨f0, f1, f2, f3, f4, f5⟩ := HE4'.out.e.six
  clear HC HE3 HE3d
  have HC := wname HE4'.out.q.out.1 nm (by have := HOK.out.2.1; rw [Lib.size_eq]; exact this) (by have := HL.out; simp only [List.length_append, List.length_singleton]; omega) HN.out.2.2
  go_wp2_with fail
  refine HC.mono ?_
  rintro e w5 ⟨rfl, hw5⟩
  have HE5 : Hid (EvI B W P A R [.int .i64 k, .int .i64 n, .string nm, .int .i64 0, .int .i64 vn, .string vs] [.func (.func 55) #[] #[], .func (.func 56) #[] #[], .func (.func 57) #[] #[]] n (nmN ns nm.data.toList) (l ++ [UInt8.ofNat (k.toNat + 16 * (0 : Int).toNat)] ++ sgnS (n - nd) ++ nmS ns nm.data.toList) w5) := HE4'.out.step hw5
  clear HC HE4' hw5 e0 e1 e2 e3 e4 e5 f0 f1 f2 f3 f4 f5 p0 p1 hW4
  obtain ⟨e0, e1, e2, e3, e4, e5⟩ := HE5.out.e.six
  obtain ⟨⟨r0, -⟩, ⟨r1, -⟩, r2, -⟩ := HE5.out.r.three
  have HC := lay_none HE5.out.q.out.1 0 vn vs
  go_wp2_with fail
  refine HC.mono ?_
  rintro e w6 ⟨rfl, hw6⟩
  have HK : WrQ B W P n (nmN ns nm.data.toList) (l ++ evL nd ns ⟨k, n, nm.data.toList, 0, vn, vs.data.toList⟩) w6 := by
    have h6 := HE5.out.q.trans hw6
    have e : evL nd ns ⟨k, n, nm.data.toList, 0, vn, vs.data.toList⟩ = UInt8.ofNat (k.toNat + 16 * (0 : Int).toNat) :: (sgnS (n - nd) ++ nmS ns nm.data.toList ++ vlS 0 vn vs.data.toList) := rfl
    rw [e]
    rw [show vlS 0 vn vs.data.toList = [] from rfl, List.append_nil]
    simp only [List.append_assoc, List.cons_append] at h6

    exact h6
  clear HC HE5 hw6 e0 e1 e2 e3 e4 e5 r0 r1 r2
  go_wp2
  go_end0
  exact ⟨rfl, HK⟩
set_option maxRecDepth 100000 in
set_option maxHeartbeats 2000000 in
theorem wevent_1 (h : WrS B W P nd ns l) (k n vn : Int) (nm vs : ByteArray) (hok : evOk ⟨k, n, nm.data.toList, 1, vn, vs.data.toList⟩ = true) (hvn : -9223372036854775808 ≤ vn ∧ vn ≤ 9223372036854775807) (hnd : 0 ≤ nd ∧ nd < 40000) (hns : ns.length ≤ 900) (hl : l.length + 2000 ≤ 100000000) :
    Calls Tryd.prog 45 #[.pointer (some ⟨P, 0, none⟩), .agg #[.int .i64 k, .int .i64 n, .string nm, .int .i64 1, .int .i64 vn, .string vs]] W fun e w' => e = .returned (.tuple #[]) ∧ WrQ B W P n (nmN ns nm.data.toList) (l ++ evL nd ns ⟨k, n, nm.data.toList, 1, vn, vs.data.toList⟩) w' := by
  obtain ⟨hv, hk1, hk8, hn0, hn4, hnm⟩ := evOk_parts hok
  simp only at hv hk1 hk8 hn0 hn4 hnm
  have HOR : Hid (bits .or .u8 k 16 = ((UInt8.ofNat (k.toNat + 16 * (1 : Int).toNat)).toNat : Int)) := by
    have hor := or_kinds k 1 ⟨by omega, hk8⟩ (by decide)
    rw [show (1 : Int) * 16 = 16 by decide] at hor
    exact hor
  have hsg := numS_le10 (zz (n - nd)) (zz_lt _ (by omega))
  have hnl : (nmS ns nm.data.toList).length ≤ 40 := by
    unfold nmS
    split
    · have := numS_le10 0 (by decide); omega
    · split
      · rename_i hm
        have hi : ns.idxOf nm.data.toList < ns.length := List.idxOf_lt_length_iff.2 hm
        have := numS_le10 (ns.idxOf nm.data.toList + 1) (by omega)
        omega
      · have := numS_le10 (ns.length + 1) (by omega)
        rw [List.length_append, List.length_cons]
        omega
  have HL : Hid (l.length + 2000 ≤ 100000000 ∧ (sgnS (n - nd)).length ≤ 10 ∧ (nmS ns nm.data.toList).length ≤ 40) := ⟨hl, hsg, hnl⟩
  have HOK : Hid (valOk 1 vn vs.data.toList = true ∧ nm.data.toList.length ≤ 24 ∧ (-9223372036854775808 ≤ vn ∧ vn ≤ 9223372036854775807) ∧ True) := ⟨hv, hnm, hvn, trivial⟩
  have HN : Hid ((0 ≤ nd ∧ nd < 40000) ∧ (0 ≤ n ∧ n < 40000) ∧ ns.length ≤ 900) := ⟨hnd, ⟨hn0, hn4⟩, hns⟩
  have qk0 : 0 ≤ k := by omega
  have qk1 : k < 256 := by omega
  have qd0 : -9223372036854775808 ≤ n - nd := by omega
  have qd1 : n - nd ≤ 9223372036854775807 := by omega
  obtain ⟨X0, hX0⟩ : ∃ X0, W.alloc (.cells #[.int .i64 k, .int .i64 n, .string nm, .int .i64 1, .int .i64 vn, .string vs] 54) = X0 := ⟨_, rfl⟩
  have HQ0 : WrQ B W P nd ns l X0 := by rw [← hX0]; exact WrQ.of h ((Below.refl _ W).alloc (Nat.le_refl _) _)
  have HF0 : Hid (Full X0 W.heap.size 54 [.int .i64 k, .int .i64 n, .string nm, .int .i64 1, .int .i64 vn, .string vs]) := by rw [← hX0]; exact Full.new W _ _
  have HR := rowOf_at X0 1 1 rfl (by decide)
  obtain ⟨A, hA⟩ : ∃ A, W.heap.size = A := ⟨_, rfl⟩
  rw [hA] at HF0
  obtain ⟨e0, e1, e2, e3, e4, e5⟩ := HF0.out.six
  clear h hv hnm hok hsg hnl hl hvn hnd hns hn0 hn4
  go_enter Tryd.func45, Tryd.ntmps45
  go_wp2_with fail
  refine HR.mono ?_
  rintro e w1 ⟨rfl, hb1⟩
  clear HR
  obtain ⟨W2, hW2⟩ : ∃ W2, w1.alloc (.cells #[.func (.func 58) #[] #[], .func (.func 59) #[] #[], .func (.func 61) #[] #[]] 88) = W2 := ⟨_, rfl⟩
  obtain ⟨R, hR⟩ : ∃ R, w1.heap.size = R := ⟨_, rfl⟩
  have HE2 : Hid (EvI B W P A R [.int .i64 k, .int .i64 n, .string nm, .int .i64 1, .int .i64 vn, .string vs] [.func (.func 58) #[] #[], .func (.func 59) #[] #[], .func (.func 61) #[] #[]] nd ns l W2) := by
    have nb : Below w1.heap.size w1 W2 := by rw [← hW2]; exact (Below.refl _ _).alloc (Nat.le_refl _) _
    exact ⟨(HQ0.trans (WrQ.of HQ0.out.1 hb1)).trans (WrQ.of ((HQ0.out.1.next hb1)) nb), (HF0.out.next hb1).next nb, by rw [← hR, ← hW2]; exact Full.new w1 _ _⟩
  clear e0 e1 e2 e3 e4 e5 HF0 HQ0 hb1 hX0
  obtain ⟨e0, e1, e2, e3, e4, e5⟩ := HE2.out.e.six
  have HC := wbyte HE2.out.q.out.1 (UInt8.ofNat (k.toNat + 16 * (1 : Int).toNat)) (bits .or .u8 k 16) HOR.out (by have := HL.out; omega)
  unfold rowV
  go_wp2_with fail
  refine HC.mono ?_
  rintro e w3 ⟨rfl, hw3⟩
  have HE3 : Hid (EvI B W P A R [.int .i64 k, .int .i64 n, .string nm, .int .i64 1, .int .i64 vn, .string vs] [.func (.func 58) #[] #[], .func (.func 59) #[] #[], .func (.func 61) #[] #[]] nd ns (l ++ [UInt8.ofNat (k.toNat + 16 * (1 : Int).toNat)]) w3) := HE2.out.step hw3
  clear HC HE2 hw3 e0 e1 e2 e3 e4 e5 hW2
  obtain ⟨e0, e1, e2, e3, e4, e5⟩ := HE3.out.e.six
  obtain ⟨p0, p1⟩ := HE3.out.q.out.1.nd
  have HE3d : Hid (EvI B W P A R [.int .i64 k, .int .i64 n, .string nm, .int .i64 1, .int .i64 vn, .string vs] [.func (.func 58) #[] #[], .func (.func 59) #[] #[], .func (.func 61) #[] #[]] nd ns (l ++ [UInt8.ofNat (k.toNat + 16 * (1 : Int).toNat)]) w3.drew) := HE3.out.step (WrQ.of HE3.out.q.out.1 (Below.refl _ _).drew)
  have hwr : IntKind.i64.wrap (n - nd) = n - nd := by rw [IntKind.wrap_i64]; omega
  have HC : Calls Tryd.prog 60 #[.pointer (some ⟨P, 0, none⟩), .int .i64 (IntKind.i64.wrap (n - nd))] w3.drew (fun e w' => e = .returned (.tuple #[]) ∧ WrQ B w3.drew P nd ns (l ++ [UInt8.ofNat (k.toNat + 16 * (1 : Int).toNat)] ++ sgnS (n - nd)) w') := by
    rw [hwr]
    exact wsigned HE3d.out.q.out.1 (n - nd) (by have := HN.out; omega) (by have := HL.out; rw [List.length_append, List.length_singleton]; omega)
  clear hwr
  go_upto_region 3 with fail
  go_cut [4] (fun u wx => u = .pointer (some ⟨R, 0, none⟩) ∧ Hid (EvI B W P A R [.int .i64 k, .int .i64 n, .string nm, .int .i64 1, .int .i64 vn, .string vs] [.func (.func 58) #[] #[], .func (.func 59) #[] #[], .func (.func 61) #[] #[]] nd ns (l ++ [UInt8.ofNat (k.toNat + 16 * (1 : Int).toNat)] ++ sgnS (n - nd)) wx))
  case first =>
    go_region_law (first
      | (refine step_call (by rfl) 60 [.tmp 24, .tmp 32] _ [.pointer (some ⟨P, 0, none⟩), .int .i64 (IntKind.i64.wrap (n - nd))] (by rfl) (by rfl) (callSg _ _) (fun v w' => v = .tuple #[] ∧ WrQ B w3.drew P nd ns (l ++ [UInt8.ofNat (k.toNat + 16 * (1 : Int).toNat)] ++ sgnS (n - nd)) w') (HC.mono fun _ _ q => ⟨_, q.1, rfl, q.2⟩) ?_; rintro v5 w4 ⟨rfl, hw4⟩)
      | fail)
    all_goals
      have HE4 := HE3d.out.step hw4
      go_wp2
      go_meet
      case rel => exact ⟨rfl, HE4⟩
  case rest =>
  obtain ⟨rfl, h4⟩ := hcut
  obtain ⟨w4, hw4⟩ : ∃ w4, wc = w4 := ⟨_, rfl⟩
  subst hw4
  have HE4 := h4.out
  have HE4' : Hid (EvI B W P A R [.int .i64 k, .int .i64 n, .string nm, .int .i64 1, .int .i64 vn, .string vs] [.func (.func 58) #[] #[], .func (.func 59) #[] #[], .func (.func 61) #[] #[]] n ns (l ++ [UInt8.ofNat (k.toNat + 16 * (1 : Int).toNat)] ++ sgnS (n - nd)) (wc.setCell ⟨P, 0, none⟩ (.int .i64 n))) := HE4.step (WrQ.node HE4.q.out.1 n)
  obtain ⟨W4, hW4⟩ : ∃ W4, wc.setCell ⟨P, 0, none⟩ (.int .i64 n) = W4 := ⟨_, rfl⟩
  obtain ⟨p0, p1⟩ := HE4.q.out.1.nd
  obtain ⟨e0, e1, e2, e3, e4, e5⟩ := HE4.e.six
  rw [hW4] at HE4'
  obtain ⟨f0, f1, f2, f3, f4, f5⟩ := HE4'.out.e.six
  clear HC HE3 HE3d
  have HC := wname HE4'.out.q.out.1 nm (by have := HOK.out.2.1; rw [Lib.size_eq]; exact this) (by have := HL.out; simp only [List.length_append, List.length_singleton]; omega) HN.out.2.2
  go_wp2_with fail
  refine HC.mono ?_
  rintro e w5 ⟨rfl, hw5⟩
  have HE5 : Hid (EvI B W P A R [.int .i64 k, .int .i64 n, .string nm, .int .i64 1, .int .i64 vn, .string vs] [.func (.func 58) #[] #[], .func (.func 59) #[] #[], .func (.func 61) #[] #[]] n (nmN ns nm.data.toList) (l ++ [UInt8.ofNat (k.toNat + 16 * (1 : Int).toNat)] ++ sgnS (n - nd) ++ nmS ns nm.data.toList) w5) := HE4'.out.step hw5
  clear HC HE4' hw5 e0 e1 e2 e3 e4 e5 f0 f1 f2 f3 f4 f5 p0 p1 hW4
  obtain ⟨e0, e1, e2, e3, e4, e5⟩ := HE5.out.e.six
  obtain ⟨⟨r0, -⟩, ⟨r1, -⟩, r2, -⟩ := HE5.out.r.three
  have HC := lay_int HE5.out.q.out.1 1 vn vs HOK.out.2.2.1 (by have := HL.out; simp only [List.length_append, List.length_singleton]; omega)
  go_wp2_with fail
  refine HC.mono ?_
  rintro e w6 ⟨rfl, hw6⟩
  have HK : WrQ B W P n (nmN ns nm.data.toList) (l ++ evL nd ns ⟨k, n, nm.data.toList, 1, vn, vs.data.toList⟩) w6 := by
    have h6 := HE5.out.q.trans hw6
    have e : evL nd ns ⟨k, n, nm.data.toList, 1, vn, vs.data.toList⟩ = UInt8.ofNat (k.toNat + 16 * (1 : Int).toNat) :: (sgnS (n - nd) ++ nmS ns nm.data.toList ++ vlS 1 vn vs.data.toList) := rfl
    rw [e]

    simp only [List.append_assoc, List.cons_append] at h6
    simp only [List.append_assoc]
    exact h6
  clear HC HE5 hw6 e0 e1 e2 e3 e4 e5 r0 r1 r2
  go_wp2
  go_end0
  exact ⟨rfl, HK⟩
set_option maxRecDepth 100000 in
set_option maxHeartbeats 2000000 in
theorem wevent_2 (h : WrS B W P nd ns l) (k n vn : Int) (nm vs : ByteArray) (hok : evOk ⟨k, n, nm.data.toList, 2, vn, vs.data.toList⟩ = true) (hvn : -9223372036854775808 ≤ vn ∧ vn ≤ 9223372036854775807) (hnd : 0 ≤ nd ∧ nd < 40000) (hns : ns.length ≤ 900) (hl : l.length + 2000 ≤ 100000000) :
    Calls Tryd.prog 45 #[.pointer (some ⟨P, 0, none⟩), .agg #[.int .i64 k, .int .i64 n, .string nm, .int .i64 2, .int .i64 vn, .string vs]] W fun e w' => e = .returned (.tuple #[]) ∧ WrQ B W P n (nmN ns nm.data.toList) (l ++ evL nd ns ⟨k, n, nm.data.toList, 2, vn, vs.data.toList⟩) w' := by
  obtain ⟨hv, hk1, hk8, hn0, hn4, hnm⟩ := evOk_parts hok
  simp only at hv hk1 hk8 hn0 hn4 hnm
  have HOR : Hid (bits .or .u8 k 32 = ((UInt8.ofNat (k.toNat + 16 * (2 : Int).toNat)).toNat : Int)) := by
    have hor := or_kinds k 2 ⟨by omega, hk8⟩ (by decide)
    rw [show (2 : Int) * 16 = 32 by decide] at hor
    exact hor
  have hsg := numS_le10 (zz (n - nd)) (zz_lt _ (by omega))
  have hnl : (nmS ns nm.data.toList).length ≤ 40 := by
    unfold nmS
    split
    · have := numS_le10 0 (by decide); omega
    · split
      · rename_i hm
        have hi : ns.idxOf nm.data.toList < ns.length := List.idxOf_lt_length_iff.2 hm
        have := numS_le10 (ns.idxOf nm.data.toList + 1) (by omega)
        omega
      · have := numS_le10 (ns.length + 1) (by omega)
        rw [List.length_append, List.length_cons]
        omega
  have HL : Hid (l.length + 2000 ≤ 100000000 ∧ (sgnS (n - nd)).length ≤ 10 ∧ (nmS ns nm.data.toList).length ≤ 40) := ⟨hl, hsg, hnl⟩
  have HOK : Hid (valOk 2 vn vs.data.toList = true ∧ nm.data.toList.length ≤ 24 ∧ (-9223372036854775808 ≤ vn ∧ vn ≤ 9223372036854775807) ∧ (vn = 0 ∨ vn = 1)) := ⟨hv, hnm, hvn, by unfold valOk at hv; simp at hv; exact hv.1⟩
  have HN : Hid ((0 ≤ nd ∧ nd < 40000) ∧ (0 ≤ n ∧ n < 40000) ∧ ns.length ≤ 900) := ⟨hnd, ⟨hn0, hn4⟩, hns⟩
  have qk0 : 0 ≤ k := by omega
  have qk1 : k < 256 := by omega
  have qd0 : -9223372036854775808 ≤ n - nd := by omega
  have qd1 : n - nd ≤ 9223372036854775807 := by omega
  obtain ⟨X0, hX0⟩ : ∃ X0, W.alloc (.cells #[.int .i64 k, .int .i64 n, .string nm, .int .i64 2, .int .i64 vn, .string vs] 54) = X0 := ⟨_, rfl⟩
  have HQ0 : WrQ B W P nd ns l X0 := by rw [← hX0]; exact WrQ.of h ((Below.refl _ W).alloc (Nat.le_refl _) _)
  have HF0 : Hid (Full X0 W.heap.size 54 [.int .i64 k, .int .i64 n, .string nm, .int .i64 2, .int .i64 vn, .string vs]) := by rw [← hX0]; exact Full.new W _ _
  have HR := rowOf_at X0 2 2 rfl (by decide)
  obtain ⟨A, hA⟩ : ∃ A, W.heap.size = A := ⟨_, rfl⟩
  rw [hA] at HF0
  obtain ⟨e0, e1, e2, e3, e4, e5⟩ := HF0.out.six
  clear h hv hnm hok hsg hnl hl hvn hnd hns hn0 hn4
  go_enter Tryd.func45, Tryd.ntmps45
  go_wp2_with fail
  refine HR.mono ?_
  rintro e w1 ⟨rfl, hb1⟩
  clear HR
  obtain ⟨W2, hW2⟩ : ∃ W2, w1.alloc (.cells #[.func (.func 63) #[] #[], .func (.func 64) #[] #[], .func (.func 65) #[] #[]] 88) = W2 := ⟨_, rfl⟩
  obtain ⟨R, hR⟩ : ∃ R, w1.heap.size = R := ⟨_, rfl⟩
  have HE2 : Hid (EvI B W P A R [.int .i64 k, .int .i64 n, .string nm, .int .i64 2, .int .i64 vn, .string vs] [.func (.func 63) #[] #[], .func (.func 64) #[] #[], .func (.func 65) #[] #[]] nd ns l W2) := by
    have nb : Below w1.heap.size w1 W2 := by rw [← hW2]; exact (Below.refl _ _).alloc (Nat.le_refl _) _
    exact ⟨(HQ0.trans (WrQ.of HQ0.out.1 hb1)).trans (WrQ.of ((HQ0.out.1.next hb1)) nb), (HF0.out.next hb1).next nb, by rw [← hR, ← hW2]; exact Full.new w1 _ _⟩
  clear e0 e1 e2 e3 e4 e5 HF0 HQ0 hb1 hX0
  obtain ⟨e0, e1, e2, e3, e4, e5⟩ := HE2.out.e.six
  have HC := wbyte HE2.out.q.out.1 (UInt8.ofNat (k.toNat + 16 * (2 : Int).toNat)) (bits .or .u8 k 32) HOR.out (by have := HL.out; omega)
  unfold rowV
  go_wp2_with fail
  refine HC.mono ?_
  rintro e w3 ⟨rfl, hw3⟩
  have HE3 : Hid (EvI B W P A R [.int .i64 k, .int .i64 n, .string nm, .int .i64 2, .int .i64 vn, .string vs] [.func (.func 63) #[] #[], .func (.func 64) #[] #[], .func (.func 65) #[] #[]] nd ns (l ++ [UInt8.ofNat (k.toNat + 16 * (2 : Int).toNat)]) w3) := HE2.out.step hw3
  clear HC HE2 hw3 e0 e1 e2 e3 e4 e5 hW2
  obtain ⟨e0, e1, e2, e3, e4, e5⟩ := HE3.out.e.six
  obtain ⟨p0, p1⟩ := HE3.out.q.out.1.nd
  have HE3d : Hid (EvI B W P A R [.int .i64 k, .int .i64 n, .string nm, .int .i64 2, .int .i64 vn, .string vs] [.func (.func 63) #[] #[], .func (.func 64) #[] #[], .func (.func 65) #[] #[]] nd ns (l ++ [UInt8.ofNat (k.toNat + 16 * (2 : Int).toNat)]) w3.drew) := HE3.out.step (WrQ.of HE3.out.q.out.1 (Below.refl _ _).drew)
  have hwr : IntKind.i64.wrap (n - nd) = n - nd := by rw [IntKind.wrap_i64]; omega
  have HC : Calls Tryd.prog 60 #[.pointer (some ⟨P, 0, none⟩), .int .i64 (IntKind.i64.wrap (n - nd))] w3.drew (fun e w' => e = .returned (.tuple #[]) ∧ WrQ B w3.drew P nd ns (l ++ [UInt8.ofNat (k.toNat + 16 * (2 : Int).toNat)] ++ sgnS (n - nd)) w') := by
    rw [hwr]
    exact wsigned HE3d.out.q.out.1 (n - nd) (by have := HN.out; omega) (by have := HL.out; rw [List.length_append, List.length_singleton]; omega)
  clear hwr
  go_upto_region 3 with fail
  go_cut [4] (fun u wx => u = .pointer (some ⟨R, 0, none⟩) ∧ Hid (EvI B W P A R [.int .i64 k, .int .i64 n, .string nm, .int .i64 2, .int .i64 vn, .string vs] [.func (.func 63) #[] #[], .func (.func 64) #[] #[], .func (.func 65) #[] #[]] nd ns (l ++ [UInt8.ofNat (k.toNat + 16 * (2 : Int).toNat)] ++ sgnS (n - nd)) wx))
  case first =>
    go_region_law (first
      | (refine step_call (by rfl) 60 [.tmp 24, .tmp 32] _ [.pointer (some ⟨P, 0, none⟩), .int .i64 (IntKind.i64.wrap (n - nd))] (by rfl) (by rfl) (callSg _ _) (fun v w' => v = .tuple #[] ∧ WrQ B w3.drew P nd ns (l ++ [UInt8.ofNat (k.toNat + 16 * (2 : Int).toNat)] ++ sgnS (n - nd)) w') (HC.mono fun _ _ q => ⟨_, q.1, rfl, q.2⟩) ?_; rintro v5 w4 ⟨rfl, hw4⟩)
      | fail)
    all_goals
      have HE4 := HE3d.out.step hw4
      go_wp2
      go_meet
      case rel => exact ⟨rfl, HE4⟩
  case rest =>
  obtain ⟨rfl, h4⟩ := hcut
  obtain ⟨w4, hw4⟩ : ∃ w4, wc = w4 := ⟨_, rfl⟩
  subst hw4
  have HE4 := h4.out
  have HE4' : Hid (EvI B W P A R [.int .i64 k, .int .i64 n, .string nm, .int .i64 2, .int .i64 vn, .string vs] [.func (.func 63) #[] #[], .func (.func 64) #[] #[], .func (.func 65) #[] #[]] n ns (l ++ [UInt8.ofNat (k.toNat + 16 * (2 : Int).toNat)] ++ sgnS (n - nd)) (wc.setCell ⟨P, 0, none⟩ (.int .i64 n))) := HE4.step (WrQ.node HE4.q.out.1 n)
  obtain ⟨W4, hW4⟩ : ∃ W4, wc.setCell ⟨P, 0, none⟩ (.int .i64 n) = W4 := ⟨_, rfl⟩
  obtain ⟨p0, p1⟩ := HE4.q.out.1.nd
  obtain ⟨e0, e1, e2, e3, e4, e5⟩ := HE4.e.six
  rw [hW4] at HE4'
  obtain ⟨f0, f1, f2, f3, f4, f5⟩ := HE4'.out.e.six
  clear HC HE3 HE3d
  have HC := wname HE4'.out.q.out.1 nm (by have := HOK.out.2.1; rw [Lib.size_eq]; exact this) (by have := HL.out; simp only [List.length_append, List.length_singleton]; omega) HN.out.2.2
  go_wp2_with fail
  refine HC.mono ?_
  rintro e w5 ⟨rfl, hw5⟩
  have HE5 : Hid (EvI B W P A R [.int .i64 k, .int .i64 n, .string nm, .int .i64 2, .int .i64 vn, .string vs] [.func (.func 63) #[] #[], .func (.func 64) #[] #[], .func (.func 65) #[] #[]] n (nmN ns nm.data.toList) (l ++ [UInt8.ofNat (k.toNat + 16 * (2 : Int).toNat)] ++ sgnS (n - nd) ++ nmS ns nm.data.toList) w5) := HE4'.out.step hw5
  clear HC HE4' hw5 e0 e1 e2 e3 e4 e5 f0 f1 f2 f3 f4 f5 p0 p1 hW4
  obtain ⟨e0, e1, e2, e3, e4, e5⟩ := HE5.out.e.six
  obtain ⟨⟨r0, -⟩, ⟨r1, -⟩, r2, -⟩ := HE5.out.r.three
  have HC := lay_bool HE5.out.q.out.1 2 vn vs HOK.out.2.2.2 (by have := HL.out; simp only [List.length_append, List.length_singleton]; omega)
  go_wp2_with fail
  refine HC.mono ?_
  rintro e w6 ⟨rfl, hw6⟩
  have HK : WrQ B W P n (nmN ns nm.data.toList) (l ++ evL nd ns ⟨k, n, nm.data.toList, 2, vn, vs.data.toList⟩) w6 := by
    have h6 := HE5.out.q.trans hw6
    have e : evL nd ns ⟨k, n, nm.data.toList, 2, vn, vs.data.toList⟩ = UInt8.ofNat (k.toNat + 16 * (2 : Int).toNat) :: (sgnS (n - nd) ++ nmS ns nm.data.toList ++ vlS 2 vn vs.data.toList) := rfl
    rw [e]

    simp only [List.append_assoc, List.cons_append] at h6
    simp only [List.append_assoc]
    exact h6
  clear HC HE5 hw6 e0 e1 e2 e3 e4 e5 r0 r1 r2
  go_wp2
  go_end0
  exact ⟨rfl, HK⟩
set_option maxRecDepth 100000 in
set_option maxHeartbeats 2000000 in
theorem wevent_3 (h : WrS B W P nd ns l) (k n vn : Int) (nm vs : ByteArray) (hok : evOk ⟨k, n, nm.data.toList, 3, vn, vs.data.toList⟩ = true) (hvn : -9223372036854775808 ≤ vn ∧ vn ≤ 9223372036854775807) (hnd : 0 ≤ nd ∧ nd < 40000) (hns : ns.length ≤ 900) (hl : l.length + 2000 ≤ 100000000) :
    Calls Tryd.prog 45 #[.pointer (some ⟨P, 0, none⟩), .agg #[.int .i64 k, .int .i64 n, .string nm, .int .i64 3, .int .i64 vn, .string vs]] W fun e w' => e = .returned (.tuple #[]) ∧ WrQ B W P n (nmN ns nm.data.toList) (l ++ evL nd ns ⟨k, n, nm.data.toList, 3, vn, vs.data.toList⟩) w' := by
  obtain ⟨hv, hk1, hk8, hn0, hn4, hnm⟩ := evOk_parts hok
  simp only at hv hk1 hk8 hn0 hn4 hnm
  have HOR : Hid (bits .or .u8 k 48 = ((UInt8.ofNat (k.toNat + 16 * (3 : Int).toNat)).toNat : Int)) := by
    have hor := or_kinds k 3 ⟨by omega, hk8⟩ (by decide)
    rw [show (3 : Int) * 16 = 48 by decide] at hor
    exact hor
  have hsg := numS_le10 (zz (n - nd)) (zz_lt _ (by omega))
  have hnl : (nmS ns nm.data.toList).length ≤ 40 := by
    unfold nmS
    split
    · have := numS_le10 0 (by decide); omega
    · split
      · rename_i hm
        have hi : ns.idxOf nm.data.toList < ns.length := List.idxOf_lt_length_iff.2 hm
        have := numS_le10 (ns.idxOf nm.data.toList + 1) (by omega)
        omega
      · have := numS_le10 (ns.length + 1) (by omega)
        rw [List.length_append, List.length_cons]
        omega
  have HL : Hid (l.length + 2000 ≤ 100000000 ∧ (sgnS (n - nd)).length ≤ 10 ∧ (nmS ns nm.data.toList).length ≤ 40) := ⟨hl, hsg, hnl⟩
  have HOK : Hid (valOk 3 vn vs.data.toList = true ∧ nm.data.toList.length ≤ 24 ∧ (-9223372036854775808 ≤ vn ∧ vn ≤ 9223372036854775807) ∧ vs.size ≤ 256) := ⟨hv, hnm, hvn, by unfold valOk at hv; simp at hv; rw [Lib.size_eq]; simpa using hv.2⟩
  have HN : Hid ((0 ≤ nd ∧ nd < 40000) ∧ (0 ≤ n ∧ n < 40000) ∧ ns.length ≤ 900) := ⟨hnd, ⟨hn0, hn4⟩, hns⟩
  have qk0 : 0 ≤ k := by omega
  have qk1 : k < 256 := by omega
  have qd0 : -9223372036854775808 ≤ n - nd := by omega
  have qd1 : n - nd ≤ 9223372036854775807 := by omega
  obtain ⟨X0, hX0⟩ : ∃ X0, W.alloc (.cells #[.int .i64 k, .int .i64 n, .string nm, .int .i64 3, .int .i64 vn, .string vs] 54) = X0 := ⟨_, rfl⟩
  have HQ0 : WrQ B W P nd ns l X0 := by rw [← hX0]; exact WrQ.of h ((Below.refl _ W).alloc (Nat.le_refl _) _)
  have HF0 : Hid (Full X0 W.heap.size 54 [.int .i64 k, .int .i64 n, .string nm, .int .i64 3, .int .i64 vn, .string vs]) := by rw [← hX0]; exact Full.new W _ _
  have HR := rowOf_at X0 3 3 rfl (by decide)
  obtain ⟨A, hA⟩ : ∃ A, W.heap.size = A := ⟨_, rfl⟩
  rw [hA] at HF0
  obtain ⟨e0, e1, e2, e3, e4, e5⟩ := HF0.out.six
  clear h hv hnm hok hsg hnl hl hvn hnd hns hn0 hn4
  go_enter Tryd.func45, Tryd.ntmps45
  go_wp2_with fail
  refine HR.mono ?_
  rintro e w1 ⟨rfl, hb1⟩
  clear HR
  obtain ⟨W2, hW2⟩ : ∃ W2, w1.alloc (.cells #[.func (.func 67) #[] #[], .func (.func 68) #[] #[], .func (.func 71) #[] #[]] 88) = W2 := ⟨_, rfl⟩
  obtain ⟨R, hR⟩ : ∃ R, w1.heap.size = R := ⟨_, rfl⟩
  have HE2 : Hid (EvI B W P A R [.int .i64 k, .int .i64 n, .string nm, .int .i64 3, .int .i64 vn, .string vs] [.func (.func 67) #[] #[], .func (.func 68) #[] #[], .func (.func 71) #[] #[]] nd ns l W2) := by
    have nb : Below w1.heap.size w1 W2 := by rw [← hW2]; exact (Below.refl _ _).alloc (Nat.le_refl _) _
    exact ⟨(HQ0.trans (WrQ.of HQ0.out.1 hb1)).trans (WrQ.of ((HQ0.out.1.next hb1)) nb), (HF0.out.next hb1).next nb, by rw [← hR, ← hW2]; exact Full.new w1 _ _⟩
  clear e0 e1 e2 e3 e4 e5 HF0 HQ0 hb1 hX0
  obtain ⟨e0, e1, e2, e3, e4, e5⟩ := HE2.out.e.six
  have HC := wbyte HE2.out.q.out.1 (UInt8.ofNat (k.toNat + 16 * (3 : Int).toNat)) (bits .or .u8 k 48) HOR.out (by have := HL.out; omega)
  unfold rowV
  go_wp2_with fail
  refine HC.mono ?_
  rintro e w3 ⟨rfl, hw3⟩
  have HE3 : Hid (EvI B W P A R [.int .i64 k, .int .i64 n, .string nm, .int .i64 3, .int .i64 vn, .string vs] [.func (.func 67) #[] #[], .func (.func 68) #[] #[], .func (.func 71) #[] #[]] nd ns (l ++ [UInt8.ofNat (k.toNat + 16 * (3 : Int).toNat)]) w3) := HE2.out.step hw3
  clear HC HE2 hw3 e0 e1 e2 e3 e4 e5 hW2
  obtain ⟨e0, e1, e2, e3, e4, e5⟩ := HE3.out.e.six
  obtain ⟨p0, p1⟩ := HE3.out.q.out.1.nd
  have HE3d : Hid (EvI B W P A R [.int .i64 k, .int .i64 n, .string nm, .int .i64 3, .int .i64 vn, .string vs] [.func (.func 67) #[] #[], .func (.func 68) #[] #[], .func (.func 71) #[] #[]] nd ns (l ++ [UInt8.ofNat (k.toNat + 16 * (3 : Int).toNat)]) w3.drew) := HE3.out.step (WrQ.of HE3.out.q.out.1 (Below.refl _ _).drew)
  have hwr : IntKind.i64.wrap (n - nd) = n - nd := by rw [IntKind.wrap_i64]; omega
  have HC : Calls Tryd.prog 60 #[.pointer (some ⟨P, 0, none⟩), .int .i64 (IntKind.i64.wrap (n - nd))] w3.drew (fun e w' => e = .returned (.tuple #[]) ∧ WrQ B w3.drew P nd ns (l ++ [UInt8.ofNat (k.toNat + 16 * (3 : Int).toNat)] ++ sgnS (n - nd)) w') := by
    rw [hwr]
    exact wsigned HE3d.out.q.out.1 (n - nd) (by have := HN.out; omega) (by have := HL.out; rw [List.length_append, List.length_singleton]; omega)
  clear hwr
  go_upto_region 3 with fail
  go_cut [4] (fun u wx => u = .pointer (some ⟨R, 0, none⟩) ∧ Hid (EvI B W P A R [.int .i64 k, .int .i64 n, .string nm, .int .i64 3, .int .i64 vn, .string vs] [.func (.func 67) #[] #[], .func (.func 68) #[] #[], .func (.func 71) #[] #[]] nd ns (l ++ [UInt8.ofNat (k.toNat + 16 * (3 : Int).toNat)] ++ sgnS (n - nd)) wx))
  case first =>
    go_region_law (first
      | (refine step_call (by rfl) 60 [.tmp 24, .tmp 32] _ [.pointer (some ⟨P, 0, none⟩), .int .i64 (IntKind.i64.wrap (n - nd))] (by rfl) (by rfl) (callSg _ _) (fun v w' => v = .tuple #[] ∧ WrQ B w3.drew P nd ns (l ++ [UInt8.ofNat (k.toNat + 16 * (3 : Int).toNat)] ++ sgnS (n - nd)) w') (HC.mono fun _ _ q => ⟨_, q.1, rfl, q.2⟩) ?_; rintro v5 w4 ⟨rfl, hw4⟩)
      | fail)
    all_goals
      have HE4 := HE3d.out.step hw4
      go_wp2
      go_meet
      case rel => exact ⟨rfl, HE4⟩
  case rest =>
  obtain ⟨rfl, h4⟩ := hcut
  obtain ⟨w4, hw4⟩ : ∃ w4, wc = w4 := ⟨_, rfl⟩
  subst hw4
  have HE4 := h4.out
  have HE4' : Hid (EvI B W P A R [.int .i64 k, .int .i64 n, .string nm, .int .i64 3, .int .i64 vn, .string vs] [.func (.func 67) #[] #[], .func (.func 68) #[] #[], .func (.func 71) #[] #[]] n ns (l ++ [UInt8.ofNat (k.toNat + 16 * (3 : Int).toNat)] ++ sgnS (n - nd)) (wc.setCell ⟨P, 0, none⟩ (.int .i64 n))) := HE4.step (WrQ.node HE4.q.out.1 n)
  obtain ⟨W4, hW4⟩ : ∃ W4, wc.setCell ⟨P, 0, none⟩ (.int .i64 n) = W4 := ⟨_, rfl⟩
  obtain ⟨p0, p1⟩ := HE4.q.out.1.nd
  obtain ⟨e0, e1, e2, e3, e4, e5⟩ := HE4.e.six
  rw [hW4] at HE4'
  obtain ⟨f0, f1, f2, f3, f4, f5⟩ := HE4'.out.e.six
  clear HC HE3 HE3d
  have HC := wname HE4'.out.q.out.1 nm (by have := HOK.out.2.1; rw [Lib.size_eq]; exact this) (by have := HL.out; simp only [List.length_append, List.length_singleton]; omega) HN.out.2.2
  go_wp2_with fail
  refine HC.mono ?_
  rintro e w5 ⟨rfl, hw5⟩
  have HE5 : Hid (EvI B W P A R [.int .i64 k, .int .i64 n, .string nm, .int .i64 3, .int .i64 vn, .string vs] [.func (.func 67) #[] #[], .func (.func 68) #[] #[], .func (.func 71) #[] #[]] n (nmN ns nm.data.toList) (l ++ [UInt8.ofNat (k.toNat + 16 * (3 : Int).toNat)] ++ sgnS (n - nd) ++ nmS ns nm.data.toList) w5) := HE4'.out.step hw5
  clear HC HE4' hw5 e0 e1 e2 e3 e4 e5 f0 f1 f2 f3 f4 f5 p0 p1 hW4
  obtain ⟨e0, e1, e2, e3, e4, e5⟩ := HE5.out.e.six
  obtain ⟨⟨r0, -⟩, ⟨r1, -⟩, r2, -⟩ := HE5.out.r.three
  have HC := lay_text HE5.out.q.out.1 3 vn vs HOK.out.2.2.2 (by have := HL.out; simp only [List.length_append, List.length_singleton]; omega)
  go_wp2_with fail
  refine HC.mono ?_
  rintro e w6 ⟨rfl, hw6⟩
  have HK : WrQ B W P n (nmN ns nm.data.toList) (l ++ evL nd ns ⟨k, n, nm.data.toList, 3, vn, vs.data.toList⟩) w6 := by
    have h6 := HE5.out.q.trans hw6
    have e : evL nd ns ⟨k, n, nm.data.toList, 3, vn, vs.data.toList⟩ = UInt8.ofNat (k.toNat + 16 * (3 : Int).toNat) :: (sgnS (n - nd) ++ nmS ns nm.data.toList ++ vlS 3 vn vs.data.toList) := rfl
    rw [e]

    simp only [List.append_assoc, List.cons_append] at h6
    simp only [List.append_assoc]
    exact h6
  clear HC HE5 hw6 e0 e1 e2 e3 e4 e5 r0 r1 r2
  go_wp2
  go_end0
  exact ⟨rfl, HK⟩
set_option maxRecDepth 100000 in
set_option maxHeartbeats 2000000 in
theorem wevent_4 (h : WrS B W P nd ns l) (k n vn : Int) (nm vs : ByteArray) (hok : evOk ⟨k, n, nm.data.toList, 4, vn, vs.data.toList⟩ = true) (hvn : -9223372036854775808 ≤ vn ∧ vn ≤ 9223372036854775807) (hnd : 0 ≤ nd ∧ nd < 40000) (hns : ns.length ≤ 900) (hl : l.length + 2000 ≤ 100000000) :
    Calls Tryd.prog 45 #[.pointer (some ⟨P, 0, none⟩), .agg #[.int .i64 k, .int .i64 n, .string nm, .int .i64 4, .int .i64 vn, .string vs]] W fun e w' => e = .returned (.tuple #[]) ∧ WrQ B W P n (nmN ns nm.data.toList) (l ++ evL nd ns ⟨k, n, nm.data.toList, 4, vn, vs.data.toList⟩) w' := by
  obtain ⟨hv, hk1, hk8, hn0, hn4, hnm⟩ := evOk_parts hok
  simp only at hv hk1 hk8 hn0 hn4 hnm
  have HOR : Hid (bits .or .u8 k 64 = ((UInt8.ofNat (k.toNat + 16 * (4 : Int).toNat)).toNat : Int)) := by
    have hor := or_kinds k 4 ⟨by omega, hk8⟩ (by decide)
    rw [show (4 : Int) * 16 = 64 by decide] at hor
    exact hor
  have hsg := numS_le10 (zz (n - nd)) (zz_lt _ (by omega))
  have hnl : (nmS ns nm.data.toList).length ≤ 40 := by
    unfold nmS
    split
    · have := numS_le10 0 (by decide); omega
    · split
      · rename_i hm
        have hi : ns.idxOf nm.data.toList < ns.length := List.idxOf_lt_length_iff.2 hm
        have := numS_le10 (ns.idxOf nm.data.toList + 1) (by omega)
        omega
      · have := numS_le10 (ns.length + 1) (by omega)
        rw [List.length_append, List.length_cons]
        omega
  have HL : Hid (l.length + 2000 ≤ 100000000 ∧ (sgnS (n - nd)).length ≤ 10 ∧ (nmS ns nm.data.toList).length ≤ 40) := ⟨hl, hsg, hnl⟩
  have HOK : Hid (valOk 4 vn vs.data.toList = true ∧ nm.data.toList.length ≤ 24 ∧ (-9223372036854775808 ≤ vn ∧ vn ≤ 9223372036854775807) ∧ (0 ≤ vn ∧ vn ≤ 9223372036854775807)) := ⟨hv, hnm, hvn, by unfold valOk at hv; simp at hv; exact ⟨hv.1, hvn.2⟩⟩
  have HN : Hid ((0 ≤ nd ∧ nd < 40000) ∧ (0 ≤ n ∧ n < 40000) ∧ ns.length ≤ 900) := ⟨hnd, ⟨hn0, hn4⟩, hns⟩
  have qk0 : 0 ≤ k := by omega
  have qk1 : k < 256 := by omega
  have qd0 : -9223372036854775808 ≤ n - nd := by omega
  have qd1 : n - nd ≤ 9223372036854775807 := by omega
  obtain ⟨X0, hX0⟩ : ∃ X0, W.alloc (.cells #[.int .i64 k, .int .i64 n, .string nm, .int .i64 4, .int .i64 vn, .string vs] 54) = X0 := ⟨_, rfl⟩
  have HQ0 : WrQ B W P nd ns l X0 := by rw [← hX0]; exact WrQ.of h ((Below.refl _ W).alloc (Nat.le_refl _) _)
  have HF0 : Hid (Full X0 W.heap.size 54 [.int .i64 k, .int .i64 n, .string nm, .int .i64 4, .int .i64 vn, .string vs]) := by rw [← hX0]; exact Full.new W _ _
  have HR := rowOf_at X0 4 4 rfl (by decide)
  obtain ⟨A, hA⟩ : ∃ A, W.heap.size = A := ⟨_, rfl⟩
  rw [hA] at HF0
  obtain ⟨e0, e1, e2, e3, e4, e5⟩ := HF0.out.six
  clear h hv hnm hok hsg hnl hl hvn hnd hns hn0 hn4
  go_enter Tryd.func45, Tryd.ntmps45
  go_wp2_with fail
  refine HR.mono ?_
  rintro e w1 ⟨rfl, hb1⟩
  clear HR
  obtain ⟨W2, hW2⟩ : ∃ W2, w1.alloc (.cells #[.func (.func 74) #[] #[], .func (.func 75) #[] #[], .func (.func 76) #[] #[]] 88) = W2 := ⟨_, rfl⟩
  obtain ⟨R, hR⟩ : ∃ R, w1.heap.size = R := ⟨_, rfl⟩
  have HE2 : Hid (EvI B W P A R [.int .i64 k, .int .i64 n, .string nm, .int .i64 4, .int .i64 vn, .string vs] [.func (.func 74) #[] #[], .func (.func 75) #[] #[], .func (.func 76) #[] #[]] nd ns l W2) := by
    have nb : Below w1.heap.size w1 W2 := by rw [← hW2]; exact (Below.refl _ _).alloc (Nat.le_refl _) _
    exact ⟨(HQ0.trans (WrQ.of HQ0.out.1 hb1)).trans (WrQ.of ((HQ0.out.1.next hb1)) nb), (HF0.out.next hb1).next nb, by rw [← hR, ← hW2]; exact Full.new w1 _ _⟩
  clear e0 e1 e2 e3 e4 e5 HF0 HQ0 hb1 hX0
  obtain ⟨e0, e1, e2, e3, e4, e5⟩ := HE2.out.e.six
  have HC := wbyte HE2.out.q.out.1 (UInt8.ofNat (k.toNat + 16 * (4 : Int).toNat)) (bits .or .u8 k 64) HOR.out (by have := HL.out; omega)
  unfold rowV
  go_wp2_with fail
  refine HC.mono ?_
  rintro e w3 ⟨rfl, hw3⟩
  have HE3 : Hid (EvI B W P A R [.int .i64 k, .int .i64 n, .string nm, .int .i64 4, .int .i64 vn, .string vs] [.func (.func 74) #[] #[], .func (.func 75) #[] #[], .func (.func 76) #[] #[]] nd ns (l ++ [UInt8.ofNat (k.toNat + 16 * (4 : Int).toNat)]) w3) := HE2.out.step hw3
  clear HC HE2 hw3 e0 e1 e2 e3 e4 e5 hW2
  obtain ⟨e0, e1, e2, e3, e4, e5⟩ := HE3.out.e.six
  obtain ⟨p0, p1⟩ := HE3.out.q.out.1.nd
  have HE3d : Hid (EvI B W P A R [.int .i64 k, .int .i64 n, .string nm, .int .i64 4, .int .i64 vn, .string vs] [.func (.func 74) #[] #[], .func (.func 75) #[] #[], .func (.func 76) #[] #[]] nd ns (l ++ [UInt8.ofNat (k.toNat + 16 * (4 : Int).toNat)]) w3.drew) := HE3.out.step (WrQ.of HE3.out.q.out.1 (Below.refl _ _).drew)
  have hwr : IntKind.i64.wrap (n - nd) = n - nd := by rw [IntKind.wrap_i64]; omega
  have HC : Calls Tryd.prog 60 #[.pointer (some ⟨P, 0, none⟩), .int .i64 (IntKind.i64.wrap (n - nd))] w3.drew (fun e w' => e = .returned (.tuple #[]) ∧ WrQ B w3.drew P nd ns (l ++ [UInt8.ofNat (k.toNat + 16 * (4 : Int).toNat)] ++ sgnS (n - nd)) w') := by
    rw [hwr]
    exact wsigned HE3d.out.q.out.1 (n - nd) (by have := HN.out; omega) (by have := HL.out; rw [List.length_append, List.length_singleton]; omega)
  clear hwr
  go_upto_region 3 with fail
  go_cut [4] (fun u wx => u = .pointer (some ⟨R, 0, none⟩) ∧ Hid (EvI B W P A R [.int .i64 k, .int .i64 n, .string nm, .int .i64 4, .int .i64 vn, .string vs] [.func (.func 74) #[] #[], .func (.func 75) #[] #[], .func (.func 76) #[] #[]] nd ns (l ++ [UInt8.ofNat (k.toNat + 16 * (4 : Int).toNat)] ++ sgnS (n - nd)) wx))
  case first =>
    go_region_law (first
      | (refine step_call (by rfl) 60 [.tmp 24, .tmp 32] _ [.pointer (some ⟨P, 0, none⟩), .int .i64 (IntKind.i64.wrap (n - nd))] (by rfl) (by rfl) (callSg _ _) (fun v w' => v = .tuple #[] ∧ WrQ B w3.drew P nd ns (l ++ [UInt8.ofNat (k.toNat + 16 * (4 : Int).toNat)] ++ sgnS (n - nd)) w') (HC.mono fun _ _ q => ⟨_, q.1, rfl, q.2⟩) ?_; rintro v5 w4 ⟨rfl, hw4⟩)
      | fail)
    all_goals
      have HE4 := HE3d.out.step hw4
      go_wp2
      go_meet
      case rel => exact ⟨rfl, HE4⟩
  case rest =>
  obtain ⟨rfl, h4⟩ := hcut
  obtain ⟨w4, hw4⟩ : ∃ w4, wc = w4 := ⟨_, rfl⟩
  subst hw4
  have HE4 := h4.out
  have HE4' : Hid (EvI B W P A R [.int .i64 k, .int .i64 n, .string nm, .int .i64 4, .int .i64 vn, .string vs] [.func (.func 74) #[] #[], .func (.func 75) #[] #[], .func (.func 76) #[] #[]] n ns (l ++ [UInt8.ofNat (k.toNat + 16 * (4 : Int).toNat)] ++ sgnS (n - nd)) (wc.setCell ⟨P, 0, none⟩ (.int .i64 n))) := HE4.step (WrQ.node HE4.q.out.1 n)
  obtain ⟨W4, hW4⟩ : ∃ W4, wc.setCell ⟨P, 0, none⟩ (.int .i64 n) = W4 := ⟨_, rfl⟩
  obtain ⟨p0, p1⟩ := HE4.q.out.1.nd
  obtain ⟨e0, e1, e2, e3, e4, e5⟩ := HE4.e.six
  rw [hW4] at HE4'
  obtain ⟨f0, f1, f2, f3, f4, f5⟩ := HE4'.out.e.six
  clear HC HE3 HE3d
  have HC := wname HE4'.out.q.out.1 nm (by have := HOK.out.2.1; rw [Lib.size_eq]; exact this) (by have := HL.out; simp only [List.length_append, List.length_singleton]; omega) HN.out.2.2
  go_wp2_with fail
  refine HC.mono ?_
  rintro e w5 ⟨rfl, hw5⟩
  have HE5 : Hid (EvI B W P A R [.int .i64 k, .int .i64 n, .string nm, .int .i64 4, .int .i64 vn, .string vs] [.func (.func 74) #[] #[], .func (.func 75) #[] #[], .func (.func 76) #[] #[]] n (nmN ns nm.data.toList) (l ++ [UInt8.ofNat (k.toNat + 16 * (4 : Int).toNat)] ++ sgnS (n - nd) ++ nmS ns nm.data.toList) w5) := HE4'.out.step hw5
  clear HC HE4' hw5 e0 e1 e2 e3 e4 e5 f0 f1 f2 f3 f4 f5 p0 p1 hW4
  obtain ⟨e0, e1, e2, e3, e4, e5⟩ := HE5.out.e.six
  obtain ⟨⟨r0, -⟩, ⟨r1, -⟩, r2, -⟩ := HE5.out.r.three
  have HC := lay_ref HE5.out.q.out.1 4 vn vs HOK.out.2.2.2 (by have := HL.out; simp only [List.length_append, List.length_singleton]; omega)
  go_wp2_with fail
  refine HC.mono ?_
  rintro e w6 ⟨rfl, hw6⟩
  have HK : WrQ B W P n (nmN ns nm.data.toList) (l ++ evL nd ns ⟨k, n, nm.data.toList, 4, vn, vs.data.toList⟩) w6 := by
    have h6 := HE5.out.q.trans hw6
    have e : evL nd ns ⟨k, n, nm.data.toList, 4, vn, vs.data.toList⟩ = UInt8.ofNat (k.toNat + 16 * (4 : Int).toNat) :: (sgnS (n - nd) ++ nmS ns nm.data.toList ++ vlS 4 vn vs.data.toList) := rfl
    rw [e]

    simp only [List.append_assoc, List.cons_append] at h6
    simp only [List.append_assoc]
    exact h6
  clear HC HE5 hw6 e0 e1 e2 e3 e4 e5 r0 r1 r2
  go_wp2
  go_end0
  exact ⟨rfl, HK⟩
theorem wevent (h : WrS B W P nd ns l) (k n vk vn : Int) (nm vs : ByteArray) (hok : evOk ⟨k, n, nm.data.toList, vk, vn, vs.data.toList⟩ = true) (hvn : -9223372036854775808 ≤ vn ∧ vn ≤ 9223372036854775807) (hnd : 0 ≤ nd ∧ nd < 40000) (hns : ns.length ≤ 900) (hl : l.length + 2000 ≤ 100000000) :
    Calls Tryd.prog 45 #[.pointer (some ⟨P, 0, none⟩), .agg #[.int .i64 k, .int .i64 n, .string nm, .int .i64 vk, .int .i64 vn, .string vs]] W fun e w' => e = .returned (.tuple #[]) ∧ WrQ B W P n (nmN ns nm.data.toList) (l ++ evL nd ns ⟨k, n, nm.data.toList, vk, vn, vs.data.toList⟩) w' := by
  obtain ⟨hv, -, -, -, -, -⟩ := evOk_parts hok
  have hk := valOk_kind hv
  simp only at hk
  have hc : vk = 0 ∨ vk = 1 ∨ vk = 2 ∨ vk = 3 ∨ vk = 4 := by omega
  rcases hc with rfl | rfl | rfl | rfl | rfl
  · exact wevent_0 h k n vn nm vs hok hvn hnd hns hl
  · exact wevent_1 h k n vn nm vs hok hvn hnd hns hl
  · exact wevent_2 h k n vn nm vs hok hvn hnd hns hl
  · exact wevent_3 h k n vn nm vs hok hvn hnd hns hl
  · exact wevent_4 h k n vn nm vs hok hvn hnd hns hl
end
end Go.Proofs.YtnecnchdffmhbaaDoor

namespace Go.Proofs.YtnecnchdffmhbaaDoor
open Go.RowKit

/-- An event's cells. -/
def ec (e : Ev) : List Value := [.int .i64 e.k, .int .i64 e.n, sV e.nm, .int .i64 e.vk, .int .i64 e.vn, sV e.vs]
theorem ec_len (e : Ev) : (ec e).length = 6 := rfl
/-- What is known of the events of a body. -/
def EvsOk (L : List Ev) : Prop := (∀ e ∈ L, evOk e = true ∧ (-9223372036854775808 ≤ e.vn ∧ e.vn ≤ 9223372036854775807)) ∧ L.length ≤ 64
theorem ec_at (L : List Ev) (i : Nat) (e : Ev) (hi : L[i]? = some e) (j : Nat) (v : Value) (hv : (ec e)[j]? = some v) : (L.flatMap ec)[i * 6 + j]? = some v := by
  obtain ⟨hl, he⟩ := List.getElem?_eq_some_iff.1 hi
  have hj : j < 6 := by have := (List.getElem?_eq_some_iff.1 hv).1; rw [ec_len] at this; exact this
  rw [flat_at ec 6 ec_len L i j hl hj, he, hv]
theorem evL_le (nd : Int) (ns : List (List UInt8)) (e : Ev) (h : evOk e = true) (hv : -9223372036854775808 ≤ e.vn ∧ e.vn ≤ 9223372036854775807) (hnd : 0 ≤ nd ∧ nd < 40000) (hns : ns.length < 1000) : (evL nd ns e).length ≤ 400 := by
  obtain ⟨hok, hk1, hk8, hn0, hn1, hnm⟩ := evOk_parts h
  have h1 := numS_le10 _ (zz_lt (e.n - nd) (by omega))
  have h3 : (nmS ns e.nm).length ≤ 40 := by
    unfold nmS
    split
    · have := numS_le10 0 (by decide); omega
    · split
      · rename_i hm
        have hi : ns.idxOf e.nm < ns.length := List.idxOf_lt_length_iff.2 hm
        have := numS_le10 (ns.idxOf e.nm + 1) (by omega)
        omega
      · have := numS_le10 (ns.length + 1) (by omega)
        rw [List.length_append, List.length_cons]
        omega
  have h2 : (vlS e.vk e.vn e.vs).length ≤ 266 := by
    have hv3 : e.vk = 3 → e.vs.length ≤ 256 := by
      intro h3
      unfold valOk at hok
      rw [h3] at hok
      simp at hok
      exact hok.2
    unfold vlS
    split
    · have := numS_le10 _ (zz_lt e.vn hv)
      unfold sgnS
      omega
    · split
      · simp
      · split
        · rename_i h3
          have := hv3 h3
          have := numS_le10 e.vs.length (by omega)
          rw [List.length_append]
          omega
        · split
          · have := numS_le10 e.vn.toNat (by omega)
            omega
          · simp
  unfold evL sgnS
  simp only [List.length_cons, List.length_append]
  omega
/-- What stands behind some events of a body. -/
theorem body_mid (L : List Ev) (hok : EvsOk L) : ∀ i, i ≤ L.length → (0 ≤ ndA 0 (L.take i) ∧ ndA 0 (L.take i) < 40000) ∧ (nsA [] (L.take i)).length ≤ i ∧ (evsL 0 [] (L.take i)).length ≤ 400 * i := by
  intro i
  induction i with
  | zero => intro _; simp [ndA, nsA, evsL]
  | succ i ih =>
    intro hi
    obtain ⟨h1, h2, h3⟩ := ih (by omega)
    have e : L.take (i + 1) = L.take i ++ [L[i]] := by rw [List.take_append_getElem]
    obtain ⟨k1, k2⟩ := hok.1 L[i] (List.getElem_mem _)
    obtain ⟨-, -, -, h4, h5, -⟩ := evOk_parts k1
    have h64 := hok.2
    have h6 := evL_le _ _ _ k1 k2 h1 (show (nsA [] (L.take i)).length < 1000 by omega)
    have h7 := nmN_len (nsA [] (L.take i)) L[i].nm
    rw [e, ndA_app, nsA_app, evsL_app, List.length_append]
    exact ⟨⟨h4, h5⟩, by omega, by omega⟩
set_option maxRecDepth 100000 in
set_option maxHeartbeats 1000000 in
theorem body_any (W : World) (q : Option Addr) (cap : Nat) (L : List Ev) (hR : Row W W.heap.size q L.length (L.flatMap ec)) (hok : EvsOk L) :
    Calls Tryd.prog 27 #[.slice q L.length cap] W fun e w' => e = .returned (.string ⟨(bodyL L).toArray⟩) ∧ Below W.heap.size W w' := by
  obtain ⟨n, hn⟩ : ∃ n, L.length = n := ⟨_, rfl⟩
  rw [hn] at hR ⊢
  have HR : Hid (Row W W.heap.size q n (L.flatMap ec)) := hR
  have HN : Hid (L.length = n) := hn
  have HOK : Hid (EvsOk L) := hok
  obtain ⟨X, hX⟩ : ∃ X, W.alloc (.cells #[.int .i64 0, .slice none 0 0, .slice none 0 0] 98) = X := ⟨_, rfl⟩
  have hw0 : WrS W.heap.size X W.heap.size 0 [] [] := by
    rw [← hX]
    exact ⟨.slice none 0 0, .slice none 0 0, Nat.le_refl _, Full.new W _ _, ⟨rfl, .inl ⟨rfl, rfl⟩⟩, ⟨rfl, .inl ⟨rfl, rfl⟩⟩⟩
  have HB0 : Hid (Below W.heap.size W X) := by rw [← hX]; exact (Below.refl _ W).alloc (Nat.le_refl _) _
  have HC := wbyte hw0 1 1 rfl (by simp)
  clear hR hn hok hw0
  obtain ⟨P, hP⟩ : ∃ P, W.heap.size = P := ⟨_, rfl⟩
  rw [hP] at HC HB0
  go_enter Tryd.func27, Tryd.ntmps27
  go_wp2_with fail
  refine HC.mono ?_
  rintro e w1 ⟨rfl, hw1⟩
  have HQ1 : Hid (WrS P w1 P 0 [] [1] ∧ Below P W w1) := ⟨hw1.out.1, HB0.out.trans hw1.out.2.1⟩
  clear HC hw1 HB0 hX
  go_wp2_with fail
  go_loopw [9] (fun v wr => ∃ (i : Nat), v = .int .i64 (i : Int) ∧ i ≤ n ∧ Hid (WrS P wr P (ndA 0 (L.take i)) (nsA [] (L.take i)) (1 :: evsL 0 [] (L.take i)) ∧ Below P W wr)) (fun v _ => n - (intOf v).toNat)
  case atStart => exact ⟨0, rfl, Nat.zero_le _, HQ1⟩
  case round =>
    obtain ⟨i, rfl, him, HQ⟩ := hrel
    clear HQ1
    have hn64 : n ≤ 64 := by have := HOK.out.2; rw [HN.out] at this; exact this
    by_cases hlt : i < n
    · have qi : (i : Int) < (n : Int) := by omega
      have q0 : (0 : Int) ≤ (i : Int) := by omega
      obtain ⟨e, he⟩ : ∃ e, L[i]? = some e := ⟨L[i]'(by rw [HN.out]; exact hlt), List.getElem?_eq_getElem _⟩
      obtain ⟨g, o, rfl, hgB, hrg⟩ := HR.out (by omega)
      have cc : ∀ j v, (ec e)[j]? = some v → wr.cell? ⟨g, o + (i * 6 + j), none⟩ = some v := fun j v hv => by
        rw [← hrg (i * 6 + j) v (ec_at L i e he j v hv)]
        exact World.cell?_of_block (w := W) (w' := wr) (a := ⟨g, o + (i * 6 + j), none⟩) (HQ.out.2.block g (by rw [← hP]; exact hgB))
      obtain ⟨k, en, nm, vk, vn, vs⟩ := e
      have c0 := cc 0 _ rfl
      have c1 := cc 1 _ rfl
      have c2 := cc 2 _ rfl
      have c3 := cc 3 _ rfl
      have c4 := cc 4 _ rfl
      have c5 := cc 5 _ rfl
      simp only [← Nat.add_assoc, Nat.add_zero] at c0 c1 c2 c3 c4 c5
      unfold sV at c2 c5
      have hmem : (⟨k, en, nm, vk, vn, vs⟩ : Ev) ∈ L := List.mem_of_getElem? he
      obtain ⟨k1, k2⟩ := HOK.out.1 _ hmem
      obtain ⟨m1, m2, m3⟩ := body_mid L HOK.out i (by rw [HN.out]; exact him)
      obtain ⟨wz, hwz⟩ : ∃ wz, wr.alloc (.cells #[.int .i64 k, .int .i64 en, .string ⟨nm.toArray⟩, .int .i64 vk, .int .i64 vn, .string ⟨vs.toArray⟩] 54) = wz := ⟨_, rfl⟩
      have nb : Below wr.heap.size wr wz := by rw [← hwz]; exact (Below.refl _ wr).alloc (Nat.le_refl _) _
      obtain ⟨z0, z1, z2, z3, z4, z5⟩ : _ ∧ _ ∧ _ ∧ _ ∧ _ ∧ _ := Full.six (show Full wz wr.heap.size 54 [.int .i64 k, .int .i64 en, .string ⟨nm.toArray⟩, .int .i64 vk, .int .i64 vn, .string ⟨vs.toArray⟩] by rw [← hwz]; exact Full.new wr _ _)
      have HC := wevent (HQ.out.1.next nb) k en vk vn ⟨nm.toArray⟩ ⟨vs.toArray⟩ k1 k2 m1 (by omega) (by rw [List.length_cons]; omega)
      have HNX : Hid (∀ w9, WrQ P wz P en (nmN (nsA [] (L.take i)) nm) ((1 :: evsL 0 [] (L.take i)) ++ evL (ndA 0 (L.take i)) (nsA [] (L.take i)) ⟨k, en, nm, vk, vn, vs⟩) w9 → WrS P w9 P (ndA 0 (L.take (i + 1))) (nsA [] (L.take (i + 1))) (1 :: evsL 0 [] (L.take (i + 1))) ∧ Below P W w9) := by
        intro w9 h9
        have e1 : L.take (i + 1) = L.take i ++ [⟨k, en, nm, vk, vn, vs⟩] := by rw [List.take_add_one, he]; rfl
        rw [e1, ndA_app, nsA_app, evsL_app]
        exact ⟨h9.out.1, (HQ.out.2.trans (nb.mono HQ.out.1.size)).trans h9.out.2.1⟩
      clear cc he hrg HQ hmem k1 k2 m1 m2 m3 nb
      go_wp2_with fail
      refine HC.mono ?_
      rintro e w9 ⟨rfl, hw9⟩
      have HK := HNX.out w9 hw9
      have HK2 : Hid (WrS P w9 P (ndA 0 (L.take (i + 1))) (nsA [] (L.take (i + 1))) (1 :: evsL 0 [] (L.take (i + 1))) ∧ Below P W w9) := HK
      clear HC hw9 HK HNX c0 c1 c2 c3 c4 c5 z0 z1 z2 z3 z4 z5 hwz
      go_wp2
      exact ⟨⟨i + 1, by go_num, by omega, HK2⟩, by simp [intOf]; omega⟩
    · obtain rfl : i = n := by omega
      have qi : ¬ (i : Int) < (i : Int) := by omega
      have e1 : L.take i = L := by rw [← HN.out, List.take_length]
      rw [e1] at HQ
      obtain ⟨⟨nv, lv, hw⟩, hb⟩ := HQ.out
      obtain ⟨-, -, c2, -⟩ := hw.box.three
      have hcv := Lx.conv_own hw.laid
      have HB : Hid (Below P W wr) := hb
      clear hw hb HQ hlt him e1
      go_wp2_with fail
      go_ret
      exact ⟨rfl, HB.out⟩
end Go.Proofs.YtnecnchdffmhbaaDoor

namespace Go.Proofs.YtnecnchdffmhbaaDoor
open Go.RowKit

/-- One byte more in a row of one's own. -/
theorem own_byte {W : World} {B : Nat} {v : Value} {n : Nat} {l : List UInt8} (ho : W.ownsRow B 5 1 v n (Lx.bv l)) (hB : B ≤ W.heap.size) (x : Int) (c : UInt8) (hx : x = (c.toNat : Int)) (hl : n + 1 ≤ 100000000) : ∃ q cp w2,
    (Builtin.append_ #[44, 44] 44 #[v, .slice (some ⟨W.heap.size, 0, none⟩) 1 1]).run Tryd.prog (W.alloc (.cells #[.int .u8 x] 5)) = .ok (.slice q (n + 1) cp) w2 ∧ Hid (w2.ownsRow B 5 1 (.slice q (n + 1) cp) (n + 1) (Lx.bv (l ++ [c])) ∧ Below B W w2) := by
  subst hx
  have bZ : Below W.heap.size W (W.alloc (.cells #[.int .u8 (c.toNat : Int)] 5)) := (Below.refl _ W).alloc (Nat.le_refl _) _
  have oZ := own_next ho bZ
  have fZ : Full (W.alloc (.cells #[.int .u8 (c.toNat : Int)] 5)) W.heap.size 5 [.int .u8 (c.toNat : Int)] := Full.new W _ _
  obtain ⟨lv', w2, r9, o9, g9⟩ := app_any (P := Tryd.prog) 44 44 _ 1 Tryd.underlying44 Lx.info5 rfl (by decide) (by decide) v n _ oZ W.heap.size [.int .u8 (c.toNat : Int)] rfl (by simp [Value.oneCell']) fZ.range (by omega) (Nat.le_trans hB bZ.size)
  obtain ⟨q9, k9, rfl, -, -⟩ := own_slice o9
  exact ⟨q9, k9, w2, r9, by rw [Lx.bv_app]; exact o9, (bZ.mono hB).trans ((Below.refl B _).grown g9 (Nat.le_trans hB bZ.size) (own_ge oZ))⟩
set_option maxRecDepth 100000 in
set_option maxHeartbeats 1000000 in
theorem fixed4 (W : World) (n : Nat) (hn : n < 4294967296) :
    Calls Tryd.prog 42 #[.int .i64 (n : Int), .int .i64 4] W fun e w' => e = .returned (.string ⟨(fxS n 4).toArray⟩) ∧ Below W.heap.size W w' := by
  have q0 : (0 : Int) ≤ (n : Int) := by omega
  go_enter Tryd.func42, Tryd.ntmps42
  go_wp2_with fail
  go_loopw [1, 5] (fun j v wr => ∃ (t : Nat) (q : Option Addr) (cp : Nat), t ≤ 4 ∧ j = .int .i64 (3 - (t : Int)) ∧ v = .slice q t cp ∧ Hid (wr.ownsRow W.heap.size 5 1 (.slice q t cp) t (Lx.bv ((fxS n 4).take t)) ∧ Below W.heap.size W wr)) (fun j _ _ => (intOf j + 1).toNat)
  case atStart => exact ⟨0, none, 0, by omega, by go_num, rfl, ⟨rfl, .inl ⟨rfl, rfl⟩⟩, Below.refl _ _⟩
  case round =>
    obtain ⟨t, q, cp, ht, rfl, rfl, HO⟩ := hrel
    have hc : t = 0 ∨ t = 1 ∨ t = 2 ∨ t = 3 ∨ t = 4 := by omega
    rcases hc with rfl | rfl | rfl | rfl | rfl
    · obtain ⟨q2, cp2, w2, hr, HO2⟩ := own_byte HO.out.1 HO.out.2.size ((n : Int) / 16777216) (UInt8.ofNat (n / 256 ^ 3)) (by rw [UInt8.toNat_ofNat']; omega) (by omega)
      have HO3 : Hid (w2.ownsRow W.heap.size 5 1 (.slice q2 1 cp2) 1 (Lx.bv ((fxS n 4).take 1)) ∧ Below W.heap.size W w2) := ⟨HO2.out.1, HO.out.2.trans HO2.out.2⟩
      clear HO HO2
      go_wp2_with (at_builtin; refine wpList_run rfl _ _ _ _ _ _ _ hr (by rfl) (by rfl) (by rfl) (by rfl) ?_)
      exact ⟨⟨1, q2, cp2, by omega, by go_num, rfl, HO3⟩, by simp [intOf]⟩
    · obtain ⟨q2, cp2, w2, hr, HO2⟩ := own_byte HO.out.1 HO.out.2.size ((n : Int) / 65536 % 256) (UInt8.ofNat (n / 256 ^ 2)) (by rw [UInt8.toNat_ofNat']; omega) (by omega)
      have HO3 : Hid (w2.ownsRow W.heap.size 5 1 (.slice q2 2 cp2) 2 (Lx.bv ((fxS n 4).take 2)) ∧ Below W.heap.size W w2) := ⟨HO2.out.1, HO.out.2.trans HO2.out.2⟩
      clear HO HO2
      go_wp2_with (at_builtin; refine wpList_run rfl _ _ _ _ _ _ _ hr (by rfl) (by rfl) (by rfl) (by rfl) ?_)
      exact ⟨⟨2, q2, cp2, by omega, by go_num, rfl, HO3⟩, by simp [intOf]⟩
    · obtain ⟨q2, cp2, w2, hr, HO2⟩ := own_byte HO.out.1 HO.out.2.size ((n : Int) / 256 % 256) (UInt8.ofNat (n / 256 ^ 1)) (by rw [UInt8.toNat_ofNat']; omega) (by omega)
      have HO3 : Hid (w2.ownsRow W.heap.size 5 1 (.slice q2 3 cp2) 3 (Lx.bv ((fxS n 4).take 3)) ∧ Below W.heap.size W w2) := ⟨HO2.out.1, HO.out.2.trans HO2.out.2⟩
      clear HO HO2
      go_wp2_with (at_builtin; refine wpList_run rfl _ _ _ _ _ _ _ hr (by rfl) (by rfl) (by rfl) (by rfl) ?_)
      exact ⟨⟨3, q2, cp2, by omega, by go_num, rfl, HO3⟩, by simp [intOf]⟩
    · obtain ⟨q2, cp2, w2, hr, HO2⟩ := own_byte HO.out.1 HO.out.2.size ((n : Int) % 256) (UInt8.ofNat (n / 256 ^ 0)) (by rw [UInt8.toNat_ofNat']; omega) (by omega)
      have HO3 : Hid (w2.ownsRow W.heap.size 5 1 (.slice q2 4 cp2) 4 (Lx.bv ((fxS n 4).take 4)) ∧ Below W.heap.size W w2) := ⟨HO2.out.1, HO.out.2.trans HO2.out.2⟩
      clear HO HO2
      go_wp2_with (at_builtin; refine wpList_run rfl _ _ _ _ _ _ _ hr (by rfl) (by rfl) (by rfl) (by rfl) ?_)
      exact ⟨⟨4, q2, cp2, by omega, by go_num, rfl, HO3⟩, by simp [intOf]⟩
    · have hcv := Lx.conv_own HO.out.1
      go_wp2_with fail
      go_ret
      exact ⟨rfl, HO.out.2⟩
set_option maxRecDepth 100000 in
set_option maxHeartbeats 1000000 in
theorem fixed2 (W : World) (n : Nat) (hn : n < 65536) :
    Calls Tryd.prog 42 #[.int .i64 (n : Int), .int .i64 2] W fun e w' => e = .returned (.string ⟨(fxS n 2).toArray⟩) ∧ Below W.heap.size W w' := by
  have q0 : (0 : Int) ≤ (n : Int) := by omega
  go_enter Tryd.func42, Tryd.ntmps42
  go_wp2_with fail
  go_loopw [1, 5] (fun j v wr => ∃ (t : Nat) (q : Option Addr) (cp : Nat), t ≤ 2 ∧ j = .int .i64 (1 - (t : Int)) ∧ v = .slice q t cp ∧ Hid (wr.ownsRow W.heap.size 5 1 (.slice q t cp) t (Lx.bv ((fxS n 2).take t)) ∧ Below W.heap.size W wr)) (fun j _ _ => (intOf j + 1).toNat)
  case atStart => exact ⟨0, none, 0, by omega, by go_num, rfl, ⟨rfl, .inl ⟨rfl, rfl⟩⟩, Below.refl _ _⟩
  case round =>
    obtain ⟨t, q, cp, ht, rfl, rfl, HO⟩ := hrel
    have hc : t = 0 ∨ t = 1 ∨ t = 2 := by omega
    rcases hc with rfl | rfl | rfl
    · obtain ⟨q2, cp2, w2, hr, HO2⟩ := own_byte HO.out.1 HO.out.2.size ((n : Int) / 256) (UInt8.ofNat (n / 256 ^ 1)) (by rw [UInt8.toNat_ofNat']; omega) (by omega)
      have HO3 : Hid (w2.ownsRow W.heap.size 5 1 (.slice q2 1 cp2) 1 (Lx.bv ((fxS n 2).take 1)) ∧ Below W.heap.size W w2) := ⟨HO2.out.1, HO.out.2.trans HO2.out.2⟩
      clear HO HO2
      go_wp2_with (at_builtin; refine wpList_run rfl _ _ _ _ _ _ _ hr (by rfl) (by rfl) (by rfl) (by rfl) ?_)
      exact ⟨⟨1, q2, cp2, by omega, by go_num, rfl, HO3⟩, by simp [intOf]⟩
    · obtain ⟨q2, cp2, w2, hr, HO2⟩ := own_byte HO.out.1 HO.out.2.size ((n : Int) % 256) (UInt8.ofNat (n / 256 ^ 0)) (by rw [UInt8.toNat_ofNat']; omega) (by omega)
      have HO3 : Hid (w2.ownsRow W.heap.size 5 1 (.slice q2 2 cp2) 2 (Lx.bv ((fxS n 2).take 2)) ∧ Below W.heap.size W w2) := ⟨HO2.out.1, HO.out.2.trans HO2.out.2⟩
      clear HO HO2
      go_wp2_with (at_builtin; refine wpList_run rfl _ _ _ _ _ _ _ hr (by rfl) (by rfl) (by rfl) (by rfl) ?_)
      exact ⟨⟨2, q2, cp2, by omega, by go_num, rfl, HO3⟩, by simp [intOf]⟩
    · have hcv := Lx.conv_own HO.out.1
      go_wp2_with fail
      go_ret
      exact ⟨rfl, HO.out.2⟩
end Go.Proofs.YtnecnchdffmhbaaDoor

namespace Go.Proofs.YtnecnchdffmhbaaDoor
open Go.RowKit

/-- The table of sums lies. -/
def SumT (W : World) : Prop := ∀ k, k < 16 → W.cell? ⟨0, k, none⟩ = some (.int .u32 ((crcT.getD k 0#32).toNat : Int))
theorem SumT.next {W W' : World} (h : SumT W) (hb : Below W.heap.size W W') : SumT W' := fun k hk => by
  have := h k hk
  exact (hb.cell (p := ⟨0, k, none⟩) (World.block_lt_of_cell? W _ this)).trans this
theorem xor32 (a b : BitVec 32) : bits .xor .u32 (a.toNat : Int) (b.toNat : Int) = ((a ^^^ b).toNat : Int) := by
  unfold bits
  show IntKind.u32.wrap (((BitVec.ofInt 32 (a.toNat : Int) ^^^ BitVec.ofInt 32 (b.toNat : Int)).toNat : Nat) : Int) = _
  have e : ∀ x : BitVec 32, BitVec.ofInt 32 (x.toNat : Int) = x := fun x => by rw [BitVec.ofInt_natCast, BitVec.ofNat_toNat, BitVec.setWidth_eq]
  rw [e, e, IntKind.wrap_u32]
  have := (a ^^^ b).isLt
  omega
theorem and15_all (a : BitVec 32) : bits .and .u32 (a.toNat : Int) 15 = ((a.toNat % 16 : Nat) : Int) := by
  have h := bits_mask .u32 32 (by decide) wraps_u32 4 (by decide) (a.toNat : Int) (by omega) (by have := a.isLt; omega)
  have e2 : ((2 : Int) ^ 4) = 16 := by decide
  simp only [e2] at h
  rw [show (15 : Int) = 16 - 1 by decide, h]
  omega
/-- Half a byte of the sum. -/
theorem crc_half (r : BitVec 32) : bits .xor .u32 ((r.toNat : Int) / 16) ((crcT.getD (r.toNat % 16) 0#32).toNat : Int) = ((crcN r).toNat : Int) := by
  have e : ((r.toNat : Int) / (16 : Int)) = ((r >>> 4).toNat : Int) := by rw [BitVec.toNat_ushiftRight, Nat.shiftRight_eq_div_pow]; omega
  rw [e, xor32]
  rfl
theorem crcR_next (b : List UInt8) (i : Nat) (c : UInt8) (h : b[i]? = some c) : crcR (b.take (i + 1)) = crcB (crcR (b.take i)) c := by
  unfold crcR
  rw [List.take_add_one, h]
  simp
theorem crcT_lt (k : Nat) : (crcT.getD k 0#32).toNat < 4294967296 := (crcT.getD k 0#32).isLt
/-- One byte of the sum, as the walk meets it. -/
theorem crc_step (W : World) (h : SumT W) (r : BitVec 32) (c : UInt8) : ∃ r1 k1 t1 r2 k2 t2 : Nat, bits .xor .u32 (r.toNat : Int) (c.toNat : Int) = (r1 : Int) ∧ bits .and .u32 (r1 : Int) 15 = (k1 : Int) ∧ k1 < 16 ∧ W.cell? ⟨0, k1, none⟩ = some (.int .u32 (t1 : Int)) ∧ bits .xor .u32 ((r1 : Int) / 16) (t1 : Int) = (r2 : Int) ∧ bits .and .u32 (r2 : Int) 15 = (k2 : Int) ∧ k2 < 16 ∧ W.cell? ⟨0, k2, none⟩ = some (.int .u32 (t2 : Int)) ∧ bits .xor .u32 ((r2 : Int) / 16) (t2 : Int) = ((crcB r c).toNat : Int) ∧ r1 < 4294967296 ∧ r2 < 4294967296 := by
  have e : ((c.toNat : Nat) : Int) = ((BitVec.ofNat 32 c.toNat).toNat : Int) := by
    rw [BitVec.toNat_ofNat]
    have := UInt8.toNat_lt c
    omega
  refine ⟨(r ^^^ BitVec.ofNat 32 c.toNat).toNat, (r ^^^ BitVec.ofNat 32 c.toNat).toNat % 16, (crcT.getD ((r ^^^ BitVec.ofNat 32 c.toNat).toNat % 16) 0#32).toNat, (crcN (r ^^^ BitVec.ofNat 32 c.toNat)).toNat, (crcN (r ^^^ BitVec.ofNat 32 c.toNat)).toNat % 16, (crcT.getD ((crcN (r ^^^ BitVec.ofNat 32 c.toNat)).toNat % 16) 0#32).toNat, ?_, and15_all _, by omega, h _ (by omega), crc_half _, and15_all _, by omega, h _ (by omega), crc_half _, BitVec.isLt _, BitVec.isLt _⟩
  rw [e, xor32]
set_option maxRecDepth 100000 in
set_option maxHeartbeats 1000000 in
theorem sum_any (W : World) (s : ByteArray) (hT : SumT W) (hs : s.size ≤ 140737488355328) :
    Calls Tryd.prog 43 #[.string s] W fun e w' => e = .returned (.int .u32 (sumS s.data.toList : Int)) ∧ w' = W := by
  have HT : Hid (SumT W) := hT
  have hsz : Hid (s.size = s.data.toList.length) := Lib.size_eq s
  have hq : (s.size : Int) ≤ 9223372036854775807 := by omega
  clear hT
  go_enter Tryd.func43, Tryd.ntmps43
  go_wp2_with fail
  go_loopw [3, 7] (fun v ix wr => ∃ (i r : Nat), ix = .int .i64 (i : Int) ∧ i ≤ s.size ∧ wr = W ∧ v = .int .u32 (r : Int) ∧ Hid (r = (crcR (s.data.toList.take i)).toNat)) (fun _ ix _ => s.size - (intOf ix).toNat)
  case atStart => exact ⟨0, 4294967295, rfl, Nat.zero_le _, rfl, rfl, rfl⟩
  case round =>
    obtain ⟨i, r, rfl, hi, rfl, rfl, HRr⟩ := hrel
    have hi0 : (0 : Int) ≤ (i : Int) := by omega
    by_cases hend : i = s.size
    · have HX : Hid (bits BinOp.xor IntKind.u32 IntKind.u32.max (r : Int) = (sumS s.data.toList : Int)) := by
        show bits BinOp.xor IntKind.u32 4294967295 (r : Int) = _
        have h1 := HRr.out
        rw [hend, hsz.out, List.take_length] at h1
        rw [h1]
        exact xor32 (0xffffffff#32) (crcR s.data.toList)
      subst hend
      clear HRr hsz
      go_wp2
      go_ret
      exact ⟨congrArg (fun x => Ending.returned (.int .u32 x)) HX.out, rfl⟩
    · have hlt : i < s.size := by omega
      have hil : (i : Int) < (s.size : Int) := by omega
      obtain ⟨c, hc⟩ : ∃ c, s[i]'hlt = c := ⟨_, rfl⟩
      have hcl : s.data.toList[i]? = some c := by rw [List.getElem?_eq_getElem (by rw [← hsz.out]; exact hlt), ← hc]; rfl
      have hct := UInt8.toNat_lt c
      obtain ⟨r1, k1, t1, r2, k2, t2, e1, e2, b1, c1, e3, e4, b2, c2, e5, b3, b4⟩ := crc_step wr HT.out (crcR (s.data.toList.take i)) c
      rw [← HRr.out] at e1
      obtain ⟨r3, hr3⟩ : ∃ r3, (crcB (crcR (s.data.toList.take i)) c).toNat = r3 := ⟨_, rfl⟩
      rw [hr3] at e5
      have HN : Hid (r3 = (crcR (s.data.toList.take (i + 1))).toNat) := by
        show r3 = _
        rw [crcR_next _ _ _ hcl, hr3]
      have b1i : (k1 : Int) < 16 := by omega
      have b2i : (k2 : Int) < 16 := by omega
      have b1z : (0 : Int) ≤ (k1 : Int) := by omega
      have b2z : (0 : Int) ≤ (k2 : Int) := by omega
      clear hend hcl hr3 HRr HT
      go_wp2
      exact ⟨⟨i + 1, r3, by go_num, by omega, trivial, rfl, HN⟩, by simp [intOf]; omega⟩
end Go.Proofs.YtnecnchdffmhbaaDoor

namespace Go.Proofs.YtnecnchdffmhbaaDoor
open Go.RowKit

theorem cat_list (a b : ByteArray) : (a ++ b).data.toList = a.data.toList ++ b.data.toList := by rw [ByteArray.data_append]; simp
theorem ba_of {s : ByteArray} {l : List UInt8} (h : s.data.toList = l) : s = ⟨l.toArray⟩ := ByteArray.ext (Array.ext' (by rw [h]))
theorem ba_size (l : List UInt8) : (⟨l.toArray⟩ : ByteArray).size = l.length := by rw [Lib.size_eq]
set_option maxRecDepth 100000 in
set_option maxHeartbeats 1000000 in
theorem chunk_any (W : World) (s : ByteArray) (hT : SumT W) (hs : s.size ≤ 1000000000) :
    Calls Tryd.prog 26 #[.string s] W fun e w' => e = .returned (.string ⟨(chS s.data.toList).toArray⟩) ∧ Below W.heap.size W w' := by
  have HT : Hid (SumT W) := hT
  have hsz : Hid (s.size = s.data.toList.length) := Lib.size_eq s
  have HC := fixed4 W s.size (by omega)
  clear hT
  go_enter Tryd.func26, Tryd.ntmps26
  go_wp2_with fail
  refine HC.mono ?_
  rintro e w1 ⟨rfl, hb1⟩
  have hl4 : (⟨(fxS s.size 4).toArray⟩ : ByteArray).size = 4 := by rw [ba_size, fxS_len]
  have hz : (⟨(fxS s.size 4).toArray⟩ : ByteArray).size + s.size ≤ 9223372036854775807 := by omega
  obtain ⟨hd, hhd⟩ : ∃ hd : ByteArray, (⟨(fxS s.size 4).toArray⟩ : ByteArray) = hd := ⟨_, rfl⟩
  rw [hhd] at hl4 hz ⊢
  have hbl : (hd ++ s).size = 4 + s.size := by rw [ByteArray.size_append]; omega
  have HB1 : Hid (Below W.heap.size W w1) := hb1
  have HC2 := sum_any w1 (hd ++ s) (HT.out.next hb1) (by omega)
  have HSL := sumS_lt (hd ++ s).data.toList
  have HC3 := fixed4 w1 (sumS (hd ++ s).data.toList) HSL
  clear HC hb1 hbl
  go_wp2_with fail
  refine HC2.mono ?_
  rintro e w2 ⟨rfl, rfl⟩
  have q1 : (0 : Int) ≤ (sumS (hd ++ s).data.toList : Int) := by omega
  have q2 : (sumS (hd ++ s).data.toList : Int) ≤ 9223372036854775807 := by omega
  obtain ⟨sm, hsm⟩ : ∃ sm, sumS (hd ++ s).data.toList = sm := ⟨_, rfl⟩
  rw [hsm] at HC3 HSL q1 q2 ⊢
  clear HC2
  go_wp2_with fail
  refine HC3.mono ?_
  rintro e w3 ⟨rfl, hb3⟩
  have hl5 : (⟨(fxS sm 4).toArray⟩ : ByteArray).size = 4 := by rw [ba_size, fxS_len]
  have hz2 : (hd ++ s).size + (⟨(fxS sm 4).toArray⟩ : ByteArray).size ≤ 9223372036854775807 := by rw [ByteArray.size_append]; omega
  have HV : Hid ((hd ++ s) ++ (⟨(fxS sm 4).toArray⟩ : ByteArray) = ⟨(chS s.data.toList).toArray⟩) := by
    apply ba_of
    rw [cat_list, cat_list, ← hsm, cat_list, ← hhd]
    unfold chS
    rw [← hsz.out]
  have HB3 : Hid (Below W.heap.size W w3) := below2 HB1.out hb3
  clear HC3 hb3 hhd hsm
  go_wp2
  go_ret
  exact ⟨congrArg (fun x => Ending.returned (.string x)) HV.out, HB3.out⟩

/-- A record's cells. -/
abbrev recC (ph tr : Int) (out : ByteArray) (inp : Int) (q : Option Addr) (n cap : Nat) : Array Value := #[.int .i64 ph, .int .i64 tr, .string out, .int .i64 inp, .slice q n cap]
theorem conv3 (X : World) (a b : Int) (c1 c2 : UInt8) (ha : a = (c1.toNat : Int)) (hb : b = (c2.toNat : Int)) : (convert 44 9 (.slice (some ⟨X.heap.size, 0, none⟩) 3 3)).run Tryd.prog (X.alloc (.cells #[.int .u8 2, .int .u8 a, .int .u8 b] 5)) = .ok (.string ⟨#[2, c1, c2]⟩) (X.alloc (.cells #[.int .u8 2, .int .u8 a, .int .u8 b] 5)) := by
  subst ha hb
  exact Lx.conv_own (base := X.heap.size) (n := 3) (l := [2, c1, c2]) ⟨rfl, Or.inr ⟨X.heap.size, 3, _, rfl, Nat.le_refl _, heap_alloc_new X _, Nat.le_refl _, by unfold maxLen; omega, rfl, rfl⟩⟩
set_option maxRecDepth 100000 in
set_option maxHeartbeats 1000000 in
theorem last_any (W : World) (ph tr : Int) (out : ByteArray) (inp : Int) (q : Option Addr) (n cap : Nat) (evs : List Ev) (hn : evs.length = n) (h4 : n < 4294967296) (he : endOk ph tr inp = true) (hs : out.size ≤ 1000000000) :
    Calls Tryd.prog 28 #[.agg (recC ph tr out inp q n cap)] W fun e w' => e = .returned (.string ⟨(lastL ⟨ph, tr, out.data.toList, inp, evs⟩).toArray⟩) ∧ Below W.heap.size W w' := by
  unfold recC
  have hep : (0 ≤ ph ∧ ph ≤ 2) ∧ (0 ≤ tr ∧ tr ≤ 7) ∧ 0 ≤ inp ∧ inp ≤ 1000 := by
    unfold endOk at he
    simp only [Bool.and_eq_true, Bool.or_eq_true, decide_eq_true_eq, beq_iff_eq] at he
    omega
  obtain ⟨h1, h2, h3⟩ := hep
  have hcv := conv3 (W.alloc (.cells #[.int .i64 ph, .int .i64 tr, .string out, .int .i64 inp, .slice q n cap] 28)) (ph % 256) (tr % 256) (UInt8.ofNat ph.toNat) (UInt8.ofNat tr.toNat) (by rw [UInt8.toNat_ofNat']; omega) (by rw [UInt8.toNat_ofNat']; omega)
  obtain ⟨X2, hX2⟩ : ∃ X2, (W.alloc (.cells #[.int .i64 ph, .int .i64 tr, .string out, .int .i64 inp, .slice q n cap] 28)).alloc (.cells #[.int .u8 2, .int .u8 (ph % 256), .int .u8 (tr % 256)] 5) = X2 := ⟨_, rfl⟩
  have f1 : Full X2 W.heap.size 28 [.int .i64 ph, .int .i64 tr, .string out, .int .i64 inp, .slice q n cap] := by
    rw [← hX2]
    exact (Full.new W #[.int .i64 ph, .int .i64 tr, .string out, .int .i64 inp, .slice q n cap] 28).next ((Below.refl _ _).alloc (Nat.le_refl _) _)
  have HB2 : Hid (Below W.heap.size W X2) := by rw [← hX2]; exact ((Below.refl _ W).alloc (Nat.le_refl _) _).alloc (by simp) _
  rw [World.size_alloc, hX2] at hcv
  obtain ⟨s2, hs2⟩ : ∃ s2 : ByteArray, (⟨(fxS inp.toNat 2).toArray⟩ : ByteArray) = s2 := ⟨_, rfl⟩
  obtain ⟨s4, hs4⟩ : ∃ s4 : ByteArray, (⟨(fxS n 4).toArray⟩ : ByteArray) = s4 := ⟨_, rfl⟩
  obtain ⟨hd, hhd⟩ : ∃ hd : ByteArray, (⟨#[2, UInt8.ofNat ph.toNat, UInt8.ofNat tr.toNat]⟩ : ByteArray) = hd := ⟨_, rfl⟩
  have z2 : s2.size = 2 := by rw [← hs2, ba_size, fxS_len]
  have z4 : s4.size = 4 := by rw [← hs4, ba_size, fxS_len]
  have zh : hd.size = 3 := by rw [← hhd]; rfl
  rw [hhd] at hcv
  have p1 : ∀ d os, Calls Tryd.prog 42 #[.int .i64 inp, .int .i64 2] (Sort.grow (redrawn X2 d) os) fun e w'' => e = .returned (.string s2) ∧ ∃ p : Regrown, w'' = Sort.grow (redrawn X2 p.d) p.os := fun d os => by
    have h := fixed2 (Sort.grow (redrawn X2 d) os) inp.toNat (by omega)
    rw [Int.toNat_of_nonneg h3.1, hs2] at h
    exact Calls.regrown_of h
  have p2 : ∀ d os, Calls Tryd.prog 42 #[.int .i64 (n : Int), .int .i64 4] (Sort.grow (redrawn X2 d) os) fun e w'' => e = .returned (.string s4) ∧ ∃ p : Regrown, w'' = Sort.grow (redrawn X2 p.d) p.os := fun d os => by
    have h := fixed4 (Sort.grow (redrawn X2 d) os) n h4
    rw [hs4] at h
    exact Calls.regrown_of h
  have y1 : hd.size + s2.size ≤ 9223372036854775807 := by omega
  have y2 : (hd ++ s2).size + s4.size ≤ 9223372036854775807 := by rw [ByteArray.size_append]; omega
  have y3 : (hd ++ s2 ++ s4).size + out.size ≤ 9223372036854775807 := by rw [ByteArray.size_append, ByteArray.size_append]; omega
  have HV : Hid (hd ++ s2 ++ s4 ++ out = ⟨(lastL ⟨ph, tr, out.data.toList, inp, evs⟩).toArray⟩) := by
    apply ba_of
    rw [cat_list, cat_list, cat_list, ← hhd, ← hs2, ← hs4]
    unfold lastL
    simp only [hn]
  have i2 := cell_regrown (f1.cell 2 _ rfl).1
  have i3 := cell_regrown (f1.cell 3 _ rfl).1
  have i4 := cell_regrown (f1.cell 4 _ rfl).1
  clear he h1 h2 h3 hn h4 f1 hs2 hs4 hhd z2 z4 zh
  go_enter Tryd.func28, Tryd.ntmps28
  go_upto_region 2 with fail
  refine wp_region_quiet_below (by kernel_rfl) (by kernel_rfl) ?_
  repeat (first | go_big_quiet_step (first | with_reducible exact p1 _ _ | with_reducible exact p2 _ _) | quiet_step (first | with_reducible exact p1 _ _ | with_reducible exact p2 _ _))
  refine wpQuiet_nil ?_
  intro _ hw'
  obtain ⟨⟨dq, osq⟩, hw''⟩ := hw'
  subst hw''
  have hY := below_regrown X2 dq osq
  first | (change Exit.then _ _ Exit.normal _ (Sort.grow (redrawn X2 dq) osq)) | skip
  generalize Sort.grow (redrawn X2 dq) osq = Y8 at hY ⊢
  clear p1 p2 i2 i3 i4
  go_wp2
  go_ret
  exact ⟨congrArg (fun x => Ending.returned (.string x)) HV.out, HB2.out.trans (hY.mono HB2.out.size)⟩
/-- An outcome may be. -/
def outOk (ph tr : Int) : Bool := (decide (ph = 0 ∨ ph = 1) && tr == 0) || (ph == 2 && decide (1 ≤ tr) && decide (tr ≤ 7))
set_option maxRecDepth 100000 in
theorem outcome_any (W : World) (ph tr : Int) :
    Calls Tryd.prog 38 #[.agg #[.int .i64 ph, .int .i64 tr]] W fun e w' => e = .returned (.bool (outOk ph tr)) ∧ Below W.heap.size W w' := by
  go_enter Tryd.func38, Tryd.ntmps38
  go_wp2_with fail
  all_goals
    go_ret
    refine ⟨congrArg (fun b => Ending.returned (.bool b)) ?_, (Below.refl _ W).alloc (Nat.le_refl _) _⟩
    unfold outOk
    rw [Bool.eq_iff_iff]
    simp_all
    try omega
end Go.Proofs.YtnecnchdffmhbaaDoor
