import Derived.Test.YtljhobjgofhldaaDoordDs
namespace Go.Proofs.YtljhobjgofhldaaDoor
open Go.RowKit
theorem shL_len {v : V} (hv : vIn v) : (shL v).length ≤ 10000 := by
  have := show_size v.1 v.2.1 v.2.2 hv.1
  unfold shL
  rw [Array.length_toList]
  exact this
theorem jp_len {f : V → List UInt8} {l : List V} {m : Nat} : ∀ i : Nat, (∀ j, j < i → (f (l.getD j (0, 0, e0))).length ≤ m) → (jp f l i).length ≤ i * (m + 2)
  | 0, _ => Nat.zero_le _
  | i + 1, h => by
    have h1 := jp_len i fun j hj => h j (by omega)
    have h2 := h i (by omega)
    unfold jp
    rw [List.length_append, List.length_append, Nat.succ_mul]
    have h3 : (if 0 < i then ([44, 32] : List UInt8) else []).length ≤ 2 := by split <;> simp
    omega
/-- All that is known where show stands. -/
structure ShW (w : World) (B b : Nat) (q : Option Addr) (Ls : List (List V)) (l : List UInt8) : Prop where
  a : ArrAt w B q Ls
  i : IsB B b l w
  s : B ≤ w.heap.size
  t : Tab10 w
  b3 : 3 ≤ B
theorem ShW.next {w w' : World} {B b : Nat} {q : Option Addr} {Ls : List (List V)} {l : List UInt8} (h : ShW w B b q Ls l) (hb : Below w.heap.size w w') : ShW w' B b q Ls l :=
  ⟨h.a.below (hb.mono h.s), h.i.next hb, Nat.le_trans h.s hb.size, h.t.next hb, h.b3⟩
theorem ShW.more {w w' : World} {B b : Nat} {q : Option Addr} {Ls : List (List V)} {l l' : List UInt8} (h : ShW w B b q Ls l) (hi : IsB B b l' w') (hb : Below B w w') : ShW w' B b q Ls l' :=
  ⟨h.a.below hb, hi, Nat.le_trans h.s hb.size, h.t.nextB hb h.b3, h.b3⟩
set_option maxRecDepth 100000 in
set_option maxHeartbeats 1000000 in
/-- A reference that is none, or no depth: Show alone. -/
theorem show_plain {B b : Nat} {q : Option Addr} {cq : Nat} {Ls : List (List V)} {l : List UInt8} {v : V} {dp : Int} {w : World} (h : ShW w B b q Ls l) (hv : vIn v) (hl : l.length ≤ 100000000000000) (hd : dp < 1 ∨ hasS Ls.length v = false) :
    Calls Tryd.prog 10 #[.slice q Ls.length cq, .pointer (some ⟨b, 0, none⟩), .agg #[.int .i64 v.1, .int .i64 v.2.1, .string v.2.2], .int .i64 dp] w fun e w' => (∃ r, e = .returned r) ∧ Hid (ShW w' B b q Ls (l ++ shL v) ∧ Below B w w') := by
  obtain ⟨k, n, s⟩ := v
  have B1 : Below w.heap.size w (w.alloc (.cells #[.int .i64 k, .int .i64 n, .string s] 26)) := (Below.refl _ w).alloc (Nat.le_refl _) _
  have HX : Hid (ShW (w.alloc (.cells #[.int .i64 k, .int .i64 n, .string s] 26)) B b q Ls l) := h.next B1
  have HB1 : Hid (Below B w (w.alloc (.cells #[.int .i64 k, .int .i64 n, .string s] 26))) := B1.mono h.s
  have HM : Hid (Box3 (w.alloc (.cells #[.int .i64 k, .int .i64 n, .string s] 26)) w.heap.size k n s) := Box3.new w k n s 26
  have HSZ : Hid (w.heap.size < (w.alloc (.cells #[.int .i64 k, .int .i64 n, .string s] 26)).heap.size) := by show w.heap.size < _; simp
  obtain ⟨⟨⟨x0, f0⟩, ⟨x1, f1⟩⟩, x2, f2⟩ := HM.out
  have hz : (showS k n s).size ≤ 10000 := show_size k n s hv.1
  obtain ⟨Z, hZ⟩ : ∃ Z, showS k n s = Z := ⟨_, rfl⟩
  have dV : ∀ W, Tab10 W → Calls Tryd.prog 17 #[.agg #[.int .i64 k, .int .i64 n, .string s]] W fun e w' => e = .returned (.string Z) ∧ Below W.heap.size W w' := fun W t => by rw [← hZ]; exact show_any k n s W hv.2 hv.1 t
  have HSH : Hid (shL (k, n, s) = Z.data.toList) := by show (showS k n s).data.toList = _; rw [hZ]
  rw [hZ] at hz
  clear hZ B1 h f0 f1 f2
  by_cases hd1 : dp < 1
  · go_enter Tryd.func10, Tryd.ntmps10
    go_wp2_with (first
      | (go_at_call 17; (with_reducible refine (dV _ HX.out.t).mono ?_); rintro z1 w1 ⟨rfl, hb1⟩; have HX1 : Hid (ShW w1 B b q Ls l) := HX.out.next hb1; have HB2 : Hid (Below B w w1) := HB1.out.trans (hb1.mono HX.out.s); have dW := bw_any Z HX1.out.i (by omega) HX1.out.s; clear hb1)
      | (go_at_call 16; (with_reducible refine dW.mono ?_); rintro z2 w2 ⟨⟨r, rfl⟩, H2⟩; clear dW)
      | fail)
    refine bodyPost_ret (v := .tuple #[]) (by simp [results, Tryd.results10, go_sem]) rfl ?_
    exact ⟨⟨_, rfl⟩, ⟨by rw [HSH.out]; exact HX1.out.more H2.out.1 H2.out.2.1, HB2.out.trans H2.out.2.1⟩⟩
  · have hh : hasS Ls.length (k, n, s) = false := by
      rcases hd with h' | h'
      · exact absurd h' hd1
      · exact h'
    have dH : ∀ W, Calls Tryd.prog 15 #[.slice q Ls.length cq, .agg #[.int .i64 k, .int .i64 n, .string s]] W fun e w' => e = .returned (.bool false) ∧ Below W.heap.size W w' := fun W => by rw [← hh]; exact has_any q Ls.length cq (k, n, s) W hv
    clear hd hh
    go_enter Tryd.func10, Tryd.ntmps10
    go_wp2_with (first
      | (go_at_call 15; (with_reducible refine (dH _).mono ?_); rintro z0 w0 ⟨rfl, hb0⟩; have HX0 : Hid (ShW w0 B b q Ls l) := HX.out.next hb0; have HB0 : Hid (Below B w w0) := HB1.out.trans (hb0.mono HX.out.s); obtain ⟨⟨⟨y0, -⟩, ⟨y1, -⟩⟩, y2, -⟩ := HM.out.below hb0 HSZ.out; clear hb0 x0 x1 x2)
      | (go_at_call 17; (with_reducible refine (dV _ HX0.out.t).mono ?_); rintro z1 w1 ⟨rfl, hb1⟩; have HX1 : Hid (ShW w1 B b q Ls l) := HX0.out.next hb1; have HB2 : Hid (Below B w w1) := HB0.out.trans (hb1.mono HX0.out.s); have dW := bw_any Z HX1.out.i (by omega) HX1.out.s; clear hb1)
      | (go_at_call 16; (with_reducible refine dW.mono ?_); rintro z2 w2 ⟨⟨r, rfl⟩, H2⟩; clear dW)
      | fail)
    refine bodyPost_ret (v := .tuple #[]) (by simp [results, Tryd.results10, go_sem]) rfl ?_
    exact ⟨⟨_, rfl⟩, ⟨by rw [HSH.out]; exact HX1.out.more H2.out.1 H2.out.2.1, HB2.out.trans H2.out.2.1⟩⟩
end Go.Proofs.YtljhobjgofhldaaDoor
