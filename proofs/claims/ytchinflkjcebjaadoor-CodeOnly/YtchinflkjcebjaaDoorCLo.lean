import Derived.Test.YtchinflkjcebjaaDoorCTc
import Derived.Test.YtchinflkjcebjaaDoorCX1
namespace Go.Proofs.YtchinflkjcebjaaDoor
open Go.RowKit

theorem ok_small {c : Cd} (h : CodeOk c) : Small c :=
  ⟨h.el, h.il, h.tl, fun e he => by
    have k := ent_ok.1 (h.es e he)
    have := (name_len k.nm).2
    have e1 : e.name.size = e.name.data.toList.length := (Array.length_toList (xs := e.name.data)).symm
    exact ⟨by omega, k.sl⟩, fun t ht => Nat.le_trans (h.ts t ht) (by decide)⟩
theorem cz_small : Small cz := ⟨by decide, by decide, by decide, (fun _ h => by cases h), (fun _ h => by cases h)⟩
/-- What Decode and Assemble answer, told by cases. -/
theorem dec_cases (s : ByteArray) : (decE s.data.toList = 0 ∧ validS (decC s.data.toList) = 0 ∧ YtchinflkjcebjaaDoor.bk (encS (decC s.data.toList)) = s) ∨ decE s.data.toList = 130 := by
  cases h : decS s.data.toList with
  | none => exact .inr (by unfold decE; rw [h]; rfl)
  | some c =>
    obtain ⟨h1, h2⟩ := enc_dec h
    have hc : decC s.data.toList = c := by unfold decC; rw [h]; rfl
    refine .inl ⟨by unfold decE; rw [h]; rfl, ?_, ?_⟩
    · rw [hc]; exact h2
    · rw [hc, h1]; exact bk_all s
theorem asm_cases (l : Bs) : (asmE l = 0 ∧ asmN l = 0 ∧ validS (asmC l) = 0 ∧ Small (asmC l) ∧ asmS l = .inl (asmC l)) ∨ (asmE l = 131 ∧ 1 ≤ asmN l ∧ Small (asmC l) ∧ ∃ n : Nat, asmN l = (n : Int) ∧ asmS l = .inr n) := by
  cases h : asmS l with
  | inl c =>
    have hk := asm_only h
    have hc : asmC l = c := by unfold asmC; rw [h]
    refine .inl ⟨by unfold asmE; rw [h], by unfold asmN; rw [h], ?_, ?_, by rw [hc]⟩
    · rw [hc]; exact code_ok.2 hk
    · rw [hc]; exact ok_small hk
  | inr n =>
    have hk := asm_pos h
    have hc : asmC l = cz := by unfold asmC; rw [h]
    have hn : asmN l = (n : Int) := by unfold asmN; rw [h]
    refine .inr ⟨by unfold asmE; rw [h], by rw [hn]; omega, by rw [hc]; exact cz_small, n, hn, rfl⟩
abbrev aggC (iq eq tq : Option Addr) (ia ea ta : Nat) (c : Cd) : Value := .agg #[.slice iq c.ins.length ia, .slice eq c.ens.length ea, .slice tq c.txs.length ta, .int .i64 c.main]
/-- A code in a box. -/
structure Bx (W : World) (p : Nat) (iq eq tq : Option Addr) (ia ea ta : Nat) (c : Cd) : Prop where
  b : W.heap[p]? = some (.cells #[.slice iq c.ins.length ia, .slice eq c.ens.length ea, .slice tq c.txs.length ta, .int .i64 c.main] 26)
  m : ∃ Es, CodeM W W.heap.size iq eq tq Es c
theorem Bx.next {W W' : World} {p : Nat} {iq eq tq : Option Addr} {ia ea ta : Nat} {c : Cd} (h : Bx W p iq eq tq ia ea ta c) (k : Below W.heap.size W W') : Bx W' p iq eq tq ia ea ta c := by
  obtain ⟨hb, Es, hm⟩ := h
  exact ⟨(k.block _ (Array.getElem?_eq_some_iff.1 hb).1).trans hb, Es, (hm.below k (Nat.le_refl _)).up k.size⟩
theorem Bx.new {W : World} {iq eq tq : Option Addr} (ia ea ta : Nat) {c : Cd} (h : ∃ Es, CodeM W W.heap.size iq eq tq Es c) : Bx (W.alloc (.cells #[.slice iq c.ins.length ia, .slice eq c.ens.length ea, .slice tq c.txs.length ta, .int .i64 c.main] 26)) W.heap.size iq eq tq ia ea ta c := by
  obtain ⟨Es, h⟩ := h
  exact ⟨World.alloc_heap_new W _, Es, (h.below ((Below.refl _ W).alloc (Nat.le_refl _) _) (Nat.le_refl _)).up (by simp)⟩
theorem Bx.cs {W : World} {p : Nat} {iq eq tq : Option Addr} {ia ea ta : Nat} {c : Cd} (h : Bx W p iq eq tq ia ea ta c) : W.cell? ⟨p, 0, none⟩ = some (.slice iq c.ins.length ia) ∧ W.cell? ⟨p, 1, none⟩ = some (.slice eq c.ens.length ea) ∧ W.cell? ⟨p, 2, none⟩ = some (.slice tq c.txs.length ta) ∧ W.cell? ⟨p, 3, none⟩ = some (.int .i64 c.main) :=
  ⟨(blk_cell h.b 0 _ rfl).1, (blk_cell h.b 1 _ rfl).1, (blk_cell h.b 2 _ rfl).1, (blk_cell h.b 3 _ rfl).1⟩
/-- What the calls say of a text s: c, E decoded; d, A, N assembled. -/
structure Ko (w : World) (s : ByteArray) (c d : Cd) (E A N : Int) : Prop where
  de : Calls Tryd.prog 9 #[.string s] w fun e w' => ∃ iq ia eq ea tq ta, e = .returned (.tuple #[aggC iq eq tq ia ea ta c, .int .i64 E]) ∧ Hid ((∃ Es, CodeM w' w'.heap.size iq eq tq Es c) ∧ Below w.heap.size w w')
  en : E = 0 → ∀ {W : World} {iq eq tq : Option Addr} {Es : List Em} (ia ea ta : Nat), CodeM W W.heap.size iq eq tq Es c → Below w.heap.size w W → Calls Tryd.prog 6 #[aggC iq eq tq ia ea ta c] W fun e w' => e = .returned (.tuple #[.string s, .int .i64 0]) ∧ Below W.heap.size W w'
  asm : ∀ W : World, Below w.heap.size w W → Calls Tryd.prog 10 #[.string s] W fun e w' => ∃ iq ia eq ea tq ta, e = .returned (.tuple #[aggC iq eq tq ia ea ta d, .int .i64 A, .int .i64 N]) ∧ Hid ((∃ Es, CodeM w' w'.heap.size iq eq tq Es d) ∧ Below W.heap.size W w')
  va : A = 0 → ∀ {W : World} {iq eq tq : Option Addr} {Es : List Em} (ia ea ta : Nat), CodeM W W.heap.size iq eq tq Es d → Below w.heap.size w W → Calls Tryd.prog 5 #[aggC iq eq tq ia ea ta d] W fun e w' => e = .returned (.int .i64 0) ∧ Below W.heap.size W w'
  kn : ∀ W : World, Below w.heap.size w W → Calls Tryd.prog 8 #[] W fun e w' => e = .returned (.bool true) ∧ Below W.heap.size W w'
set_option maxRecDepth 100000 in
set_option maxHeartbeats 4000000 in
theorem only_yy (w : World) (s : ByteArray) (c d : Cd) (K : Hid (Ko w s c d 0 0 0)) : Calls Tryd.prog 4 #[.string s] w fun e w' => e = .returned (.bool true) ∧ Below w.heap.size w w' := by
  have d0 := K.out.de
  go_enter Tryd.func4, Tryd.ntmps4
  go_wp2_with fail
  refine d0.mono ?_
  rintro e W1 ⟨iq, ia, eq, ea, tq, ta, rfl, hw1⟩
  obtain ⟨W2, hW2⟩ : ∃ W2, W2 = W1.alloc (.cells #[.slice iq c.ins.length ia, .slice eq c.ens.length ea, .slice tq c.txs.length ta, .int .i64 c.main] 26) := ⟨_, rfl⟩
  have H2 : Hid (Bx W2 W1.heap.size iq eq tq ia ea ta c ∧ Below w.heap.size w W2) := by
    obtain ⟨m1, b1⟩ := hw1.out
    rw [hW2]
    exact ⟨Bx.new ia ea ta m1, below2 b1 ((Below.refl _ W1).alloc (Nat.le_refl _) _)⟩
  clear hw1 d0
  go_upto_region 2 with fail
  rw [← hW2]
  clear hW2
  generalize W1.heap.size = p1 at *
  clear W1
  obtain ⟨x0, x1, x2, x3⟩ := H2.out.1.cs
  have e2 := K.out.en rfl ia ea ta H2.out.1.m.choose_spec H2.out.2
  go_wp2_with fail
  refine e2.mono ?_
  rintro e W3 ⟨rfl, hw3⟩
  have H3 : Hid (Below w.heap.size w W3) := below2 H2.out.2 hw3
  clear x0 x1 x2 x3 e2 H2 hw3 W2
  have a3 := K.out.asm W3 H3.out
  go_wp2_with fail
  refine a3.mono ?_
  rintro e W4 ⟨iq', ia', eq', ea', tq', ta', rfl, hw4⟩
  obtain ⟨W5, hW5⟩ : ∃ W5, W5 = W4.alloc (.cells #[.slice iq' d.ins.length ia', .slice eq' d.ens.length ea', .slice tq' d.txs.length ta', .int .i64 d.main] 26) := ⟨_, rfl⟩
  have H5 : Hid (Bx W5 W4.heap.size iq' eq' tq' ia' ea' ta' d ∧ Below w.heap.size w W5) := by
    obtain ⟨m4, b4⟩ := hw4.out
    have nb : Below W4.heap.size W4 W5 := by rw [hW5]; exact (Below.refl _ W4).alloc (Nat.le_refl _) _
    exact ⟨by rw [hW5]; exact Bx.new ia' ea' ta' m4, below2 (below2 H3.out b4) nb⟩
  clear hw4 a3 H3
  go_upto_region 7 with fail
  rw [← hW5]
  clear hW5
  generalize W4.heap.size = p4 at *
  clear W4 W3
  obtain ⟨x0, x1, x2, x3⟩ := H5.out.1.cs
  have v5 := K.out.va rfl ia' ea' ta' H5.out.1.m.choose_spec H5.out.2
  go_wp2_with fail
  refine v5.mono ?_
  rintro e W6 ⟨rfl, hw6⟩
  have H6 : Hid (Below w.heap.size w W6) := below2 H5.out.2 hw6
  clear x0 x1 x2 x3 v5 H5 hw6 W5
  have k6 := K.out.kn W6 H6.out
  go_wp2_with fail
  refine k6.mono ?_
  rintro e W7 ⟨rfl, hw7⟩
  have H7 : Hid (Below w.heap.size w W7) := below2 H6.out hw7
  clear k6 H6 hw7
  go_wp2
  go_ret
  exact ⟨rfl, H7.out⟩
set_option maxRecDepth 100000 in
set_option maxHeartbeats 4000000 in
theorem only_yn (w : World) (s : ByteArray) (c d : Cd) (N : Int) (hN : 1 ≤ N) (K : Hid (Ko w s c d 0 131 N)) : Calls Tryd.prog 4 #[.string s] w fun e w' => e = .returned (.bool true) ∧ Below w.heap.size w w' := by
  have d0 := K.out.de
  go_enter Tryd.func4, Tryd.ntmps4
  go_wp2_with fail
  refine d0.mono ?_
  rintro e W1 ⟨iq, ia, eq, ea, tq, ta, rfl, hw1⟩
  obtain ⟨W2, hW2⟩ : ∃ W2, W2 = W1.alloc (.cells #[.slice iq c.ins.length ia, .slice eq c.ens.length ea, .slice tq c.txs.length ta, .int .i64 c.main] 26) := ⟨_, rfl⟩
  have H2 : Hid (Bx W2 W1.heap.size iq eq tq ia ea ta c ∧ Below w.heap.size w W2) := by
    obtain ⟨m1, b1⟩ := hw1.out
    rw [hW2]
    exact ⟨Bx.new ia ea ta m1, below2 b1 ((Below.refl _ W1).alloc (Nat.le_refl _) _)⟩
  clear hw1 d0
  go_upto_region 2 with fail
  rw [← hW2]
  clear hW2
  generalize W1.heap.size = p1 at *
  clear W1
  obtain ⟨x0, x1, x2, x3⟩ := H2.out.1.cs
  have e2 := K.out.en rfl ia ea ta H2.out.1.m.choose_spec H2.out.2
  go_wp2_with fail
  refine e2.mono ?_
  rintro e W3 ⟨rfl, hw3⟩
  have H3 : Hid (Below w.heap.size w W3) := below2 H2.out.2 hw3
  clear x0 x1 x2 x3 e2 H2 hw3 W2
  have a3 := K.out.asm W3 H3.out
  go_wp2_with fail
  refine a3.mono ?_
  rintro e W4 ⟨iq', ia', eq', ea', tq', ta', rfl, hw4⟩
  obtain ⟨W5, hW5⟩ : ∃ W5, W5 = W4.alloc (.cells #[.slice iq' d.ins.length ia', .slice eq' d.ens.length ea', .slice tq' d.txs.length ta', .int .i64 d.main] 26) := ⟨_, rfl⟩
  have H5 : Hid (Bx W5 W4.heap.size iq' eq' tq' ia' ea' ta' d ∧ Below w.heap.size w W5) := by
    obtain ⟨m4, b4⟩ := hw4.out
    have nb : Below W4.heap.size W4 W5 := by rw [hW5]; exact (Below.refl _ W4).alloc (Nat.le_refl _) _
    exact ⟨by rw [hW5]; exact Bx.new ia' ea' ta' m4, below2 (below2 H3.out b4) nb⟩
  clear hw4 a3 H3
  go_upto_region 7 with fail
  rw [← hW5]
  clear hW5
  generalize W4.heap.size = p4 at *
  clear W4 W3
  have H6 : Hid (Below w.heap.size w W5) := H5.out.2
  clear H5
  have k6 := K.out.kn W5 H6.out
  go_wp2_with fail
  refine k6.mono ?_
  rintro e W7 ⟨rfl, hw7⟩
  have H7 : Hid (Below w.heap.size w W7) := below2 H6.out hw7
  clear k6 H6 hw7
  go_wp2
  go_ret
  exact ⟨rfl, H7.out⟩
set_option maxRecDepth 100000 in
set_option maxHeartbeats 4000000 in
theorem only_ny (w : World) (s : ByteArray) (c d : Cd) (K : Hid (Ko w s c d 130 0 0)) : Calls Tryd.prog 4 #[.string s] w fun e w' => e = .returned (.bool true) ∧ Below w.heap.size w w' := by
  have d0 := K.out.de
  go_enter Tryd.func4, Tryd.ntmps4
  go_wp2_with fail
  refine d0.mono ?_
  rintro e W1 ⟨iq, ia, eq, ea, tq, ta, rfl, hw1⟩
  obtain ⟨W2, hW2⟩ : ∃ W2, W2 = W1.alloc (.cells #[.slice iq c.ins.length ia, .slice eq c.ens.length ea, .slice tq c.txs.length ta, .int .i64 c.main] 26) := ⟨_, rfl⟩
  have H2 : Hid (Bx W2 W1.heap.size iq eq tq ia ea ta c ∧ Below w.heap.size w W2) := by
    obtain ⟨m1, b1⟩ := hw1.out
    rw [hW2]
    exact ⟨Bx.new ia ea ta m1, below2 b1 ((Below.refl _ W1).alloc (Nat.le_refl _) _)⟩
  clear hw1 d0
  go_upto_region 2 with fail
  rw [← hW2]
  clear hW2
  generalize W1.heap.size = p1 at *
  clear W1
  have H3 : Hid (Below w.heap.size w W2) := H2.out.2
  clear H2
  have a3 := K.out.asm W2 H3.out
  go_wp2_with fail
  refine a3.mono ?_
  rintro e W4 ⟨iq', ia', eq', ea', tq', ta', rfl, hw4⟩
  obtain ⟨W5, hW5⟩ : ∃ W5, W5 = W4.alloc (.cells #[.slice iq' d.ins.length ia', .slice eq' d.ens.length ea', .slice tq' d.txs.length ta', .int .i64 d.main] 26) := ⟨_, rfl⟩
  have H5 : Hid (Bx W5 W4.heap.size iq' eq' tq' ia' ea' ta' d ∧ Below w.heap.size w W5) := by
    obtain ⟨m4, b4⟩ := hw4.out
    have nb : Below W4.heap.size W4 W5 := by rw [hW5]; exact (Below.refl _ W4).alloc (Nat.le_refl _) _
    exact ⟨by rw [hW5]; exact Bx.new ia' ea' ta' m4, below2 (below2 H3.out b4) nb⟩
  clear hw4 a3 H3
  go_upto_region 7 with fail
  rw [← hW5]
  clear hW5
  generalize W4.heap.size = p4 at *
  clear W4 W2
  obtain ⟨x0, x1, x2, x3⟩ := H5.out.1.cs
  have v5 := K.out.va rfl ia' ea' ta' H5.out.1.m.choose_spec H5.out.2
  go_wp2_with fail
  refine v5.mono ?_
  rintro e W6 ⟨rfl, hw6⟩
  have H6 : Hid (Below w.heap.size w W6) := below2 H5.out.2 hw6
  clear x0 x1 x2 x3 v5 H5 hw6 W5
  have k6 := K.out.kn W6 H6.out
  go_wp2_with fail
  refine k6.mono ?_
  rintro e W7 ⟨rfl, hw7⟩
  have H7 : Hid (Below w.heap.size w W7) := below2 H6.out hw7
  clear k6 H6 hw7
  go_wp2
  go_ret
  exact ⟨rfl, H7.out⟩
set_option maxRecDepth 100000 in
set_option maxHeartbeats 4000000 in
theorem only_nn (w : World) (s : ByteArray) (c d : Cd) (N : Int) (hN : 1 ≤ N) (K : Hid (Ko w s c d 130 131 N)) : Calls Tryd.prog 4 #[.string s] w fun e w' => e = .returned (.bool true) ∧ Below w.heap.size w w' := by
  have d0 := K.out.de
  go_enter Tryd.func4, Tryd.ntmps4
  go_wp2_with fail
  refine d0.mono ?_
  rintro e W1 ⟨iq, ia, eq, ea, tq, ta, rfl, hw1⟩
  obtain ⟨W2, hW2⟩ : ∃ W2, W2 = W1.alloc (.cells #[.slice iq c.ins.length ia, .slice eq c.ens.length ea, .slice tq c.txs.length ta, .int .i64 c.main] 26) := ⟨_, rfl⟩
  have H2 : Hid (Bx W2 W1.heap.size iq eq tq ia ea ta c ∧ Below w.heap.size w W2) := by
    obtain ⟨m1, b1⟩ := hw1.out
    rw [hW2]
    exact ⟨Bx.new ia ea ta m1, below2 b1 ((Below.refl _ W1).alloc (Nat.le_refl _) _)⟩
  clear hw1 d0
  go_upto_region 2 with fail
  rw [← hW2]
  clear hW2
  generalize W1.heap.size = p1 at *
  clear W1
  have H3 : Hid (Below w.heap.size w W2) := H2.out.2
  clear H2
  have a3 := K.out.asm W2 H3.out
  go_wp2_with fail
  refine a3.mono ?_
  rintro e W4 ⟨iq', ia', eq', ea', tq', ta', rfl, hw4⟩
  obtain ⟨W5, hW5⟩ : ∃ W5, W5 = W4.alloc (.cells #[.slice iq' d.ins.length ia', .slice eq' d.ens.length ea', .slice tq' d.txs.length ta', .int .i64 d.main] 26) := ⟨_, rfl⟩
  have H5 : Hid (Bx W5 W4.heap.size iq' eq' tq' ia' ea' ta' d ∧ Below w.heap.size w W5) := by
    obtain ⟨m4, b4⟩ := hw4.out
    have nb : Below W4.heap.size W4 W5 := by rw [hW5]; exact (Below.refl _ W4).alloc (Nat.le_refl _) _
    exact ⟨by rw [hW5]; exact Bx.new ia' ea' ta' m4, below2 (below2 H3.out b4) nb⟩
  clear hw4 a3 H3
  go_upto_region 7 with fail
  rw [← hW5]
  clear hW5
  generalize W4.heap.size = p4 at *
  clear W4 W2
  have H6 : Hid (Below w.heap.size w W5) := H5.out.2
  clear H5
  have k6 := K.out.kn W5 H6.out
  go_wp2_with fail
  refine k6.mono ?_
  rintro e W7 ⟨rfl, hw7⟩
  have H7 : Hid (Below w.heap.size w W7) := below2 H6.out hw7
  clear k6 H6 hw7
  go_wp2
  go_ret
  exact ⟨rfl, H7.out⟩
theorem codeOnly_any (s : ByteArray) (w : World) (hs : s.size ≤ 140737488351232) (ht : Tabs w) : Calls Tryd.prog 4 #[.string s] w fun e w' => e = .returned (.bool true) ∧ Below w.heap.size w w' := by
  have HT : Hid (∀ W, Below w.heap.size w W → Tabs W) := fun W hW => ht.next hW
  have hd := decode_any s w (by omega) ht
  have ha : ∀ W, Below w.heap.size w W → _ := fun W hb => assemble_any s W (by omega) (HT.out _ hb)
  have K : Ko w s (decC s.data.toList) (asmC (lt s)) (decE s.data.toList) (asmE (lt s)) (asmN (lt s)) := by
    refine ⟨?_, ?_, ?_, ?_, fun W hb => known_any W (HT.out _ hb)⟩
    · refine hd.mono ?_
      rintro e w' ⟨iq, ia, eq, ea, tq, ta, he, hh⟩
      obtain ⟨Es, F⟩ := hh.out
      exact ⟨iq, ia, eq, ea, tq, ta, he, ⟨Es, F.m⟩, F.bel⟩
    · intro hE W iq eq tq Es ia ea ta h hb
      have := encode_any h ia ea ta (Nat.le_refl _) (HT.out _ hb)
      rcases dec_cases s with ⟨-, h2, h3⟩ | h1
      · rw [if_pos h2, h2, h3] at this
        exact this
      · rw [h1] at hE
        cases hE
    · intro W hb
      refine (ha W hb).mono ?_
      rintro e w' ⟨iq, ia, eq, ea, tq, ta, he, hh⟩
      obtain ⟨Es, F⟩ := hh.out
      refine ⟨iq, ia, eq, ea, tq, ta, he, ⟨Es, rows_codeM F.rows F.en ?_⟩, F.bel⟩
      rcases asm_cases (lt s) with h | h
      · exact h.2.2.2.1
      · exact h.2.2.1
    · intro hA W iq eq tq Es ia ea ta h hb
      have := valid_any h ia ea ta (Nat.le_refl _) (HT.out _ hb)
      rcases asm_cases (lt s) with h2 | h2
      · rw [h2.2.2.1] at this
        exact this
      · rw [h2.1] at hA
        cases hA
  generalize decC s.data.toList = c at K
  generalize asmC (lt s) = d at K
  have hE : decE s.data.toList = 0 ∨ decE s.data.toList = 130 := by
    rcases dec_cases s with h | h
    · exact .inl h.1
    · exact .inr h
  have hA : (asmE (lt s) = 0 ∧ asmN (lt s) = 0) ∨ (asmE (lt s) = 131 ∧ 1 ≤ asmN (lt s)) := by
    rcases asm_cases (lt s) with h | h
    · exact .inl ⟨h.1, h.2.1⟩
    · exact .inr ⟨h.1, h.2.1⟩
  rcases hE with hE | hE <;> rcases hA with ⟨hA, hN⟩ | ⟨hA, hN⟩
  · rw [hE, hA, hN] at K; exact only_yy w s c d K
  · rw [hE, hA] at K; exact only_yn w s c d _ hN K
  · rw [hE, hA, hN] at K; exact only_ny w s c d K
  · rw [hE, hA] at K; exact only_nn w s c d _ hN K
end Go.Proofs.YtchinflkjcebjaaDoor
