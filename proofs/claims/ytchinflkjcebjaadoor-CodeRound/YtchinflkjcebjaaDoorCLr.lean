import Derived.Test.YtchinflkjcebjaaDoorCLo
import Derived.Test.YtchinflkjcebjaaDoorCOp
namespace Go.Proofs.YtchinflkjcebjaaDoor
open Go.RowKit

/-- What the calls say of a code c: V: what Valid says; eb, pb: its bytes, its text. -/
structure Kr (w : World) (c : Cd) (V : Int) (eb pb : ByteArray) : Prop where
  va : ∀ {W : World} {iq eq tq : Option Addr} {Es : List Em} (ia ea ta : Nat), CodeM W W.heap.size iq eq tq Es c → Below w.heap.size w W → Calls Tryd.prog 5 #[aggC iq eq tq ia ea ta c] W fun e w' => e = .returned (.int .i64 V) ∧ Below W.heap.size W w'
  en : ∀ {W : World} {iq eq tq : Option Addr} {Es : List Em} (ia ea ta : Nat), CodeM W W.heap.size iq eq tq Es c → Below w.heap.size w W → Calls Tryd.prog 6 #[aggC iq eq tq ia ea ta c] W fun e w' => e = .returned (.tuple #[.string eb, .int .i64 V]) ∧ Below W.heap.size W w'
  pr : ∀ {W : World} {iq eq tq : Option Addr} {Es : List Em} (ia ea ta : Nat), CodeM W W.heap.size iq eq tq Es c → Below w.heap.size w W → Calls Tryd.prog 7 #[aggC iq eq tq ia ea ta c] W fun e w' => e = .returned (.tuple #[.string pb, .int .i64 V]) ∧ Below W.heap.size W w'
  de : V = 0 → ∀ W : World, Below w.heap.size w W → Calls Tryd.prog 9 #[.string eb] W fun e w' => ∃ iq ia eq ea tq ta, e = .returned (.tuple #[aggC iq eq tq ia ea ta c, .int .i64 0]) ∧ Hid ((∃ Es, CodeM w' w'.heap.size iq eq tq Es c) ∧ Below W.heap.size W w')
  asm : V = 0 → ∀ W : World, Below w.heap.size w W → Calls Tryd.prog 10 #[.string pb] W fun e w' => ∃ iq ia eq ea tq ta, e = .returned (.tuple #[aggC iq eq tq ia ea ta c, .int .i64 0, .int .i64 0]) ∧ Hid ((∃ Es, CodeM w' w'.heap.size iq eq tq Es c) ∧ Below W.heap.size W w')
  sa : ∀ {W : World} {iq eq tq iq' eq' tq' : Option Addr} {Es Es' : List Em} (ia ea ta ia' ea' ta' : Nat), CodeM W W.heap.size iq eq tq Es c → CodeM W W.heap.size iq' eq' tq' Es' c → Calls Tryd.prog 11 #[aggC iq eq tq ia ea ta c, aggC iq' eq' tq' ia' ea' ta' c] W fun e w' => e = .returned (.bool true) ∧ Below W.heap.size W w'
  kn : ∀ W : World, Below w.heap.size w W → Calls Tryd.prog 8 #[] W fun e w' => e = .returned (.bool true) ∧ Below W.heap.size W w'
theorem flat_le {α β : Type} (f : α → List β) (M : Nat) : ∀ l : List α, (∀ x ∈ l, (f x).length ≤ M) → (l.flatMap f).length ≤ l.length * M
  | [], _ => by simp
  | x :: l, h => by
    have h1 := flat_le f M l (fun y hy => h y (List.mem_cons_of_mem _ hy))
    have h2 := h x (by simp)
    rw [List.flatMap_cons, List.length_append, List.length_cons, Nat.succ_mul]
    omega
theorem enc_size {c : Cd} (h : validS c = 0) : (encS c).length ≤ 281474976710656 := by
  have k := code_ok.1 h
  have hs := ok_small k
  have l1 : (c.ens.flatMap entB).length ≤ c.ens.length * 1000 := flat_le entB 1000 _ fun e he => by
    obtain ⟨a, b⟩ := hs.es e he
    unfold entB txB
    have e1 : e.name.size = e.name.data.toList.length := (Array.length_toList (xs := e.name.data)).symm
    simp only [List.length_append, List.length_cons, List.length_map, List.length_nil, numB_len]
    omega
  have l2 : (c.txs.flatMap txB).length ≤ c.txs.length * 256 := flat_le txB 256 _ fun t ht => by
    have a := hs.ts t ht
    have e1 : t.size = t.data.toList.length := (Array.length_toList (xs := t.data)).symm
    unfold txB
    simp only [List.length_cons]
    omega
  have w8 : ∀ o, shWd.getD o 0 ≤ 8 := fun o => by
    by_cases q : o < 13
    · exact (show ∀ o : Fin 13, shWd.getD o.val 0 ≤ 8 by decide) ⟨o, q⟩
    · have e : shWd.getD o 0 = 0 := by rw [List.getD_eq_getElem?_getD, List.getElem?_eq_none (by show 13 ≤ o; omega)]; rfl
      rw [e]
      omega
  have l3 : (c.ins.flatMap insB).length ≤ c.ins.length * 17 := flat_le insB 17 _ fun x hx => by
    unfold insB
    simp only [List.length_append, List.length_cons, numB_len]
    have := w8 (opA.getD x.1.toNat 0)
    have := w8 (opB.getD x.1.toNat 0)
    omega
  have a := hs.el
  have b := hs.il
  have d := hs.tl
  unfold encS
  simp only [List.length_append, List.length_cons, numB_len]
  omega
set_option maxRecDepth 100000 in
set_option maxHeartbeats 4000000 in
theorem round_n2 (w : World) (c : Cd) (iq eq tq : Option Addr) (ia ea ta : Nat) (K : Hid (Kr w c 2 e0 e0)) (hm : Hid (∃ Es, CodeM w w.heap.size iq eq tq Es c)) : Calls Tryd.prog 3 #[aggC iq eq tq ia ea ta c] w fun e w' => e = .returned (.bool true) ∧ Below w.heap.size w w' := by
  obtain ⟨W1, hW1⟩ : ∃ W1, W1 = w.alloc (.cells #[.slice iq c.ins.length ia, .slice eq c.ens.length ea, .slice tq c.txs.length ta, .int .i64 c.main] 26) := ⟨_, rfl⟩
  have H1 : Hid (Bx W1 w.heap.size iq eq tq ia ea ta c ∧ Below w.heap.size w W1) := by
    rw [hW1]
    exact ⟨Bx.new ia ea ta hm.out, (Below.refl _ w).alloc (Nat.le_refl _) _⟩
  clear hm
  go_enter Tryd.func3, Tryd.ntmps3
  go_upto_region 1 with fail
  rw [← hW1]
  clear hW1
  obtain ⟨x0, x1, x2, x3⟩ := H1.out.1.cs
  have v1 := K.out.va ia ea ta H1.out.1.m.choose_spec H1.out.2
  go_wp2_with fail
  refine v1.mono ?_
  rintro e W2 ⟨rfl, hw2⟩
  have H2 : Hid (Bx W2 w.heap.size iq eq tq ia ea ta c ∧ Below w.heap.size w W2) := ⟨H1.out.1.next hw2, below2 H1.out.2 hw2⟩
  clear x0 x1 x2 x3 v1 H1 hw2 W1
  obtain ⟨x0, x1, x2, x3⟩ := H2.out.1.cs
  have v2 := K.out.en ia ea ta H2.out.1.m.choose_spec H2.out.2
  go_wp2_with fail
  refine v2.mono ?_
  rintro e W3 ⟨rfl, hw3⟩
  have H3 : Hid (Bx W3 w.heap.size iq eq tq ia ea ta c ∧ Below w.heap.size w W3) := ⟨H2.out.1.next hw3, below2 H2.out.2 hw3⟩
  clear x0 x1 x2 x3 v2 H2 hw3 W2
  obtain ⟨x0, x1, x2, x3⟩ := H3.out.1.cs
  have v3 := K.out.pr ia ea ta H3.out.1.m.choose_spec H3.out.2
  go_wp2_with fail
  refine v3.mono ?_
  rintro e W4 ⟨rfl, hw4⟩
  have H4 : Hid (Bx W4 w.heap.size iq eq tq ia ea ta c ∧ Below w.heap.size w W4) := ⟨H3.out.1.next hw4, below2 H3.out.2 hw4⟩
  clear x0 x1 x2 x3 v3 H3 hw4 W3
  obtain ⟨x0, x1, x2, x3⟩ := H4.out.1.cs
  have v4 := K.out.va ia ea ta H4.out.1.m.choose_spec H4.out.2
  go_wp2_with fail
  refine v4.mono ?_
  rintro e W5 ⟨rfl, hw5⟩
  have HB : Hid (Below w.heap.size w W5) := below2 H4.out.2 hw5
  clear x0 x1 x2 x3 v4 H4 hw5 W4
  have k := K.out.kn W5 HB.out
  go_wp2_with fail
  refine k.mono ?_
  rintro e W9 ⟨rfl, hw9⟩
  have H9 : Hid (Below w.heap.size w W9) := below2 HB.out hw9
  clear k HB hw9
  go_wp2
  go_ret
  exact ⟨rfl, H9.out⟩
set_option maxRecDepth 100000 in
set_option maxHeartbeats 4000000 in
theorem round_n130 (w : World) (c : Cd) (iq eq tq : Option Addr) (ia ea ta : Nat) (K : Hid (Kr w c 130 e0 e0)) (hm : Hid (∃ Es, CodeM w w.heap.size iq eq tq Es c)) : Calls Tryd.prog 3 #[aggC iq eq tq ia ea ta c] w fun e w' => e = .returned (.bool true) ∧ Below w.heap.size w w' := by
  obtain ⟨W1, hW1⟩ : ∃ W1, W1 = w.alloc (.cells #[.slice iq c.ins.length ia, .slice eq c.ens.length ea, .slice tq c.txs.length ta, .int .i64 c.main] 26) := ⟨_, rfl⟩
  have H1 : Hid (Bx W1 w.heap.size iq eq tq ia ea ta c ∧ Below w.heap.size w W1) := by
    rw [hW1]
    exact ⟨Bx.new ia ea ta hm.out, (Below.refl _ w).alloc (Nat.le_refl _) _⟩
  clear hm
  go_enter Tryd.func3, Tryd.ntmps3
  go_upto_region 1 with fail
  rw [← hW1]
  clear hW1
  obtain ⟨x0, x1, x2, x3⟩ := H1.out.1.cs
  have v1 := K.out.va ia ea ta H1.out.1.m.choose_spec H1.out.2
  go_wp2_with fail
  refine v1.mono ?_
  rintro e W2 ⟨rfl, hw2⟩
  have H2 : Hid (Bx W2 w.heap.size iq eq tq ia ea ta c ∧ Below w.heap.size w W2) := ⟨H1.out.1.next hw2, below2 H1.out.2 hw2⟩
  clear x0 x1 x2 x3 v1 H1 hw2 W1
  obtain ⟨x0, x1, x2, x3⟩ := H2.out.1.cs
  have v2 := K.out.en ia ea ta H2.out.1.m.choose_spec H2.out.2
  go_wp2_with fail
  refine v2.mono ?_
  rintro e W3 ⟨rfl, hw3⟩
  have H3 : Hid (Bx W3 w.heap.size iq eq tq ia ea ta c ∧ Below w.heap.size w W3) := ⟨H2.out.1.next hw3, below2 H2.out.2 hw3⟩
  clear x0 x1 x2 x3 v2 H2 hw3 W2
  obtain ⟨x0, x1, x2, x3⟩ := H3.out.1.cs
  have v3 := K.out.pr ia ea ta H3.out.1.m.choose_spec H3.out.2
  go_wp2_with fail
  refine v3.mono ?_
  rintro e W4 ⟨rfl, hw4⟩
  have H4 : Hid (Bx W4 w.heap.size iq eq tq ia ea ta c ∧ Below w.heap.size w W4) := ⟨H3.out.1.next hw4, below2 H3.out.2 hw4⟩
  clear x0 x1 x2 x3 v3 H3 hw4 W3
  obtain ⟨x0, x1, x2, x3⟩ := H4.out.1.cs
  have v4 := K.out.va ia ea ta H4.out.1.m.choose_spec H4.out.2
  go_wp2_with fail
  refine v4.mono ?_
  rintro e W5 ⟨rfl, hw5⟩
  have HB : Hid (Below w.heap.size w W5) := below2 H4.out.2 hw5
  clear x0 x1 x2 x3 v4 H4 hw5 W4
  have k := K.out.kn W5 HB.out
  go_wp2_with fail
  refine k.mono ?_
  rintro e W9 ⟨rfl, hw9⟩
  have H9 : Hid (Below w.heap.size w W9) := below2 HB.out hw9
  clear k HB hw9
  go_wp2
  go_ret
  exact ⟨rfl, H9.out⟩
set_option maxRecDepth 100000 in
set_option maxHeartbeats 4000000 in
theorem round_y (w : World) (c : Cd) (iq eq tq : Option Addr) (ia ea ta : Nat) (eb pb : ByteArray) (K : Hid (Kr w c 0 eb pb)) (hm : Hid (∃ Es, CodeM w w.heap.size iq eq tq Es c)) : Calls Tryd.prog 3 #[aggC iq eq tq ia ea ta c] w fun e w' => e = .returned (.bool true) ∧ Below w.heap.size w w' := by
  obtain ⟨W1, hW1⟩ : ∃ W1, W1 = w.alloc (.cells #[.slice iq c.ins.length ia, .slice eq c.ens.length ea, .slice tq c.txs.length ta, .int .i64 c.main] 26) := ⟨_, rfl⟩
  have H1 : Hid (Bx W1 w.heap.size iq eq tq ia ea ta c ∧ Below w.heap.size w W1) := by
    rw [hW1]
    exact ⟨Bx.new ia ea ta hm.out, (Below.refl _ w).alloc (Nat.le_refl _) _⟩
  clear hm
  go_enter Tryd.func3, Tryd.ntmps3
  go_upto_region 1 with fail
  rw [← hW1]
  clear hW1
  obtain ⟨x0, x1, x2, x3⟩ := H1.out.1.cs
  have v1 := K.out.va ia ea ta H1.out.1.m.choose_spec H1.out.2
  go_wp2_with fail
  refine v1.mono ?_
  rintro e W2 ⟨rfl, hw2⟩
  have H2 : Hid (Bx W2 w.heap.size iq eq tq ia ea ta c ∧ Below w.heap.size w W2) := ⟨H1.out.1.next hw2, below2 H1.out.2 hw2⟩
  clear x0 x1 x2 x3 v1 H1 hw2 W1
  obtain ⟨x0, x1, x2, x3⟩ := H2.out.1.cs
  have v2 := K.out.en ia ea ta H2.out.1.m.choose_spec H2.out.2
  go_wp2_with fail
  refine v2.mono ?_
  rintro e W3 ⟨rfl, hw3⟩
  have H3 : Hid (Bx W3 w.heap.size iq eq tq ia ea ta c ∧ Below w.heap.size w W3) := ⟨H2.out.1.next hw3, below2 H2.out.2 hw3⟩
  clear x0 x1 x2 x3 v2 H2 hw3 W2
  obtain ⟨x0, x1, x2, x3⟩ := H3.out.1.cs
  have v3 := K.out.pr ia ea ta H3.out.1.m.choose_spec H3.out.2
  go_wp2_with fail
  refine v3.mono ?_
  rintro e W4 ⟨rfl, hw4⟩
  have H4 : Hid (Bx W4 w.heap.size iq eq tq ia ea ta c ∧ Below w.heap.size w W4) := ⟨H3.out.1.next hw4, below2 H3.out.2 hw4⟩
  clear x0 x1 x2 x3 v3 H3 hw4 W3
  have d4 := K.out.de rfl W4 H4.out.2
  go_wp2_with fail
  refine d4.mono ?_
  rintro e W5 ⟨iq', ia', eq', ea', tq', ta', rfl, hw5⟩
  obtain ⟨W6, hW6⟩ : ∃ W6, W6 = W5.alloc (.cells #[.slice iq' c.ins.length ia', .slice eq' c.ens.length ea', .slice tq' c.txs.length ta', .int .i64 c.main] 26) := ⟨_, rfl⟩
  have H6 : Hid (Bx W6 w.heap.size iq eq tq ia ea ta c ∧ Bx W6 W5.heap.size iq' eq' tq' ia' ea' ta' c ∧ Below w.heap.size w W6) := by
    obtain ⟨m5, b5⟩ := hw5.out
    have nb : Below W5.heap.size W5 W6 := by rw [hW6]; exact (Below.refl _ W5).alloc (Nat.le_refl _) _
    exact ⟨(H4.out.1.next b5).next nb, by rw [hW6]; exact Bx.new ia' ea' ta' m5, below2 (below2 H4.out.2 b5) nb⟩
  clear hw5 d4 H4
  go_upto_region 7 with fail
  rw [← hW6]
  clear hW6
  generalize W5.heap.size = p5 at *
  clear W5 W4
  have a6 := K.out.asm rfl W6 H6.out.2.2
  go_wp2_with fail
  refine a6.mono ?_
  rintro e W7 ⟨iq2, ia2, eq2, ea2, tq2, ta2, rfl, hw7⟩
  obtain ⟨W8, hW8⟩ : ∃ W8, W8 = W7.alloc (.cells #[.slice iq2 c.ins.length ia2, .slice eq2 c.ens.length ea2, .slice tq2 c.txs.length ta2, .int .i64 c.main] 26) := ⟨_, rfl⟩
  have H8 : Hid (Bx W8 w.heap.size iq eq tq ia ea ta c ∧ Bx W8 p5 iq' eq' tq' ia' ea' ta' c ∧ Bx W8 W7.heap.size iq2 eq2 tq2 ia2 ea2 ta2 c ∧ Below w.heap.size w W8) := by
    obtain ⟨m7, b7⟩ := hw7.out
    have nb : Below W7.heap.size W7 W8 := by rw [hW8]; exact (Below.refl _ W7).alloc (Nat.le_refl _) _
    exact ⟨(H6.out.1.next b7).next nb, (H6.out.2.1.next b7).next nb, by rw [hW8]; exact Bx.new ia2 ea2 ta2 m7, below2 (below2 H6.out.2.2 b7) nb⟩
  clear hw7 a6 H6
  go_upto_region 8 with fail
  rw [← hW8]
  clear hW8
  generalize W7.heap.size = p7 at *
  clear W7 W6
  obtain ⟨x0, x1, x2, x3⟩ := H8.out.1.cs
  obtain ⟨y0, y1, y2, y3⟩ := H8.out.2.1.cs
  have s8 := K.out.sa ia' ea' ta' ia ea ta H8.out.2.1.m.choose_spec H8.out.1.m.choose_spec
  go_wp2_with fail
  refine s8.mono ?_
  rintro e WA ⟨rfl, hwA⟩
  have HA : Hid (Bx WA w.heap.size iq eq tq ia ea ta c ∧ Bx WA p7 iq2 eq2 tq2 ia2 ea2 ta2 c ∧ Below w.heap.size w WA) := ⟨H8.out.1.next hwA, H8.out.2.2.1.next hwA, below2 H8.out.2.2.2 hwA⟩
  clear x0 x1 x2 x3 y0 y1 y2 y3 s8 H8 hwA W8
  obtain ⟨x0, x1, x2, x3⟩ := HA.out.1.cs
  obtain ⟨y0, y1, y2, y3⟩ := HA.out.2.1.cs
  have sA := K.out.sa ia2 ea2 ta2 ia ea ta HA.out.2.1.m.choose_spec HA.out.1.m.choose_spec
  go_wp2_with fail
  refine sA.mono ?_
  rintro e WB ⟨rfl, hwB⟩
  have HB : Hid (Below w.heap.size w WB) := below2 HA.out.2.2 hwB
  clear x0 x1 x2 x3 y0 y1 y2 y3 sA HA hwB WA
  have k := K.out.kn WB HB.out
  go_wp2_with fail
  refine k.mono ?_
  rintro e W9 ⟨rfl, hw9⟩
  have H9 : Hid (Below w.heap.size w W9) := below2 HB.out hw9
  clear k HB hw9
  go_wp2
  go_ret
  exact ⟨rfl, H9.out⟩
theorem codeRound_any {w : World} {iq eq tq : Option Addr} {Es : List Em} {c : Cd} (h : ArgC w iq eq tq Es c) (ia ea ta : Nat) (ht : Tabs w) : Calls Tryd.prog 3 #[codeV iq eq tq ia ea ta c] w fun e w' => e = .returned (.bool true) ∧ Below w.heap.size w w' := by
  have HT : Hid (∀ W, Below w.heap.size w W → Tabs W) := fun W hW => ht.next hW
  have hm : ∃ Es, CodeM w w.heap.size iq eq tq Es c := ⟨Es, h.m⟩
  have K : Kr w c (validS c) (if validS c = 0 then YtchinflkjcebjaaDoor.bk (encS c) else e0) (if validS c = 0 then YtchinflkjcebjaaDoor.bk (printS c) else e0) := by
    refine ⟨fun ia ea ta h hb => valid_any h ia ea ta (Nat.le_refl _) (HT.out _ hb), fun ia ea ta h hb => encode_any h ia ea ta (Nat.le_refl _) (HT.out _ hb), fun ia ea ta h hb => print_any h ia ea ta (Nat.le_refl _) (HT.out _ hb), ?_, ?_, fun ia ea ta ia' ea' ta' h h' => same_any h h' ia ea ta ia' ea' ta', fun W hb => known_any W (HT.out _ hb)⟩
    · intro hV W hb
      rw [if_pos hV]
      have := decode_any (YtchinflkjcebjaaDoor.bk (encS c)) W (by rw [bk_size]; exact enc_size hV) (HT.out _ hb)
      have e1 : decC (encS c) = c := by unfold decC; rw [dec_enc hV]; rfl
      have e2 : decE (encS c) = 0 := by unfold decE; rw [dec_enc hV]; rfl
      rw [show (YtchinflkjcebjaaDoor.bk (encS c)).data.toList = encS c from bk_data _, e1, e2] at this
      refine this.mono ?_
      rintro e w' ⟨iq, ia, eq, ea, tq, ta, he, hh⟩
      obtain ⟨Es, F⟩ := hh.out
      exact ⟨iq, ia, eq, ea, tq, ta, he, ⟨Es, F.m⟩, F.bel⟩
    · intro hV W hb
      rw [if_pos hV]
      have := assemble_any (YtchinflkjcebjaaDoor.bk (printS c)) W (by rw [bk_size]; exact Nat.le_trans (print_len (code_ok.1 hV)) (by decide)) (HT.out _ hb)
      have hA := asm_print hV
      have e1 : asmC (printS c) = c := by unfold asmC; rw [hA]
      have e2 : asmE (printS c) = 0 := by unfold asmE; rw [hA]
      have e3 : asmN (printS c) = 0 := by unfold asmN; rw [hA]
      rw [show lt (YtchinflkjcebjaaDoor.bk (printS c)) = printS c from bk_data _, e1, e2, e3] at this
      refine this.mono ?_
      rintro e w' ⟨iq, ia, eq, ea, tq, ta, he, hh⟩
      obtain ⟨Es, F⟩ := hh.out
      exact ⟨iq, ia, eq, ea, tq, ta, he, ⟨Es, rows_codeM F.rows F.en (ok_small (code_ok.1 hV))⟩, F.bel⟩
  have hv : validS c = 0 ∨ validS c = 2 ∨ validS c = 130 := by
    unfold validS
    split
    · exact .inr (.inl rfl)
    · split
      · exact .inl rfl
      · exact .inr (.inr rfl)
  rcases hv with hv | hv | hv
  · rw [hv] at K; exact round_y w c iq eq tq ia ea ta _ _ K hm
  · rw [hv, if_neg (by decide), if_neg (by decide)] at K; exact round_n2 w c iq eq tq ia ea ta K hm
  · rw [hv, if_neg (by decide), if_neg (by decide)] at K; exact round_n130 w c iq eq tq ia ea ta K hm
end Go.Proofs.YtchinflkjcebjaaDoor
