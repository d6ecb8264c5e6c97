import Derived.Test.YtchinflkjcebjabGreatDoorCTb
namespace Go.Proofs.YtchinflkjcebjabGreatDoor
open Go.RowKit

theorem lz_small : Small lz := ⟨by decide, by decide, by decide, fun e he => by obtain rfl := List.mem_singleton.1 he; exact ⟨by decide, by decide⟩, fun t ht => by cases ht⟩
theorem lz_dec : decC (encS lz) = lz ∧ decE (encS lz) = 0 := by
  have := dec_enc (c := lz) lz_valid
  unfold decC decE
  rw [this]
  exact ⟨rfl, rfl⟩
theorem lz_asmC : asmC (printS lz) = lz ∧ asmE (printS lz) = 0 ∧ asmN (printS lz) = 0 := by
  unfold asmC asmE asmN
  rw [lz_asm]
  exact ⟨rfl, rfl, rfl⟩

/-- What all the calls say of one code, over a letter. -/
structure Kn (w : World) (c : Cd) (eb pb : ByteArray) : Prop where
  il : c.ins.length = 1
  el : c.ens.length = 1
  tl : c.txs.length = 0
  mn : c.main = 0
  le : Calls Tryz.prog 16 #[] w fun e w' => ∃ g1 g2, e = .returned (.agg #[.slice (some ⟨g1, 0, none⟩) 1 1, .slice (some ⟨g2, 0, none⟩) 1 1, .slice none 0 0, .int .i64 0]) ∧ Hid ((∃ Es, CodeM w' w'.heap.size (some ⟨g1, 0, none⟩) (some ⟨g2, 0, none⟩) none Es c) ∧ Below w.heap.size w w')
  en : ∀ {W : World} {iq eq tq : Option Addr} {Es : List Em} (ia ea ta : Nat), CodeM W W.heap.size iq eq tq Es c → Below w.heap.size w W → Calls Tryz.prog 8 #[(.agg #[.slice iq 1 ia, .slice eq 1 ea, .slice tq 0 ta, .int .i64 0])] W fun e w' => e = .returned (.tuple #[.string eb, .int .i64 0]) ∧ Below W.heap.size W w'
  pr : ∀ {W : World} {iq eq tq : Option Addr} {Es : List Em} (ia ea ta : Nat), CodeM W W.heap.size iq eq tq Es c → Below w.heap.size w W → Calls Tryz.prog 13 #[(.agg #[.slice iq 1 ia, .slice eq 1 ea, .slice tq 0 ta, .int .i64 0])] W fun e w' => e = .returned (.tuple #[.string pb, .int .i64 0]) ∧ Below W.heap.size W w'
  va : ∀ {W : World} {iq eq tq : Option Addr} {Es : List Em} (ia ea ta : Nat), CodeM W W.heap.size iq eq tq Es c → Below w.heap.size w W → Calls Tryz.prog 23 #[(.agg #[.slice iq 1 ia, .slice eq 1 ea, .slice tq 0 ta, .int .i64 0])] W fun e w' => e = .returned (.int .i64 0) ∧ Below W.heap.size W w'
  de : ∀ W : World, Below w.heap.size w W → Calls Tryz.prog 17 #[.string eb] W fun e w' => ∃ iq ia eq ea tq ta, e = .returned (.tuple #[(.agg #[.slice iq 1 ia, .slice eq 1 ea, .slice tq 0 ta, .int .i64 0]), .int .i64 0]) ∧ Hid ((∃ Es, CodeM w' w'.heap.size iq eq tq Es c) ∧ Below W.heap.size W w')
  asm : ∀ W : World, Below w.heap.size w W → Calls Tryz.prog 18 #[.string pb] W fun e w' => ∃ iq ia eq ea tq ta, e = .returned (.tuple #[(.agg #[.slice iq 1 ia, .slice eq 1 ea, .slice tq 0 ta, .int .i64 0]), .int .i64 0, .int .i64 0]) ∧ Hid ((∃ Es, CodeM w' w'.heap.size iq eq tq Es c) ∧ Below W.heap.size W w')
  sa : ∀ {W : World} {iq eq tq iq' eq' tq' : Option Addr} {Es Es' : List Em} (ia ea ta ia' ea' ta' : Nat), CodeM W W.heap.size iq eq tq Es c → CodeM W W.heap.size iq' eq' tq' Es' c → Calls Tryz.prog 19 #[.agg #[.slice iq 1 ia, .slice eq 1 ea, .slice tq 0 ta, .int .i64 0], .agg #[.slice iq' 1 ia', .slice eq' 1 ea', .slice tq' 0 ta', .int .i64 0]] W fun e w' => e = .returned (.bool true) ∧ Below W.heap.size W w'
  z1 : (10 : Int) < (eb.size : Int)
  z2 : (10 : Int) < (pb.size : Int)
/-- A code of these lengths in a box. -/
structure B1 (W : World) (p : Nat) (iq eq tq : Option Addr) (ia ea ta : Nat) (c : Cd) : Prop where
  b : W.heap[p]? = some (.cells #[.slice iq 1 ia, .slice eq 1 ea, .slice tq 0 ta, .int .i64 0] 26)
  m : ∃ Es, CodeM W W.heap.size iq eq tq Es c
theorem B1.next {W W' : World} {p : Nat} {iq eq tq : Option Addr} {ia ea ta : Nat} {c : Cd} (h : B1 W p iq eq tq ia ea ta c) (k : Below W.heap.size W W') : B1 W' p iq eq tq ia ea ta c := by
  obtain ⟨hb, Es, hm⟩ := h
  exact ⟨(k.block _ (Array.getElem?_eq_some_iff.1 hb).1).trans hb, Es, (hm.below k (Nat.le_refl _)).up k.size⟩
theorem B1.new {W : World} {iq eq tq : Option Addr} (ia ea ta : Nat) {c : Cd} (h : ∃ Es, CodeM W W.heap.size iq eq tq Es c) : B1 (W.alloc (.cells #[.slice iq 1 ia, .slice eq 1 ea, .slice tq 0 ta, .int .i64 0] 26)) W.heap.size iq eq tq ia ea ta c := by
  obtain ⟨Es, h⟩ := h
  exact ⟨World.alloc_heap_new W _, Es, (h.below ((Below.refl _ W).alloc (Nat.le_refl _) _) (Nat.le_refl _)).up (by simp)⟩
/-- Its cells. -/
theorem B1.cs {W : World} {p : Nat} {iq eq tq : Option Addr} {ia ea ta : Nat} {c : Cd} (h : B1 W p iq eq tq ia ea ta c) : W.cell? ⟨p, 0, none⟩ = some (.slice iq 1 ia) ∧ W.cell? ⟨p, 1, none⟩ = some (.slice eq 1 ea) ∧ W.cell? ⟨p, 2, none⟩ = some (.slice tq 0 ta) ∧ W.cell? ⟨p, 3, none⟩ = some (.int .i64 0) :=
  ⟨(blk_cell h.b 0 _ rfl).1, (blk_cell h.b 1 _ rfl).1, (blk_cell h.b 2 _ rfl).1, (blk_cell h.b 3 _ rfl).1⟩
set_option maxRecDepth 100000 in
set_option maxHeartbeats 8000000 in
theorem known_walk (w : World) (c : Cd) (eb pb : ByteArray) (K : Hid (Kn w c eb pb)) : Calls Tryz.prog 12 #[] w fun e w' => e = .returned (.bool true) ∧ Below w.heap.size w w' := by
  have l0 := K.out.le
  have z1 := K.out.z1
  have z2 := K.out.z2
  go_enter Tryz.func12, Tryz.ntmps12
  go_wp2_with fail
  refine l0.mono ?_
  rintro e W1 ⟨g1, g2, rfl, hw1⟩
  obtain ⟨W2, hW2⟩ : ∃ W2, W2 = W1.alloc (.cells #[.slice (some ⟨g1, 0, none⟩) 1 1, .slice (some ⟨g2, 0, none⟩) 1 1, .slice none 0 0, .int .i64 0] 26) := ⟨_, rfl⟩
  have H2 : Hid (B1 W2 W1.heap.size (some ⟨g1, 0, none⟩) (some ⟨g2, 0, none⟩) none 1 1 0 c ∧ Below w.heap.size w W2) := by
    obtain ⟨m1, b1⟩ := hw1.out
    rw [hW2]
    exact ⟨B1.new 1 1 0 m1, below2 b1 ((Below.refl _ W1).alloc (Nat.le_refl _) _)⟩
  clear hw1 l0
  go_upto_region 2 with fail
  rw [← hW2]
  clear hW2
  generalize W1.heap.size = p1 at *
  clear W1
  obtain ⟨x0, x1, x2, x3⟩ := H2.out.1.cs
  have e2 := K.out.en 1 1 0 H2.out.1.m.choose_spec H2.out.2
  go_wp2_with fail
  refine e2.mono ?_
  rintro e W3 ⟨rfl, hw3⟩
  have H3 : Hid (B1 W3 p1 (some ⟨g1, 0, none⟩) (some ⟨g2, 0, none⟩) none 1 1 0 c ∧ Below w.heap.size w W3) := ⟨H2.out.1.next hw3, below2 H2.out.2 hw3⟩
  clear x0 x1 x2 x3 e2 H2 hw3 W2
  have d3 := K.out.de W3 H3.out.2
  go_wp2_with fail
  refine d3.mono ?_
  rintro e W4 ⟨iq, ia, eq, ea, tq, ta, rfl, hw4⟩
  obtain ⟨W5, hW5⟩ : ∃ W5, W5 = W4.alloc (.cells #[.slice iq 1 ia, .slice eq 1 ea, .slice tq 0 ta, .int .i64 0] 26) := ⟨_, rfl⟩
  have H5 : Hid (B1 W5 p1 (some ⟨g1, 0, none⟩) (some ⟨g2, 0, none⟩) none 1 1 0 c ∧ B1 W5 W4.heap.size iq eq tq ia ea ta c ∧ Below w.heap.size w W5) := by
    obtain ⟨m4, b4⟩ := hw4.out
    have nb : Below W4.heap.size W4 W5 := by rw [hW5]; exact (Below.refl _ W4).alloc (Nat.le_refl _) _
    exact ⟨(H3.out.1.next b4).next nb, by rw [hW5]; exact B1.new ia ea ta m4, below2 (below2 H3.out.2 b4) nb⟩
  clear hw4 d3 H3
  go_upto_region 4 with fail
  rw [← hW5]
  clear hW5
  generalize W4.heap.size = p4 at *
  clear W4 W3
  obtain ⟨x0, x1, x2, x3⟩ := H5.out.1.cs
  have e5 := K.out.pr 1 1 0 H5.out.1.m.choose_spec H5.out.2.2
  go_wp2_with fail
  refine e5.mono ?_
  rintro e W6 ⟨rfl, hw6⟩
  have H6 : Hid (B1 W6 p1 (some ⟨g1, 0, none⟩) (some ⟨g2, 0, none⟩) none 1 1 0 c ∧ B1 W6 p4 iq eq tq ia ea ta c ∧ Below w.heap.size w W6) := ⟨H5.out.1.next hw6, H5.out.2.1.next hw6, below2 H5.out.2.2 hw6⟩
  clear x0 x1 x2 x3 e5 H5 hw6 W5
  have d6 := K.out.asm W6 H6.out.2.2
  go_wp2_with fail
  refine d6.mono ?_
  rintro e W7 ⟨iq', ia', eq', ea', tq', ta', rfl, hw7⟩
  obtain ⟨W8, hW8⟩ : ∃ W8, W8 = W7.alloc (.cells #[.slice iq' 1 ia', .slice eq' 1 ea', .slice tq' 0 ta', .int .i64 0] 26) := ⟨_, rfl⟩
  have H8 : Hid (B1 W8 p1 (some ⟨g1, 0, none⟩) (some ⟨g2, 0, none⟩) none 1 1 0 c ∧ B1 W8 p4 iq eq tq ia ea ta c ∧ B1 W8 W7.heap.size iq' eq' tq' ia' ea' ta' c ∧ Below w.heap.size w W8) := by
    obtain ⟨m7, b7⟩ := hw7.out
    have nb : Below W7.heap.size W7 W8 := by rw [hW8]; exact (Below.refl _ W7).alloc (Nat.le_refl _) _
    exact ⟨(H6.out.1.next b7).next nb, (H6.out.2.1.next b7).next nb, by rw [hW8]; exact B1.new ia' ea' ta' m7, below2 (below2 H6.out.2.2 b7) nb⟩
  clear hw7 d6 H6
  go_upto_region 6 with fail
  rw [← hW8]
  clear hW8
  generalize W7.heap.size = p8 at *
  clear W7 W6
  obtain ⟨x0, x1, x2, x3⟩ := H8.out.1.cs
  have v8 := K.out.va 1 1 0 H8.out.1.m.choose_spec H8.out.2.2.2
  go_wp2_with fail
  refine v8.mono ?_
  rintro e W9 ⟨rfl, hw9⟩
  have H9 : Hid (B1 W9 p1 (some ⟨g1, 0, none⟩) (some ⟨g2, 0, none⟩) none 1 1 0 c ∧ B1 W9 p4 iq eq tq ia ea ta c ∧ B1 W9 p8 iq' eq' tq' ia' ea' ta' c ∧ Below w.heap.size w W9) := ⟨H8.out.1.next hw9, H8.out.2.1.next hw9, H8.out.2.2.1.next hw9, below2 H8.out.2.2.2 hw9⟩
  clear x0 x1 x2 x3 v8 H8 hw9 W8
  obtain ⟨x0, x1, x2, x3⟩ := H9.out.1.cs
  obtain ⟨y0, y1, y2, y3⟩ := H9.out.2.1.cs
  have s9 := K.out.sa ia ea ta 1 1 0 H9.out.2.1.m.choose_spec H9.out.1.m.choose_spec
  go_wp2_with fail
  refine s9.mono ?_
  rintro e WA ⟨rfl, hwA⟩
  have HA : Hid (B1 WA p1 (some ⟨g1, 0, none⟩) (some ⟨g2, 0, none⟩) none 1 1 0 c ∧ B1 WA p8 iq' eq' tq' ia' ea' ta' c ∧ Below w.heap.size w WA) := ⟨H9.out.1.next hwA, H9.out.2.2.1.next hwA, below2 H9.out.2.2.2 hwA⟩
  clear x0 x1 x2 x3 y0 y1 y2 y3 s9 H9 hwA W9
  obtain ⟨x0, x1, x2, x3⟩ := HA.out.1.cs
  obtain ⟨y0, y1, y2, y3⟩ := HA.out.2.1.cs
  have sA := K.out.sa ia' ea' ta' 1 1 0 HA.out.2.1.m.choose_spec HA.out.1.m.choose_spec
  go_wp2_with fail
  refine sA.mono ?_
  rintro e WB ⟨rfl, hwB⟩
  have HB : Hid (Below w.heap.size w WB) := below2 HA.out.2.2 hwB
  clear x0 x1 x2 x3 y0 y1 y2 y3 sA HA hwB WA
  go_wp2
  go_ret
  exact ⟨rfl, HB.out⟩
set_option maxRecDepth 100000 in
theorem known_any (w : World) (ht : Tabs w) : Calls Tryz.prog 12 #[] w fun e w' => e = .returned (.bool true) ∧ Below w.heap.size w w' := by
  have HT : Hid (∀ W, Below w.heap.size w W → Tabs W) := fun W hW => ht.next hW
  refine known_walk w lz (YtchinflkjcebjabGreatDoor.bk (encS lz)) (YtchinflkjcebjabGreatDoor.bk (printS lz)) ⟨rfl, rfl, rfl, rfl, ?_, ?_, ?_, ?_, ?_, ?_, ?_, ?_, ?_⟩
  · refine (least_any w).mono ?_
    rintro e w' ⟨g1, g2, he, hh⟩
    exact ⟨g1, g2, he, ⟨_, hh.out.1⟩, hh.out.2⟩
  · intro W iq eq tq Es ia ea ta h hb
    have := encode_any h ia ea ta (Nat.le_refl _) (HT.out _ hb)
    rw [if_pos lz_valid, lz_valid] at this
    exact this
  · intro W iq eq tq Es ia ea ta h hb
    have := print_any h ia ea ta (Nat.le_refl _) (HT.out _ hb)
    rw [if_pos lz_valid, lz_valid] at this
    exact this
  · intro W iq eq tq Es ia ea ta h hb
    have := valid_any h ia ea ta (Nat.le_refl _) (HT.out _ hb)
    rw [lz_valid] at this
    exact this
  · intro W hb
    have := decode_any (YtchinflkjcebjabGreatDoor.bk (encS lz)) W (by rw [bk_size]; decide) (HT.out _ hb)
    rw [show (YtchinflkjcebjabGreatDoor.bk (encS lz)).data.toList = encS lz from bk_data _, lz_dec.1, lz_dec.2] at this
    refine this.mono ?_
    rintro e w' ⟨iq, ia, eq, ea, tq, ta, he, hh⟩
    obtain ⟨Es, F⟩ := hh.out
    exact ⟨iq, ia, eq, ea, tq, ta, he, ⟨Es, F.m⟩, F.bel⟩
  · intro W hb
    have hz : (printS lz).length ≤ 281474976710656 := of_decide_eq_true (by kernel_rfl)
    have := assemble_any (YtchinflkjcebjabGreatDoor.bk (printS lz)) W (by rw [bk_size]; exact hz) (HT.out _ hb)
    rw [show lt (YtchinflkjcebjabGreatDoor.bk (printS lz)) = printS lz from bk_data _, lz_asmC.1, lz_asmC.2.1, lz_asmC.2.2] at this
    refine this.mono ?_
    rintro e w' ⟨iq, ia, eq, ea, tq, ta, he, hh⟩
    obtain ⟨Es, F⟩ := hh.out
    exact ⟨iq, ia, eq, ea, tq, ta, he, ⟨Es, rows_codeM F.rows F.en lz_small⟩, F.bel⟩
  · intro W iq eq tq iq' eq' tq' Es Es' ia ea ta ia' ea' ta' h h'
    exact same_any h h' ia ea ta ia' ea' ta'
  · rw [bk_size]; have := lz_enc; omega
  · rw [bk_size]; have := lz_print; omega
end Go.Proofs.YtchinflkjcebjabGreatDoor
