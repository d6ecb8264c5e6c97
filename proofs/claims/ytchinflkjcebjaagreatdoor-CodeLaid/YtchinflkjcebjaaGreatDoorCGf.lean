import Derived.Test.YtchinflkjcebjaaGreatDoorCGe
import Derived.Test.YtchinflkjcebjaaGreatDoorCLb
import Derived.Test.YtchinflkjcebjaaGreatDoorCOp
namespace Go.Proofs.YtchinflkjcebjaaGreatDoor
open Go.ChangeShapes Go.WideShapes Go.ChangeAt Go.RowKit

theorem list2L {α : Type} {xs : List α} (h : xs.length = 2) : ∃ c0 c1, xs = [c0, c1] := by
  match xs, h with
  | [c0, c1], _ => exact ⟨c0, c1, rfl⟩
set_option maxRecDepth 100000 in
theorem open_code_cells {H : Type} {enc : TypeId × Value → H} {W : World} {base : Nat} {spare : Nat → Bool} {held : Bool} {fuel : Nat} {c0 c1 c2 c3 : Value} {x : DataW H × List MemPlace} (hf : DataW.trod enc Tryz.prog W base spare held fuel 28 [c0, c1, c2, c3] = some x) (hd : Light 28 x.1) :
    ∃ (iq eq tq : Option Addr) (ia ea ta : Nat) (Es : List Em) (c : Cd), (c0 = .slice iq c.ins.length ia ∧ c1 = .slice eq c.ens.length ea ∧ c2 = .slice tq c.txs.length ta ∧ c3 = .int .i64 c.main) ∧ ArgC W iq eq tq Es c := by
  obtain ⟨xs, m, _, hx, _, hlen, hfs⟩ := DataW.trod_struct Tryz.underlying28 hf
  obtain ⟨z0, z1, z2, z3, rfl⟩ := list4 hlen
  have g0 : DataW.trod enc Tryz.prog W base spare held m 24 [c0] = some z0 := by have := hfs 0 _ rfl; simpa [Value.cells, cLi] using this
  have g1 : DataW.trod enc Tryz.prog W base spare held m 25 [c1] = some z1 := by have := hfs 1 _ rfl; simpa [Value.cells, cLi, cLe] using this
  have g2 : DataW.trod enc Tryz.prog W base spare held m 26 [c2] = some z2 := by have := hfs 2 _ rfl; simpa [Value.cells, cLi, cLe, cLt] using this
  have g3 : DataW.trod enc Tryz.prog W base spare held m 3 [c3] = some z3 := by have := hfs 3 _ rfl; simpa [Value.cells, cLi, cLe, cLt, cNum] using this
  obtain ⟨x1, x2⟩ := x
  simp only [Prod.mk.injEq] at hx
  have hd0 := hx.1
  subst hd0
  have hz : ∀ (j : Nat) (t : TypeId) (z : DataW H), ([24, 25, 26, 3] : List TypeId)[j]? = some t → ([z0, z1, z2, z3].map (·.1))[j]? = some z → Light t z := fun j t z h1 h2 k hk => hd k (by
    simp only [DataW.weights, Tryz.underlying28]
    exact DataW.weights_mem_each (P := Tryz.prog) (ts := [24, 25, 26, 3]) (ds := [z0, z1, z2, z3].map (·.1)) (j := j) h1 h2 k hk)
  obtain ⟨iq, ia, I, e0, ib, irow, hI⟩ := slice_row (m := 3) (by omega) ic (fun _ => rfl) (fun a : In => i64 a.1 ∧ i64 a.2.1 ∧ i64 a.2.2) Tryz.underlying24 cIns g0 (hz 0 _ _ rfl rfl) op_ins
  obtain ⟨eq, ea, E, e1, eb, erow, hE⟩ := slice_row (m := 5) (by omega) ec (fun _ => rfl) (EmOk W) Tryz.underlying25 cEnt g1 (hz 1 _ _ rfl rfl) op_ent
  obtain ⟨tq, ta, T, e2, tb, trow, hT⟩ := slice_row (m := 1) (by omega) (fun a : ByteArray => [Value.string a]) (fun _ => rfl) (fun a : ByteArray => a.size ≤ 140737488351232) Tryz.underlying26 cStr g2 (hz 2 _ _ rfl rfl) op_str
  obtain ⟨mn, e3, -, w3⟩ := DataW.trod_int Tryz.underlying3 g3
  simp at e3
  rw [bIns, reach_eq] at ib
  rw [bEnt, reach_eq] at eb
  rw [bStr, reach_eq] at tb
  rw [flat_one] at trow
  have hlE : (E.map (·.1)).length = E.length := List.length_map ..
  refine ⟨iq, eq, tq, ia, ea, ta, E, ⟨I, E.map (·.1), T, mn⟩, ?_, ⟨⟨rfl, irow, ?_, trow, fun x hx => ⟨(hE x hx).1.1, ?_, ?_⟩, ?_, ?_, ?_, fun t ht => ?_⟩, ib, ?_, tb, hE, hI, hT, wf_i64 w3⟩⟩
  · simp only; rw [hlE]
    exact ⟨e0, e1, e2, e3⟩
  · simp only; rw [hlE]; exact erow
  · have := (hE x hx).2.1; omega
  · have := (hE x hx).1.2; omega
  · simp only; omega
  · simp only; rw [hlE]; omega
  · simp only; omega
  · have := hT t ht; omega
  · simp only; rw [hlE]; exact eb
theorem cLaid : Tryz.prog.cellsOf 37 = 5 := by kernel_rfl
/-- The argument opened. -/
structure ArgL (W : World) (iq eq tq gq : Option Addr) (Es : List Em) (c : Cd) (G : List ByteArray) : Prop where
  c : ArgC W iq eq tq Es c
  r : Row W W.heap.size gq G.length (tv G)
  l : G.length ≤ 140737488351232
  s : ∀ x ∈ G, x.size ≤ 140737488351232
set_option maxRecDepth 100000 in
theorem open_laid {H : Type} {enc : TypeId × Value → H} {W : World} {base b0 : Nat} {spare : Nat → Bool} {held : Bool} {r : Reach} {v : Value} {d : DataW H} {p : List MemPlace} (hv : Value.okWide Tryz.prog W r b0 37 v) (h : DataW.Trod enc Tryz.prog W base spare held 37 v d p) (hd : Light 37 d) :
    ∃ (iq eq tq gq : Option Addr) (ia ea ta ga : Nat) (Es : List Em) (c : Cd) (G : List ByteArray), v = .agg #[.slice iq c.ins.length ia, .slice eq c.ens.length ea, .slice tq c.txs.length ta, .int .i64 c.main, .slice gq G.length ga] ∧ ArgL W iq eq tq gq Es c G := by
  obtain ⟨cs, rfl, hsz⟩ := okWide_struct Tryz.underlying37 hv
  obtain ⟨c0, c1, c2, c3, c4, rfl⟩ : ∃ c0 c1 c2 c3 c4, cs = #[c0, c1, c2, c3, c4] := by
    have h1 : cs.size = 5 := hsz.trans cLaid
    obtain ⟨l⟩ := cs
    match l, h1 with
    | [c0, c1, c2, c3, c4], _ => exact ⟨c0, c1, c2, c3, c4, rfl⟩
  obtain ⟨fuel, hf⟩ := h
  obtain ⟨xs, m, _, hx, _, hlen, hfs⟩ := DataW.trod_struct Tryz.underlying37 hf
  obtain ⟨z0, z1, rfl⟩ := list2L hlen
  have g0 : DataW.trod enc Tryz.prog W base spare held m 28 [c0, c1, c2, c3] = some z0 := by have := hfs 0 _ rfl; simpa [Value.cells, cCode] using this
  have g1 : DataW.trod enc Tryz.prog W base spare held m 26 [c4] = some z1 := by have := hfs 1 _ rfl; simpa [Value.cells, cCode, cLt] using this
  simp only [Prod.mk.injEq] at hx
  have hd0 := hx.1
  subst hd0
  have hz : ∀ (j : Nat) (t : TypeId) (z : DataW H), ([28, 26] : List TypeId)[j]? = some t → ([z0, z1].map (·.1))[j]? = some z → Light t z := fun j t z h1 h2 k hk => hd k (by
    simp only [DataW.weights, Tryz.underlying37]
    exact DataW.weights_mem_each (P := Tryz.prog) (ts := [28, 26]) (ds := [z0, z1].map (·.1)) (j := j) h1 h2 k hk)
  obtain ⟨iq, eq, tq, ia, ea, ta, Es, c, e0, hC⟩ := open_code_cells g0 (hz 0 _ _ rfl rfl)
  obtain ⟨gq, ga, G, e1, gb, grow, hG⟩ := slice_row (m := 1) (by omega) (fun a : ByteArray => [Value.string a]) (fun _ => rfl) (fun a : ByteArray => a.size ≤ 140737488351232) Tryz.underlying26 cStr g1 (hz 1 _ _ rfl rfl) op_str
  rw [bStr, reach_eq] at gb
  rw [flat_one] at grow
  refine ⟨iq, eq, tq, gq, ia, ea, ta, ga, Es, c, G, ?_, ⟨hC, grow, by omega, hG⟩⟩
  obtain ⟨rfl, rfl, rfl, rfl⟩ := e0
  rw [e1]
/-- What the calls say. -/
structure Kl (w : World) (c : Cd) (G : List ByteArray) (V : Int) (pb sp : ByteArray) : Prop where
  pr : ∀ {W : World} {iq eq tq : Option Addr} {Es : List Em} (ia ea ta : Nat), CodeM W W.heap.size iq eq tq Es c → Below w.heap.size w W → Calls Tryz.prog 10 #[aggC iq eq tq ia ea ta c] W fun e w' => e = .returned (.tuple #[.string pb, .int .i64 V]) ∧ Below W.heap.size W w'
  spr : V = 0 → ∀ {W : World} (a0 a1 a2 a3 : Value) {gq : Option Addr} (ga : Nat), Row W W.heap.size gq G.length (tv G) → Calls Tryz.prog 11 #[.agg #[a0, a1, a2, a3, .slice gq G.length ga], .string pb] W fun e w' => e = .returned (.string sp) ∧ Below W.heap.size W w'
  asm : V = 0 → ∀ W : World, Below w.heap.size w W → Calls Tryz.prog 7 #[.string sp] W fun e w' => ∃ iq ia eq ea tq ta, e = .returned (.tuple #[aggC iq eq tq ia ea ta c, .int .i64 0, .int .i64 0]) ∧ Hid ((∃ Es, CodeM w' w'.heap.size iq eq tq Es c) ∧ Below W.heap.size W w')
  sa : ∀ {W : World} {iq eq tq iq' eq' tq' : Option Addr} {Es Es' : List Em} (ia ea ta ia' ea' ta' : Nat), CodeM W W.heap.size iq eq tq Es c → CodeM W W.heap.size iq' eq' tq' Es' c → Calls Tryz.prog 12 #[aggC iq eq tq ia ea ta c, aggC iq' eq' tq' ia' ea' ta' c] W fun e w' => e = .returned (.bool true) ∧ Below W.heap.size W w'
  kn : ∀ W : World, Below w.heap.size w W → Calls Tryz.prog 9 #[] W fun e w' => e = .returned (.bool true) ∧ Below W.heap.size W w'
set_option maxRecDepth 100000 in
set_option maxHeartbeats 4000000 in
theorem laid_no (w : World) (c : Cd) (G : List ByteArray) (V : Int) (iq eq tq gq : Option Addr) (ia ea ta ga : Nat) (pb sp : ByteArray) (hV : V = 2 ∨ V = 130) (K : Hid (Kl w c G V pb sp)) (hm : Hid (∃ Es, CodeM w w.heap.size iq eq tq Es c)) : Calls Tryz.prog 4 #[.agg #[.slice iq c.ins.length ia, .slice eq c.ens.length ea, .slice tq c.txs.length ta, .int .i64 c.main, .slice gq G.length ga]] w fun e w' => e = .returned (.bool true) ∧ Below w.heap.size w w' := by
  obtain ⟨W1, hW1⟩ : ∃ W1, W1 = w.alloc (.cells #[.slice iq c.ins.length ia, .slice eq c.ens.length ea, .slice tq c.txs.length ta, .int .i64 c.main, .slice gq G.length ga] 37) := ⟨_, rfl⟩
  have H1 : Hid (Lb W1 w.heap.size (.slice iq c.ins.length ia) (.slice eq c.ens.length ea) (.slice tq c.txs.length ta) (.int .i64 c.main) gq ga G ∧ Below w.heap.size w W1) := by
    rw [hW1]
    exact ⟨World.alloc_heap_new w _, (Below.refl _ w).alloc (Nat.le_refl _) _⟩
  go_enter Tryz.func4, Tryz.ntmps4
  go_upto_region 1 with fail
  rw [← hW1]
  clear hW1
  obtain ⟨x0, x1, x2, x3, x4⟩ := H1.out.1.cs
  obtain ⟨Es, hm1⟩ := hm.out
  have p1 := K.out.pr ia ea ta ((hm1.below H1.out.2 (Nat.le_refl _)).up H1.out.2.size) H1.out.2
  clear hm1
  go_wp2_with fail
  refine p1.mono ?_
  rintro e W2 ⟨rfl, hw2⟩
  have H2 : Hid (Below w.heap.size w W2) := below2 H1.out.2 hw2
  have k := K.out.kn W2 H2.out
  clear p1 hw2 x0 x1 x2 x3 x4 H1 hm K
  rcases hV with rfl | rfl
  · go_wp2_with fail
    refine k.mono ?_
    rintro e W3 ⟨rfl, hw3⟩
    have H3 : Hid (Below w.heap.size w W3) := below2 H2.out hw3
    clear k hw3 H2
    go_wp2
    go_ret
    exact ⟨rfl, H3.out⟩
  · go_wp2_with fail
    refine k.mono ?_
    rintro e W3 ⟨rfl, hw3⟩
    have H3 : Hid (Below w.heap.size w W3) := below2 H2.out hw3
    clear k hw3 H2
    go_wp2
    go_ret
    exact ⟨rfl, H3.out⟩
set_option maxRecDepth 100000 in
set_option maxHeartbeats 4000000 in
theorem laid_yes (w : World) (c : Cd) (G : List ByteArray) (iq eq tq gq : Option Addr) (ia ea ta ga : Nat) (pb sp : ByteArray) (K : Hid (Kl w c G 0 pb sp)) (hm : Hid (∃ Es, CodeM w w.heap.size iq eq tq Es c)) (hr : Hid (Row w w.heap.size gq G.length (tv G))) : Calls Tryz.prog 4 #[.agg #[.slice iq c.ins.length ia, .slice eq c.ens.length ea, .slice tq c.txs.length ta, .int .i64 c.main, .slice gq G.length ga]] w fun e w' => e = .returned (.bool true) ∧ Below w.heap.size w w' := by
  obtain ⟨W1, hW1⟩ : ∃ W1, W1 = w.alloc (.cells #[.slice iq c.ins.length ia, .slice eq c.ens.length ea, .slice tq c.txs.length ta, .int .i64 c.main, .slice gq G.length ga] 37) := ⟨_, rfl⟩
  have H1 : Hid (Lb W1 w.heap.size (.slice iq c.ins.length ia) (.slice eq c.ens.length ea) (.slice tq c.txs.length ta) (.int .i64 c.main) gq ga G ∧ Below w.heap.size w W1) := by
    rw [hW1]
    exact ⟨World.alloc_heap_new w _, (Below.refl _ w).alloc (Nat.le_refl _) _⟩
  go_enter Tryz.func4, Tryz.ntmps4
  go_upto_region 1 with fail
  rw [← hW1]
  clear hW1
  obtain ⟨x0, x1, x2, x3, x4⟩ := H1.out.1.cs
  obtain ⟨Es, hm1⟩ := hm.out
  have p1 := K.out.pr ia ea ta ((hm1.below H1.out.2 (Nat.le_refl _)).up H1.out.2.size) H1.out.2
  clear hm1
  go_wp2_with fail
  refine p1.mono ?_
  rintro e W2 ⟨rfl, hw2⟩
  have H2 : Hid (Lb W2 w.heap.size (.slice iq c.ins.length ia) (.slice eq c.ens.length ea) (.slice tq c.txs.length ta) (.int .i64 c.main) gq ga G ∧ Below w.heap.size w W2) := ⟨H1.out.1.next hw2, below2 H1.out.2 hw2⟩
  clear p1 hw2 x0 x1 x2 x3 x4 H1
  obtain ⟨x0, x1, x2, x3, x4⟩ := H2.out.1.cs
  have s2 := K.out.spr rfl (.slice iq c.ins.length ia) (.slice eq c.ens.length ea) (.slice tq c.txs.length ta) (.int .i64 c.main) ga ((hr.out.below H2.out.2 (Nat.le_refl _)).up H2.out.2.size)
  go_wp2_with fail
  refine s2.mono ?_
  rintro e W3 ⟨rfl, hw3⟩
  have H3 : Hid (Lb W3 w.heap.size (.slice iq c.ins.length ia) (.slice eq c.ens.length ea) (.slice tq c.txs.length ta) (.int .i64 c.main) gq ga G ∧ Below w.heap.size w W3) := ⟨H2.out.1.next hw3, below2 H2.out.2 hw3⟩
  have a3 := K.out.asm rfl W3 H3.out.2
  clear s2 hw3 x0 x1 x2 x3 x4 H2
  go_wp2_with fail
  refine a3.mono ?_
  rintro e W4 ⟨jq, ja, kq, ka, lq, la, rfl, hh4⟩
  obtain ⟨W5, hW5⟩ : ∃ W5, W5 = W4.alloc (.cells #[.slice jq c.ins.length ja, .slice kq c.ens.length ka, .slice lq c.txs.length la, .int .i64 c.main] 28) := ⟨_, rfl⟩
  have H5 : Hid (Lb W5 w.heap.size (.slice iq c.ins.length ia) (.slice eq c.ens.length ea) (.slice tq c.txs.length ta) (.int .i64 c.main) gq ga G ∧ Below w.heap.size w W5) := by
    have nb : Below W4.heap.size W4 W5 := by rw [hW5]; exact (Below.refl _ W4).alloc (Nat.le_refl _) _
    exact ⟨(H3.out.1.next hh4.out.2).next nb, below2 (below2 H3.out.2 hh4.out.2) nb⟩
  have H6 : Hid (Bx W5 W4.heap.size jq kq lq ja ka la c) := by rw [hW5]; exact Bx.new ja ka la hh4.out.1
  clear a3 hh4 H3
  go_upto_region 5 with fail
  rw [← hW5]
  clear hW5
  generalize W4.heap.size = p4 at *
  obtain ⟨x0, x1, x2, x3, x4⟩ := H5.out.1.cs
  obtain ⟨y0, y1, y2, y3⟩ := H6.out.cs
  obtain ⟨Es, hm1⟩ := hm.out
  obtain ⟨Es', hm2⟩ := H6.out.m
  have s5 := K.out.sa ja ka la ia ea ta hm2 ((hm1.below H5.out.2 (Nat.le_refl _)).up H5.out.2.size)
  clear hm1 hm2
  go_wp2_with fail
  refine s5.mono ?_
  rintro e W6 ⟨rfl, hw6⟩
  have H7 : Hid (Below w.heap.size w W6) := below2 H5.out.2 hw6
  clear s5 hw6 x0 x1 x2 x3 x4 y0 y1 y2 y3 H5 H6 hm hr K
  go_wp2
  go_ret
  exact ⟨rfl, H7.out⟩
theorem codeLaid_any {w : World} {iq eq tq gq : Option Addr} {Es : List Em} {c : Cd} {G : List ByteArray} (h : ArgL w iq eq tq gq Es c G) (ia ea ta ga : Nat) (ht : Tabs w) : Calls Tryz.prog 4 #[.agg #[.slice iq c.ins.length ia, .slice eq c.ens.length ea, .slice tq c.txs.length ta, .int .i64 c.main, .slice gq G.length ga]] w fun e w' => e = .returned (.bool true) ∧ Below w.heap.size w w' := by
  have HT : Hid (∀ W, Below w.heap.size w W → Tabs W) := fun W hW => ht.next hW
  have hm : ∃ Es, CodeM w w.heap.size iq eq tq Es c := ⟨Es, h.c.m⟩
  have K : Kl w c G (validS c) (if validS c = 0 then YtchinflkjcebjaaGreatDoor.bk (printS c) else e0) (YtchinflkjcebjaaGreatDoor.bk (spS (gS G) false 0 (printS c))) := by
    refine ⟨fun ia ea ta h hb => print_any h ia ea ta (Nat.le_refl _) (HT.out _ hb), ?_, ?_, fun ia ea ta ia' ea' ta' h h' => same_any h h' ia ea ta ia' ea' ta', fun W hb => known_any W (HT.out _ hb)⟩
    · intro hV W a0 a1 a2 a3 gq ga hr
      rw [if_pos hV]
      have hl := print_len (code_ok.1 hV)
      have e := show lt (YtchinflkjcebjaaGreatDoor.bk (printS c)) = printS c from bk_data _
      have := spread_any a0 a1 a2 a3 gq ga G (YtchinflkjcebjaaGreatDoor.bk (printS c)) W hr h.l h.s (by rw [bk_size]; omega) (by rw [e]; exact (asm_laid hV (gS G)).2)
      rw [e] at this
      exact this
    · intro hV W hb
      have hl := print_len (code_ok.1 hV)
      have hs := sp_len (gS G) (printS c).length false 0 (printS c) (Nat.le_refl _)
      have := assemble_any (YtchinflkjcebjaaGreatDoor.bk (spS (gS G) false 0 (printS c))) W (by rw [bk_size]; omega) (HT.out _ hb)
      have hA := (asm_laid hV (gS G)).1
      have e1 : asmC (spS (gS G) false 0 (printS c)) = c := by unfold asmC; rw [hA]
      have e2 : asmE (spS (gS G) false 0 (printS c)) = 0 := by unfold asmE; rw [hA]
      have e3 : asmN (spS (gS G) false 0 (printS c)) = 0 := by unfold asmN; rw [hA]
      rw [show lt (YtchinflkjcebjaaGreatDoor.bk (spS (gS G) false 0 (printS c))) = spS (gS G) false 0 (printS c) from bk_data _, e1, e2, e3] at this
      refine this.mono ?_
      rintro e w' ⟨iq, ia, eq, ea, tq, ta, he, hh⟩
      obtain ⟨Es, F⟩ := hh.out
      exact ⟨iq, ia, eq, ea, tq, ta, he, ⟨Es, rows_codeM F.rows F.en (ok_small (code_ok.1 hV))⟩, F.bel⟩
  have hv : validS c = 0 ∨ validS c = 2 ∨ validS c = 130 := by
    unfold validS
    split
    · exact .inr (.inl rfl)
    · split
      · exact .inl rfl
      · exact .inr (.inr rfl)
  rcases hv with hv | hv
  · rw [hv] at K; exact laid_yes w c G iq eq tq gq ia ea ta ga _ _ K hm h.r
  · exact laid_no w c G _ iq eq tq gq ia ea ta ga _ _ hv K hm
end Go.Proofs.YtchinflkjcebjaaGreatDoor
