import Derived.Test.YtcjnejdemfemfaaGreatDoorFrP
import Derived.Test.YtcjnejdemfemfaaGreatDoorRP1
import Derived.Test.YtcjnejdemfemfaaGreatDoorRWc
import Derived.Test.YtcjnejdemfemfaaGreatDoorCLb
import Derived.Test.YtcjnejdemfemfaaGreatDoorCOp
import Derived.Deep.CutBlock
import Derived.Deep.DeepCutAuto
namespace Go.Proofs.YtcjnejdemfemfaaGreatDoor
open Go.RowKit

theorem flat_le {α β : Type} (f : α → List β) (M : Nat) : ∀ l : List α, (∀ x ∈ l, (f x).length ≤ M) → (l.flatMap f).length ≤ l.length * M
  | [], _ => by simp
  | x :: l, h => by
    have h1 := flat_le f M l (fun y hy => h y (List.mem_cons_of_mem _ hy))
    have h2 := h x (by simp)
    rw [List.flatMap_cons, List.length_append, List.length_cons, Nat.succ_mul]
    omega
theorem enc_size {c : Cd} (h : validS c = 0) : (encS c).length ≤ 281474976710656 := by
  have k := code_ok.1 h
  have hs := ok_small k
  have l1 : (c.ens.flatMap entB).length ≤ c.ens.length * 1000 := flat_le entB 1000 _ fun e he => by
    obtain ⟨a, b⟩ := hs.es e he
    unfold entB txB
    have e1 : e.name.size = e.name.data.toList.length := (Array.length_toList (xs := e.name.data)).symm
    simp only [List.length_append, List.length_cons, List.length_map, List.length_nil, numB_len]
    omega
  have l2 : (c.txs.flatMap txB).length ≤ c.txs.length * 256 := flat_le txB 256 _ fun t ht => by
    have a := hs.ts t ht
    have e1 : t.size = t.data.toList.length := (Array.length_toList (xs := t.data)).symm
    unfold txB
    simp only [List.length_cons]
    omega
  have w8 : ∀ o, shWd.getD o 0 ≤ 8 := fun o => by
    by_cases q : o < 13
    · exact (show ∀ o : Fin 13, shWd.getD o.val 0 ≤ 8 by decide) ⟨o, q⟩
    · have e : shWd.getD o 0 = 0 := by rw [List.getD_eq_getElem?_getD, List.getElem?_eq_none (by show 13 ≤ o; omega)]; rfl
      rw [e]
      omega
  have l3 : (c.ins.flatMap insB).length ≤ c.ins.length * 17 := flat_le insB 17 _ fun x hx => by
    unfold insB
    simp only [List.length_append, List.length_cons, numB_len]
    have := w8 (opA.getD x.1.toNat 0)
    have := w8 (opB.getD x.1.toNat 0)
    omega
  have a := hs.el
  have b := hs.il
  have d := hs.tl
  unfold encS
  simp only [List.length_append, List.length_cons, numB_len]
  omega
/-- A code in its box, its lists below b; the answers so far, each in a box of its own. -/
structure Fk (w W : World) (p b : Nat) (y : Cm) (K : List Cm) (B : List (Nat × Cm)) : Prop where
  bel : Below w.heap.size w W
  bw : w.heap.size ≤ b ∧ b ≤ W.heap.size
  px : Full W p 26 y.cells
  pb : p < b
  m : CodeM W b y.iq y.eq y.tq y.Es y.c
  ks : Cms W b K
  top : ∀ x ∈ K, x.hi ≤ W.heap.size
  bx : ∀ x ∈ B, Full W x.1 26 x.2.cells
theorem Fk.next {w W W' : World} {p b : Nat} {y : Cm} {K : List Cm} {B : List (Nat × Cm)} (h : Fk w W p b y K B) (q : Below W.heap.size W W') : Fk w W' p b y K B :=
  ⟨below2 h.bel q, ⟨h.bw.1, Nat.le_trans h.bw.2 q.size⟩, h.px.next q, h.pb, h.m.below q h.bw.2, h.ks.next q, fun x hx => Nat.le_trans (h.top x hx) q.size, fun x hx => (h.bx x hx).next q⟩
theorem Fk.add {w W W1 W2 : World} {p b : Nat} {y : Cm} {K : List Cm} {B : List (Nat × Cm)} {iq eq tq : Option Addr} {ia ea ta : Nat} {Es : List Em} {c : Cd} (h : Fk w W p b y K B) (q : Below W.heap.size W W1) (hr : Rows W1 W.heap.size (.slice iq c.ins.length ia) (.slice eq c.ens.length ea) (.slice tq c.txs.length ta) c.ins Es c.txs) (en : Es.map (·.1) = c.ens) (sp : SepE Es) (e : W2 = W1.alloc (.cells #[.slice iq c.ins.length ia, .slice eq c.ens.length ea, .slice tq c.txs.length ta, .int .i64 c.main] 26)) :
    Fk w W2 p b y (K ++ [⟨iq, ia, eq, ea, tq, ta, Es, c, W.heap.size, W1.heap.size⟩]) (B ++ [(W1.heap.size, ⟨iq, ia, eq, ea, tq, ta, Es, c, W.heap.size, W1.heap.size⟩)]) := by
  have q2 : Below W1.heap.size W1 W2 := by rw [e]; exact (Below.refl _ W1).alloc (Nat.le_refl _) _
  have hn := (h.next q).next q2
  refine ⟨hn.bel, hn.bw, hn.px, hn.pb, hn.m, ⟨fun x hx => ?_, fun x hx => ?_, ?_⟩, fun x hx => ?_, fun x hx => ?_⟩
  · rcases List.mem_append.1 hx with hx | hx
    · exact hn.ks.ok x hx
    · obtain rfl := List.mem_singleton.1 hx
      exact (CmOk.of hr en sp).next q2
  · rcases List.mem_append.1 hx with hx | hx
    · exact h.ks.lo x hx
    · obtain rfl := List.mem_singleton.1 hx
      exact h.bw.2
  · refine List.pairwise_append.2 ⟨h.ks.sep, List.pairwise_singleton _ _, fun x hx z hz => ?_⟩
    obtain rfl := List.mem_singleton.1 hz
    exact h.top x hx
  · rcases List.mem_append.1 hx with hx | hx
    · exact hn.top x hx
    · obtain rfl := List.mem_singleton.1 hx
      exact q2.size
  · rcases List.mem_append.1 hx with hx | hx
    · exact hn.bx x hx
    · obtain rfl := List.mem_singleton.1 hx
      rw [e]
      exact Full.new W1 _ _
theorem cm_four {W : World} {g : Nat} {x : Cm} (h : Full W g 26 x.cells) : W.cell? ⟨g, 0, none⟩ = some (.slice x.iq x.c.ins.length x.ia) ∧ W.cell? ⟨g, 1, none⟩ = some (.slice x.eq x.c.ens.length x.ea) ∧ W.cell? ⟨g, 2, none⟩ = some (.slice x.tq x.c.txs.length x.ta) ∧ W.cell? ⟨g, 3, none⟩ = some (.int .i64 x.c.main) :=
  ⟨(h.cell 0 _ rfl).1, (h.cell 1 _ rfl).1, (h.cell 2 _ rfl).1, (h.cell 3 _ rfl).1⟩
theorem lz_in : In64 lz := fun x hx => by
  obtain rfl := List.mem_singleton.1 hx
  exact ⟨⟨by decide, by decide⟩, ⟨by decide, by decide⟩⟩

/-- A code in its box. -/
structure Fj (w W : World) (p : Nat) (iq : Option Addr) (ia : Nat) (eq : Option Addr) (ea : Nat) (tq : Option Addr) (ta : Nat) (Es : List Em) (c : Cd) : Prop where
  bel : Below w.heap.size w W
  px : Full W p 26 [.slice iq c.ins.length ia, .slice eq c.ens.length ea, .slice tq c.txs.length ta, .int .i64 c.main]
  m : CodeM W W.heap.size iq eq tq Es c
section
variable {w W W' : World} {p b : Nat} {iq eq tq : Option Addr} {ia ea ta l u : Nat} {Es : List Em} {c : Cd} {K : List Cm} {B : List (Nat × Cm)}
theorem Fj.next (h : Fj w W p iq ia eq ea tq ta Es c) (q : Below W.heap.size W W') : Fj w W' p iq ia eq ea tq ta Es c := ⟨below2 h.bel q, h.px.next q, (h.m.below q (Nat.le_refl _)).up q.size⟩
theorem Fj.fk (h : Fj w W p iq ia eq ea tq ta Es c) : ∃ b, Hid (Fk w W p b ⟨iq, ia, eq, ea, tq, ta, Es, c, 0, 0⟩ [] []) :=
  ⟨W.heap.size, h.bel, ⟨h.bel.size, Nat.le_refl _⟩, h.px, h.px.lt, h.m, ⟨(fun x hx => by cases hx), (fun x hx => by cases hx), List.Pairwise.nil⟩, (fun x hx => by cases hx), (fun x hx => by cases hx)⟩
theorem Fk.spoilt (h : Fk w W p b ⟨iq, ia, eq, ea, tq, ta, Es, c, l, u⟩ K B) (q : Below b W W') : Fj w W' p iq ia eq ea tq ta Es c :=
  ⟨h.bel.trans (q.mono h.bw.1), h.px.low q h.pb, (h.m.below q (Nat.le_refl _)).up (Nat.le_trans h.bw.2 q.size)⟩
theorem Fk.same (h : Fk w W p b ⟨iq, ia, eq, ea, tq, ta, Es, c, l, u⟩ K B) {iq' eq' tq' : Option Addr} {ia' ea' ta' l' u' : Nat} {Es' : List Em} (hx : (⟨iq', ia', eq', ea', tq', ta', Es', c, l', u'⟩ : Cm) ∈ K) (sm : Small c) :
    Calls Tryz.prog 11 #[aggC iq' eq' tq' ia' ea' ta' c, aggC iq eq tq ia ea ta c] W fun e w' => ∃ v, e = .returned v ∧ (v = .bool true ∧ Below W.heap.size W w') := by
  have k := h.ks.ok _ hx
  exact (same_any (rows_codeM k.rows k.en sm) (h.m.up h.bw.2) ia' ea' ta' ia ea ta).mono fun e w' ⟨h1, h2⟩ => ⟨_, h1, rfl, h2⟩
theorem Fk.box (h : Fk w W p b ⟨iq, ia, eq, ea, tq, ta, Es, c, l, u⟩ K B) : W.cell? ⟨p, 0, none⟩ = some (.slice iq c.ins.length ia) ∧ W.cell? ⟨p, 1, none⟩ = some (.slice eq c.ens.length ea) ∧ W.cell? ⟨p, 2, none⟩ = some (.slice tq c.txs.length ta) ∧ W.cell? ⟨p, 3, none⟩ = some (.int .i64 c.main) := cm_four h.px
theorem Fk.boxK {d : Cd} {g : Nat} {y : Cm} (h : Fk w W p b y K B) (hx : (g, (⟨iq, ia, eq, ea, tq, ta, Es, d, l, u⟩ : Cm)) ∈ B) : W.cell? ⟨g, 0, none⟩ = some (.slice iq d.ins.length ia) ∧ W.cell? ⟨g, 1, none⟩ = some (.slice eq d.ens.length ea) ∧ W.cell? ⟨g, 2, none⟩ = some (.slice tq d.txs.length ta) ∧ W.cell? ⟨g, 3, none⟩ = some (.int .i64 d.main) := cm_four (h.bx _ hx)
end
theorem callSm (a b : Value) (w : World) : (callFunc 11 #[a, b]).run Tryz.prog w = .ok (.enter 11 #[a, b]) w := by kernel_rfl
theorem lz_entok : 0 < lz.ens.length := by decide
theorem k_small {x : Cm} {W : World} (h : CmOk W x) (sm : CodeOk x.c) : (x.Es.length ≤ 1000 ∧ x.c.ins.length ≤ 100000000 ∧ x.c.txs.length ≤ 100000000) ∧ ∀ y ∈ x.Es, y.1.sorts.length ≤ 100000000 := by
  have e : x.Es.length = x.c.ens.length := by rw [← h.en, List.length_map]
  have h1 := sm.el
  have h2 := sm.il
  have h3 := sm.tl
  refine ⟨⟨by omega, by omega, by omega⟩, fun y hy => ?_⟩
  have hm : y.1 ∈ x.c.ens := by rw [← h.en]; exact List.mem_map_of_mem hy
  have := (ent_ok.1 (sm.es _ hm)).sl
  omega

set_option maxRecDepth 100000 in
set_option maxHeartbeats 16000000 in
theorem codeFresh_any {w : World} {iq eq tq : Option Addr} {Es : List Em} {c : Cd} (h : ArgC w iq eq tq Es c) (ia ea ta : Nat) (ht : Tabs w) : Calls Tryz.prog 3 #[codeV iq eq tq ia ea ta c] w fun e w' => e = .returned (.bool true) ∧ Below w.heap.size w w' := by
  show Calls Tryz.prog 3 #[aggC iq eq tq ia ea ta c] w _
  have HT : Hid (∀ W, Below w.heap.size w W → Tabs W) := fun W hW => ht.next hW
  obtain ⟨W1, hW1⟩ : ∃ W1, W1 = w.alloc (.cells #[.slice iq c.ins.length ia, .slice eq c.ens.length ea, .slice tq c.txs.length ta, .int .i64 c.main] 26) := ⟨_, rfl⟩
  have H1 : Hid (Fj w W1 w.heap.size iq ia eq ea tq ta Es c) := by
    have q : Below w.heap.size w W1 := by rw [hW1]; exact (Below.refl _ w).alloc (Nat.le_refl _) _
    exact ⟨q, by rw [hW1]; exact Full.new w _ _, (h.m.below q (Nat.le_refl _)).up q.size⟩
  have H64 : Hid (In64 c) := h.in64
  have v1 := rvalid_any H1.out.m ia ea ta (Nat.le_refl _) h.in64
  unfold codeV at v1
  obtain ⟨V, HV⟩ : ∃ V : Int, Hid (V = validS c) := ⟨_, (rfl : validS c = validS c)⟩
  rw [← HV.out] at v1
  obtain ⟨x0, x1, x2, x3⟩ := H1.out.px.four
  clear h ht
  go_enter Tryz.func3, Tryz.ntmps3
  go_upto_region 1 with fail
  rw [← hW1]
  clear hW1
  go_wp2_with fail
  refine v1.mono ?_
  rintro e W2 ⟨rfl, hw2⟩
  have H2 : Hid (Fj w W2 w.heap.size iq ia eq ea tq ta Es c) := H1.out.next hw2
  clear v1 x0 x1 x2 x3 H1 hw2 W1
  obtain ⟨p, HP⟩ : ∃ p, Hid (p = w.heap.size) := ⟨_, (rfl : w.heap.size = w.heap.size)⟩
  have HPw : Hid (w.heap.size ≤ p) := by show w.heap.size ≤ p; rw [HP.out]; exact Nat.le_refl _
  rw [← HP.out] at H2
  go_upto_if 28 with fail
  rw [← HP.out]
  clear HP
  go_cut [2] (fun u2 wx => u2 = .bool false ∧ ∃ iq ia eq ea tq ta Es c, Hid (Fj w wx p iq ia eq ea tq ta Es c) ∧ Hid (validS c = 0 ∧ In64 c))
  case first =>
    by_cases hv : V = 0
    · subst hv
      go_wp2
      go_meet
      case rel => exact ⟨rfl, iq, ia, eq, ea, tq, ta, Es, c, H2, HV.out.symm, H64.out⟩
    · have hv1 : (V != 0) = true := by rw [bne_iff_ne]; exact hv
      have l2 := least_any W2
      obtain ⟨z0, y0⟩ := H2.out.px.cell 0 _ rfl
      obtain ⟨z1, y1⟩ := H2.out.px.cell 1 _ rfl
      obtain ⟨z2, y2⟩ := H2.out.px.cell 2 _ rfl
      obtain ⟨z3, y3⟩ := H2.out.px.cell 3 _ rfl
      unfold codeV at l2
      have hl : lz.ins.length = 1 ∧ lz.ens.length = 1 ∧ lz.txs.length = 0 ∧ lz.main = 0 := ⟨rfl, rfl, rfl, rfl⟩
      rw [hl.1, hl.2.1, hl.2.2.1, hl.2.2.2] at l2
      go_wp2_with fail
      refine l2.mono ?_
      rintro e W3 ⟨g1, g2, rfl, hw3⟩
      obtain ⟨m3, b3⟩ := hw3.out
      have H3 : Hid (Fj w W3 p iq ia eq ea tq ta Es c) := H2.out.next b3
      have HM : Hid (CodeM W3 W3.heap.size (some ⟨g1, 0, none⟩) (some ⟨g2, 0, none⟩) none [(⟨lzN, 0, 0, [], 0⟩, none, 0)] lz) := m3
      clear hw3 m3 b3 l2 z0 z1 z2 z3 y0 y1 y2 y3 H2 hl
      obtain ⟨z0, y0⟩ := H3.out.px.cell 0 _ rfl
      obtain ⟨z1, y1⟩ := H3.out.px.cell 1 _ rfl
      obtain ⟨z2, y2⟩ := H3.out.px.cell 2 _ rfl
      obtain ⟨z3, y3⟩ := H3.out.px.cell 3 _ rfl
      have HS : Hid (Fj w (W3.setCells p 0 [.slice (some ⟨g1, 0, none⟩) 1 1, .slice (some ⟨g2, 0, none⟩) 1 1, .slice none 0 0, .int .i64 0]) p (some ⟨g1, 0, none⟩) 1 (some ⟨g2, 0, none⟩) 1 none 0 [(⟨lzN, 0, 0, [], 0⟩, none, 0)] lz) := by
        have q := below_sets H3.out.bel HPw.out 0 [.slice (some ⟨g1, 0, none⟩) 1 1, .slice (some ⟨g2, 0, none⟩) 1 1, .slice none 0 0, .int .i64 0]
        have f := Full.put (g := p) (t := 26) [.slice (some ⟨g1, 0, none⟩) 1 1, .slice (some ⟨g2, 0, none⟩) 1 1, .slice none 0 0, .int .i64 0] (a := []) (b := [.slice iq c.ins.length ia, .slice eq c.ens.length ea, .slice tq c.txs.length ta, .int .i64 c.main]) (d := []) H3.out.px rfl
        refine ⟨q, f, ?_⟩
        have g1p : g1 ≠ p := fun e => by
          obtain ⟨g, o, e1, -, hr⟩ := HM.out.ir (by decide)
          cases e1
          have := hr 0 (.int .i64 13) rfl
          rw [Nat.zero_add, e, z0] at this
          cases this
        have g2p : g2 ≠ p := fun e => by
          obtain ⟨g, o, e1, -, hr⟩ := HM.out.er (by decide)
          cases e1
          have := hr 0 (.string lzN) rfl
          rw [Nat.zero_add, e, z0] at this
          cases this
        have hq : Below p W3 (W3.setCells p 0 [.slice (some ⟨g1, 0, none⟩) 1 1, .slice (some ⟨g2, 0, none⟩) 1 1, .slice none 0 0, .int .i64 0]) := below_sets (Below.refl _ W3) (Nat.le_refl _) 0 _
        have M := HM.out
        refine CodeM.up (B := W3.heap.size) ⟨M.en, fun hn => ?_, fun hn => ?_, fun hn => absurd hn (by decide), fun x hx => ⟨fun hn => ?_, (M.sr x hx).2⟩, M.il, M.el, M.tl, M.ts⟩ hq.size
        · obtain ⟨g, o, e1, e2, e3⟩ := M.ir hn
          cases e1
          exact ⟨g1, 0, rfl, e2, range_same e3 (sets_heap g1p _ _ _)⟩
        · obtain ⟨g, o, e1, e2, e3⟩ := M.er hn
          cases e1
          exact ⟨g2, 0, rfl, e2, range_same e3 (sets_heap g2p _ _ _)⟩
        · obtain rfl := List.mem_singleton.1 hx
          exact absurd hn (by decide)
      go_wp2
      go_meet
      case rel => exact ⟨rfl, _, _, _, _, _, _, _, _, HS, lz_valid, lz_in⟩
  case rest =>
    obtain ⟨rfl, iq, ia, eq, ea, tq, ta, Es, c, H3, HC⟩ := hcut
    clear H2 HV H64 HPw
    skip

    have HOk : Hid (CodeOk c) := code_ok.1 HC.out.1
    have HDe : Hid (∀ W, Below w.heap.size w W → Calls Tryz.prog 8 #[.string (YtcjnejdemfemfaaGreatDoor.bk (encS c))] W fun e w' => ∃ iq ia eq ea tq ta, e = .returned (.tuple #[aggC iq eq tq ia ea ta c, .int .i64 0]) ∧ Hid (∃ Es, RowsF W w' iq ia eq ea tq ta Es c ∧ SepE Es)) := fun W hb => by
      have := decode_sep (YtcjnejdemfemfaaGreatDoor.bk (encS c)) W (by rw [bk_size]; exact enc_size HC.out.1) (HT.out _ hb)
      have e1 : decC (encS c) = c := by unfold decC; rw [dec_enc HC.out.1]; rfl
      have e2 : decE (encS c) = 0 := by unfold decE; rw [dec_enc HC.out.1]; rfl
      rw [show (YtcjnejdemfemfaaGreatDoor.bk (encS c)).data.toList = encS c from bk_data _, e1, e2] at this
      refine this.mono ?_
      rintro e w' ⟨iq, ia, eq, ea, tq, ta, he, hh⟩
      obtain ⟨Es, F, S⟩ := hh.out
      exact ⟨iq, ia, eq, ea, tq, ta, he, Es, ⟨F.bel, F.rows, F.en⟩, S⟩
    have HAs : Hid (∀ W, Below w.heap.size w W → Calls Tryz.prog 9 #[.string (YtcjnejdemfemfaaGreatDoor.bk (printS c))] W fun e w' => ∃ iq ia eq ea tq ta, e = .returned (.tuple #[aggC iq eq tq ia ea ta c, .int .i64 0, .int .i64 0]) ∧ Hid (∃ Es, RowsF W w' iq ia eq ea tq ta Es c ∧ SepE Es)) := fun W hb => by
      have := assemble_sep (YtcjnejdemfemfaaGreatDoor.bk (printS c)) W (by rw [bk_size]; exact Nat.le_trans (print_len HOk.out) (by decide)) (HT.out _ hb)
      have hA := asm_print HC.out.1
      have e1 : asmC (printS c) = c := by unfold asmC; rw [hA]
      have e2 : asmE (printS c) = 0 := by unfold asmE; rw [hA]
      have e3 : asmN (printS c) = 0 := by unfold asmN; rw [hA]
      rw [show lt (YtcjnejdemfemfaaGreatDoor.bk (printS c)) = printS c from bk_data _, e1, e2, e3] at this
      exact this
    have HDz : Hid (∀ W, Below w.heap.size w W → Calls Tryz.prog 8 #[.string (YtcjnejdemfemfaaGreatDoor.bk (encS lz))] W fun e w' => ∃ iq ia eq ea tq ta, e = .returned (.tuple #[aggC iq eq tq ia ea ta lz, .int .i64 0]) ∧ Hid (∃ Es, RowsF W w' iq ia eq ea tq ta Es lz ∧ SepE Es)) := fun W hb => by
      have := decode_sep (YtcjnejdemfemfaaGreatDoor.bk (encS lz)) W (by rw [bk_size]; exact enc_size lz_valid) (HT.out _ hb)
      rw [show (YtcjnejdemfemfaaGreatDoor.bk (encS lz)).data.toList = encS lz from bk_data _, lz_dec.1, lz_dec.2] at this
      refine this.mono ?_
      rintro e w' ⟨iq, ia, eq, ea, tq, ta, he, hh⟩
      obtain ⟨Es, F, S⟩ := hh.out
      exact ⟨iq, ia, eq, ea, tq, ta, he, Es, ⟨F.bel, F.rows, F.en⟩, S⟩
    have HEn : Hid (∀ W, Fj w W p iq ia eq ea tq ta Es c → Calls Tryz.prog 6 #[aggC iq eq tq ia ea ta c] W fun e w' => e = .returned (.tuple #[.string (YtcjnejdemfemfaaGreatDoor.bk (encS c)), .int .i64 0]) ∧ Below W.heap.size W w') := fun W hW => by
      have := rencode_any hW.m ia ea ta HC.out.2
      rw [if_pos HC.out.1, HC.out.1] at this
      exact this
    have HPr : Hid (∀ W, Fj w W p iq ia eq ea tq ta Es c → Calls Tryz.prog 7 #[aggC iq eq tq ia ea ta c] W fun e w' => e = .returned (.tuple #[.string (YtcjnejdemfemfaaGreatDoor.bk (printS c)), .int .i64 0]) ∧ Below W.heap.size W w') := fun W hW => by
      have := rprint_any hW.m ia ea ta HC.out.2 (HT.out _ hW.bel)
      rw [if_pos HC.out.1, HC.out.1] at this
      exact this
    have HLe : Hid (∀ W : World, Calls Tryz.prog 5 #[] W fun e w' => ∃ g1 g2, e = .returned (aggC (some ⟨g1, 0, none⟩) (some ⟨g2, 0, none⟩) none 1 1 0 lz) ∧ Hid (CodeM w' w'.heap.size (some ⟨g1, 0, none⟩) (some ⟨g2, 0, none⟩) none [(⟨lzN, 0, 0, [], 0⟩, none, 0)] lz ∧ Below W.heap.size W w')) := least_any
    have HEz : Hid (∀ (W : World) (g1 g2 : Nat), Below w.heap.size w W → CodeM W W.heap.size (some ⟨g1, 0, none⟩) (some ⟨g2, 0, none⟩) none [(⟨lzN, 0, 0, [], 0⟩, none, 0)] lz → Calls Tryz.prog 10 #[aggC (some ⟨g1, 0, none⟩) (some ⟨g2, 0, none⟩) none 1 1 0 lz] W fun e w' => e = .returned (.tuple #[.string (YtcjnejdemfemfaaGreatDoor.bk (encS lz)), .int .i64 0]) ∧ Below W.heap.size W w') := fun W g1 g2 hb hm => by
      have := encode_any hm 1 1 0 (Nat.le_refl _) (HT.out _ hb)
      rw [if_pos lz_valid, lz_valid] at this
      exact this
    have HSm : Hid (Small c) := ok_small HOk.out
    have HZk : Hid (CodeOk lz) := code_ok.1 lz_valid
    have HZe : Hid (0 < lz.ens.length) := lz_entok
    generalize YtcjnejdemfemfaaGreatDoor.bk (encS c) = bs at *
    generalize YtcjnejdemfemfaaGreatDoor.bk (printS c) = ts at *
    generalize YtcjnejdemfemfaaGreatDoor.bk (encS lz) = bz at *
    generalize lz = z at *
    clear HT HC
    obtain ⟨x0, x1, x2, x3⟩ := H3.out.px.four
    have e3 := HEn.out wc H3.out
    go_wp2_with fail
    refine e3.mono ?_
    rintro e W4 ⟨rfl, hw4⟩
    have H4 : Hid (Fj w W4 p iq ia eq ea tq ta Es c) := H3.out.next hw4
    clear e3 x0 x1 x2 x3 H3 hw4 HEn
    obtain ⟨x0, x1, x2, x3⟩ := H4.out.px.four
    have e4 := HPr.out W4 H4.out
    go_wp2_with fail
    refine e4.mono ?_
    rintro e W5 ⟨rfl, hw5⟩
    have H5 : Hid (Fj w W5 p iq ia eq ea tq ta Es c) := H4.out.next hw5
    clear e4 x0 x1 x2 x3 H4 hw5 HPr W4
    obtain ⟨b, K0⟩ := H5.out.fk
    clear H5
    have d1 := HDe.out W5 K0.out.bel
    go_wp2_with fail
    refine d1.mono ?_
    rintro e V1 ⟨iq1, ia1, eq1, ea1, tq1, ta1, rfl, hv1⟩
    obtain ⟨U1, hU1⟩ : ∃ U, U = V1.alloc (.cells #[.slice iq1 c.ins.length ia1, .slice eq1 c.ens.length ea1, .slice tq1 c.txs.length ta1, .int .i64 c.main] 26) := ⟨_, rfl⟩
    obtain ⟨Es1, R1, S1⟩ := hv1.out
    have K1 : Hid (Fk w U1 p b ⟨iq, ia, eq, ea, tq, ta, Es, c, 0, 0⟩ [⟨iq1, ia1, eq1, ea1, tq1, ta1, Es1, c, W5.heap.size, V1.heap.size⟩] [(V1.heap.size, ⟨iq1, ia1, eq1, ea1, tq1, ta1, Es1, c, W5.heap.size, V1.heap.size⟩)]) := K0.out.add R1.bel R1.rows R1.en S1 hU1
    clear hv1 R1 S1 d1 K0
    go_upto_region 6 with fail
    rw [← hU1]
    clear hU1
    generalize V1.heap.size = g1 at *
    generalize W5.heap.size = l1 at *
    clear V1 W5
    have d2 := HDe.out U1 K1.out.bel
    go_wp2_with fail
    refine d2.mono ?_
    rintro e V2 ⟨iq2, ia2, eq2, ea2, tq2, ta2, rfl, hv2⟩
    obtain ⟨U2, hU2⟩ : ∃ U, U = V2.alloc (.cells #[.slice iq2 c.ins.length ia2, .slice eq2 c.ens.length ea2, .slice tq2 c.txs.length ta2, .int .i64 c.main] 26) := ⟨_, rfl⟩
    obtain ⟨Es2, R2, S2⟩ := hv2.out
    have K2 : Hid (Fk w U2 p b ⟨iq, ia, eq, ea, tq, ta, Es, c, 0, 0⟩ [⟨iq1, ia1, eq1, ea1, tq1, ta1, Es1, c, l1, g1⟩, ⟨iq2, ia2, eq2, ea2, tq2, ta2, Es2, c, U1.heap.size, V2.heap.size⟩] [(g1, ⟨iq1, ia1, eq1, ea1, tq1, ta1, Es1, c, l1, g1⟩), (V2.heap.size, ⟨iq2, ia2, eq2, ea2, tq2, ta2, Es2, c, U1.heap.size, V2.heap.size⟩)]) := K1.out.add R2.bel R2.rows R2.en S2 hU2
    clear hv2 R2 S2 d2 K1
    go_upto_region 7 with fail
    rw [← hU2]
    clear hU2
    generalize V2.heap.size = g2 at *
    generalize U1.heap.size = l2 at *
    clear V2 U1
    have d3 := HAs.out U2 K2.out.bel
    go_wp2_with fail
    refine d3.mono ?_
    rintro e V3 ⟨iq3, ia3, eq3, ea3, tq3, ta3, rfl, hv3⟩
    obtain ⟨U3, hU3⟩ : ∃ U, U = V3.alloc (.cells #[.slice iq3 c.ins.length ia3, .slice eq3 c.ens.length ea3, .slice tq3 c.txs.length ta3, .int .i64 c.main] 26) := ⟨_, rfl⟩
    obtain ⟨Es3, R3, S3⟩ := hv3.out
    have K3 : Hid (Fk w U3 p b ⟨iq, ia, eq, ea, tq, ta, Es, c, 0, 0⟩ [⟨iq1, ia1, eq1, ea1, tq1, ta1, Es1, c, l1, g1⟩, ⟨iq2, ia2, eq2, ea2, tq2, ta2, Es2, c, l2, g2⟩, ⟨iq3, ia3, eq3, ea3, tq3, ta3, Es3, c, U2.heap.size, V3.heap.size⟩] [(g1, ⟨iq1, ia1, eq1, ea1, tq1, ta1, Es1, c, l1, g1⟩), (g2, ⟨iq2, ia2, eq2, ea2, tq2, ta2, Es2, c, l2, g2⟩), (V3.heap.size, ⟨iq3, ia3, eq3, ea3, tq3, ta3, Es3, c, U2.heap.size, V3.heap.size⟩)]) := K2.out.add R3.bel R3.rows R3.en S3 hU3
    clear hv3 R3 S3 d3 K2
    go_upto_region 8 with fail
    rw [← hU3]
    clear hU3
    generalize V3.heap.size = g3 at *
    generalize U2.heap.size = l3 at *
    clear V3 U2
    have d4 := HAs.out U3 K3.out.bel
    go_wp2_with fail
    refine d4.mono ?_
    rintro e V4 ⟨iq4, ia4, eq4, ea4, tq4, ta4, rfl, hv4⟩
    obtain ⟨U4, hU4⟩ : ∃ U, U = V4.alloc (.cells #[.slice iq4 c.ins.length ia4, .slice eq4 c.ens.length ea4, .slice tq4 c.txs.length ta4, .int .i64 c.main] 26) := ⟨_, rfl⟩
    obtain ⟨Es4, R4, S4⟩ := hv4.out
    have K4 : Hid (Fk w U4 p b ⟨iq, ia, eq, ea, tq, ta, Es, c, 0, 0⟩ [⟨iq1, ia1, eq1, ea1, tq1, ta1, Es1, c, l1, g1⟩, ⟨iq2, ia2, eq2, ea2, tq2, ta2, Es2, c, l2, g2⟩, ⟨iq3, ia3, eq3, ea3, tq3, ta3, Es3, c, l3, g3⟩, ⟨iq4, ia4, eq4, ea4, tq4, ta4, Es4, c, U3.heap.size, V4.heap.size⟩] [(g1, ⟨iq1, ia1, eq1, ea1, tq1, ta1, Es1, c, l1, g1⟩), (g2, ⟨iq2, ia2, eq2, ea2, tq2, ta2, Es2, c, l2, g2⟩), (g3, ⟨iq3, ia3, eq3, ea3, tq3, ta3, Es3, c, l3, g3⟩), (V4.heap.size, ⟨iq4, ia4, eq4, ea4, tq4, ta4, Es4, c, U3.heap.size, V4.heap.size⟩)]) := K3.out.add R4.bel R4.rows R4.en S4 hU4
    clear hv4 R4 S4 d4 K3
    go_upto_region 9 with fail
    rw [← hU4]
    clear hU4
    generalize V4.heap.size = g4 at *
    generalize U3.heap.size = l4 at *
    clear V4 U3
    have n4 := HLe.out U4
    go_wp2_with fail
    refine n4.mono ?_
    rintro e X1 ⟨h1, h2, rfl, hx1⟩
    obtain ⟨mz, bz1⟩ := hx1.out
    have K4a : Hid (Fk w X1 p b ⟨iq, ia, eq, ea, tq, ta, Es, c, 0, 0⟩ [⟨iq1, ia1, eq1, ea1, tq1, ta1, Es1, c, l1, g1⟩, ⟨iq2, ia2, eq2, ea2, tq2, ta2, Es2, c, l2, g2⟩, ⟨iq3, ia3, eq3, ea3, tq3, ta3, Es3, c, l3, g3⟩, ⟨iq4, ia4, eq4, ea4, tq4, ta4, Es4, c, l4, g4⟩] [(g1, ⟨iq1, ia1, eq1, ea1, tq1, ta1, Es1, c, l1, g1⟩), (g2, ⟨iq2, ia2, eq2, ea2, tq2, ta2, Es2, c, l2, g2⟩), (g3, ⟨iq3, ia3, eq3, ea3, tq3, ta3, Es3, c, l3, g3⟩), (g4, ⟨iq4, ia4, eq4, ea4, tq4, ta4, Es4, c, l4, g4⟩)]) := K4.out.next bz1
    have n5 := HEz.out X1 h1 h2 K4a.out.bel mz
    clear n4 hx1 K4 bz1 U4 mz
    go_wp2_with fail
    refine n5.mono ?_
    rintro e X2 ⟨rfl, hx2⟩
    have K4 : Hid (Fk w X2 p b ⟨iq, ia, eq, ea, tq, ta, Es, c, 0, 0⟩ [⟨iq1, ia1, eq1, ea1, tq1, ta1, Es1, c, l1, g1⟩, ⟨iq2, ia2, eq2, ea2, tq2, ta2, Es2, c, l2, g2⟩, ⟨iq3, ia3, eq3, ea3, tq3, ta3, Es3, c, l3, g3⟩, ⟨iq4, ia4, eq4, ea4, tq4, ta4, Es4, c, l4, g4⟩] [(g1, ⟨iq1, ia1, eq1, ea1, tq1, ta1, Es1, c, l1, g1⟩), (g2, ⟨iq2, ia2, eq2, ea2, tq2, ta2, Es2, c, l2, g2⟩), (g3, ⟨iq3, ia3, eq3, ea3, tq3, ta3, Es3, c, l3, g3⟩), (g4, ⟨iq4, ia4, eq4, ea4, tq4, ta4, Es4, c, l4, g4⟩)]) := K4a.out.next hx2
    clear n5 hx2 K4a X1
    have d5 := HDz.out X2 K4.out.bel
    go_wp2_with fail
    refine d5.mono ?_
    rintro e V5 ⟨iq5, ia5, eq5, ea5, tq5, ta5, rfl, hv5⟩
    obtain ⟨U5, hU5⟩ : ∃ U, U = V5.alloc (.cells #[.slice iq5 z.ins.length ia5, .slice eq5 z.ens.length ea5, .slice tq5 z.txs.length ta5, .int .i64 z.main] 26) := ⟨_, rfl⟩
    obtain ⟨Es5, R5, S5⟩ := hv5.out
    have K5 : Hid (Fk w U5 p b ⟨iq, ia, eq, ea, tq, ta, Es, c, 0, 0⟩ [⟨iq1, ia1, eq1, ea1, tq1, ta1, Es1, c, l1, g1⟩, ⟨iq2, ia2, eq2, ea2, tq2, ta2, Es2, c, l2, g2⟩, ⟨iq3, ia3, eq3, ea3, tq3, ta3, Es3, c, l3, g3⟩, ⟨iq4, ia4, eq4, ea4, tq4, ta4, Es4, c, l4, g4⟩, ⟨iq5, ia5, eq5, ea5, tq5, ta5, Es5, z, X2.heap.size, V5.heap.size⟩] [(g1, ⟨iq1, ia1, eq1, ea1, tq1, ta1, Es1, c, l1, g1⟩), (g2, ⟨iq2, ia2, eq2, ea2, tq2, ta2, Es2, c, l2, g2⟩), (g3, ⟨iq3, ia3, eq3, ea3, tq3, ta3, Es3, c, l3, g3⟩), (g4, ⟨iq4, ia4, eq4, ea4, tq4, ta4, Es4, c, l4, g4⟩), (V5.heap.size, ⟨iq5, ia5, eq5, ea5, tq5, ta5, Es5, z, X2.heap.size, V5.heap.size⟩)]) := K4.out.add R5.bel R5.rows R5.en S5 hU5
    clear hv5 R5 S5 d5 K4
    go_upto_region 13 with fail
    rw [← hU5]
    clear hU5
    generalize V5.heap.size = g5 at *
    generalize X2.heap.size = l5 at *
    clear V5 X2
    obtain ⟨x0, x1, x2, x3⟩ := K5.out.box
    obtain ⟨y0, y1, y2, y3⟩ := K5.out.boxK (.head _)
    have s1 := K5.out.same (.head _) HSm.out
    go_wp2_with fail
    refine s1.mono ?_
    rintro e Z1 ⟨v, rfl, rfl, hz1⟩
    have L1 : Hid (Fk w Z1 p b ⟨iq, ia, eq, ea, tq, ta, Es, c, 0, 0⟩ [⟨iq1, ia1, eq1, ea1, tq1, ta1, Es1, c, l1, g1⟩, ⟨iq2, ia2, eq2, ea2, tq2, ta2, Es2, c, l2, g2⟩, ⟨iq3, ia3, eq3, ea3, tq3, ta3, Es3, c, l3, g3⟩, ⟨iq4, ia4, eq4, ea4, tq4, ta4, Es4, c, l4, g4⟩, ⟨iq5, ia5, eq5, ea5, tq5, ta5, Es5, z, l5, g5⟩] [(g1, ⟨iq1, ia1, eq1, ea1, tq1, ta1, Es1, c, l1, g1⟩), (g2, ⟨iq2, ia2, eq2, ea2, tq2, ta2, Es2, c, l2, g2⟩), (g3, ⟨iq3, ia3, eq3, ea3, tq3, ta3, Es3, c, l3, g3⟩), (g4, ⟨iq4, ia4, eq4, ea4, tq4, ta4, Es4, c, l4, g4⟩), (g5, ⟨iq5, ia5, eq5, ea5, tq5, ta5, Es5, z, l5, g5⟩)]) := K5.out.next hz1
    clear s1 x0 x1 x2 x3 y0 y1 y2 y3 K5 hz1 U5
    obtain ⟨x0, x1, x2, x3⟩ := L1.out.box
    obtain ⟨y0, y1, y2, y3⟩ := L1.out.boxK (.tail _ (.tail _ (.head _)))
    have s2 := L1.out.same (.tail _ (.tail _ (.head _))) HSm.out
    go_upto_region 15 with (first
      | (refine wpList_callG (by rfl) 11 [.tmp 103, .tmp 104] #[26, 26] [.agg #[.slice iq4 c.ins.length ia4, .slice eq4 c.ens.length ea4, .slice tq4 c.txs.length ta4, .int .i64 c.main], .agg #[.slice iq c.ins.length ia, .slice eq c.ens.length ea, .slice tq c.txs.length ta, .int .i64 c.main]] (by rfl) (by rfl) (callSm _ _) _ s4 ?_; rintro v Z4 ⟨rfl, hz4⟩; have L4 : Hid (Fk w Z4 p b ⟨iq, ia, eq, ea, tq, ta, Es, c, 0, 0⟩ [⟨iq1, ia1, eq1, ea1, tq1, ta1, Es1, c, l1, g1⟩, ⟨iq2, ia2, eq2, ea2, tq2, ta2, Es2, c, l2, g2⟩, ⟨iq3, ia3, eq3, ea3, tq3, ta3, Es3, c, l3, g3⟩, ⟨iq4, ia4, eq4, ea4, tq4, ta4, Es4, c, l4, g4⟩, ⟨iq5, ia5, eq5, ea5, tq5, ta5, Es5, z, l5, g5⟩] [(g1, ⟨iq1, ia1, eq1, ea1, tq1, ta1, Es1, c, l1, g1⟩), (g2, ⟨iq2, ia2, eq2, ea2, tq2, ta2, Es2, c, l2, g2⟩), (g3, ⟨iq3, ia3, eq3, ea3, tq3, ta3, Es3, c, l3, g3⟩), (g4, ⟨iq4, ia4, eq4, ea4, tq4, ta4, Es4, c, l4, g4⟩), (g5, ⟨iq5, ia5, eq5, ea5, tq5, ta5, Es5, z, l5, g5⟩)]) := L3.out.next hz4; clear s4 x0 x1 x2 x3 y0 y1 y2 y3 hz4 L3)
      | (refine wpList_callG (by rfl) 11 [.tmp 97, .tmp 98] #[26, 26] [.agg #[.slice iq2 c.ins.length ia2, .slice eq2 c.ens.length ea2, .slice tq2 c.txs.length ta2, .int .i64 c.main], .agg #[.slice iq c.ins.length ia, .slice eq c.ens.length ea, .slice tq c.txs.length ta, .int .i64 c.main]] (by rfl) (by rfl) (callSm _ _) _ s3 ?_; rintro v Z3 ⟨rfl, hz3⟩; have L3 : Hid (Fk w Z3 p b ⟨iq, ia, eq, ea, tq, ta, Es, c, 0, 0⟩ [⟨iq1, ia1, eq1, ea1, tq1, ta1, Es1, c, l1, g1⟩, ⟨iq2, ia2, eq2, ea2, tq2, ta2, Es2, c, l2, g2⟩, ⟨iq3, ia3, eq3, ea3, tq3, ta3, Es3, c, l3, g3⟩, ⟨iq4, ia4, eq4, ea4, tq4, ta4, Es4, c, l4, g4⟩, ⟨iq5, ia5, eq5, ea5, tq5, ta5, Es5, z, l5, g5⟩] [(g1, ⟨iq1, ia1, eq1, ea1, tq1, ta1, Es1, c, l1, g1⟩), (g2, ⟨iq2, ia2, eq2, ea2, tq2, ta2, Es2, c, l2, g2⟩), (g3, ⟨iq3, ia3, eq3, ea3, tq3, ta3, Es3, c, l3, g3⟩), (g4, ⟨iq4, ia4, eq4, ea4, tq4, ta4, Es4, c, l4, g4⟩), (g5, ⟨iq5, ia5, eq5, ea5, tq5, ta5, Es5, z, l5, g5⟩)]) := L2.out.next hz3; clear s3 x0 x1 x2 x3 y0 y1 y2 y3 hz3 L2; obtain ⟨x0, x1, x2, x3⟩ := L3.out.box; obtain ⟨y0, y1, y2, y3⟩ := L3.out.boxK (.tail _ (.tail _ (.tail _ (.head _)))); have s4 := L3.out.same (.tail _ (.tail _ (.tail _ (.head _)))) HSm.out)
      | (refine wpList_callG (by rfl) 11 [.tmp 91, .tmp 92] #[26, 26] [.agg #[.slice iq3 c.ins.length ia3, .slice eq3 c.ens.length ea3, .slice tq3 c.txs.length ta3, .int .i64 c.main], .agg #[.slice iq c.ins.length ia, .slice eq c.ens.length ea, .slice tq c.txs.length ta, .int .i64 c.main]] (by rfl) (by rfl) (callSm _ _) _ s2 ?_; rintro v Z2 ⟨rfl, hz2⟩; have L2 : Hid (Fk w Z2 p b ⟨iq, ia, eq, ea, tq, ta, Es, c, 0, 0⟩ [⟨iq1, ia1, eq1, ea1, tq1, ta1, Es1, c, l1, g1⟩, ⟨iq2, ia2, eq2, ea2, tq2, ta2, Es2, c, l2, g2⟩, ⟨iq3, ia3, eq3, ea3, tq3, ta3, Es3, c, l3, g3⟩, ⟨iq4, ia4, eq4, ea4, tq4, ta4, Es4, c, l4, g4⟩, ⟨iq5, ia5, eq5, ea5, tq5, ta5, Es5, z, l5, g5⟩] [(g1, ⟨iq1, ia1, eq1, ea1, tq1, ta1, Es1, c, l1, g1⟩), (g2, ⟨iq2, ia2, eq2, ea2, tq2, ta2, Es2, c, l2, g2⟩), (g3, ⟨iq3, ia3, eq3, ea3, tq3, ta3, Es3, c, l3, g3⟩), (g4, ⟨iq4, ia4, eq4, ea4, tq4, ta4, Es4, c, l4, g4⟩), (g5, ⟨iq5, ia5, eq5, ea5, tq5, ta5, Es5, z, l5, g5⟩)]) := L1.out.next hz2; clear s2 x0 x1 x2 x3 y0 y1 y2 y3 hz2 L1; obtain ⟨x0, x1, x2, x3⟩ := L2.out.box; obtain ⟨y0, y1, y2, y3⟩ := L2.out.boxK (.tail _ (.head _)); have s3 := L2.out.same (.tail _ (.head _)) HSm.out)
      | go_in)

    obtain ⟨a10, a11, a12, a13⟩ := L4.out.boxK (.head _)
    obtain ⟨a20, a21, a22, a23⟩ := L4.out.boxK (.tail _ (.head _))
    obtain ⟨a30, a31, a32, a33⟩ := L4.out.boxK (.tail _ (.tail _ (.head _)))
    obtain ⟨a40, a41, a42, a43⟩ := L4.out.boxK (.tail _ (.tail _ (.tail _ (.head _))))
    obtain ⟨a50, a51, a52, a53⟩ := L4.out.boxK (.tail _ (.tail _ (.tail _ (.tail _ (.head _)))))
    obtain ⟨Zb, hZb⟩ : ∃ Zb, Zb = Z4.alloc (.cells #[.slice iq1 c.ins.length ia1, .slice eq1 c.ens.length ea1, .slice tq1 c.txs.length ta1, .int .i64 c.main, .slice iq2 c.ins.length ia2, .slice eq2 c.ens.length ea2, .slice tq2 c.txs.length ta2, .int .i64 c.main, .slice iq3 c.ins.length ia3, .slice eq3 c.ens.length ea3, .slice tq3 c.txs.length ta3, .int .i64 c.main, .slice iq4 c.ins.length ia4, .slice eq4 c.ens.length ea4, .slice tq4 c.txs.length ta4, .int .i64 c.main, .slice iq5 z.ins.length ia5, .slice eq5 z.ens.length ea5, .slice tq5 z.txs.length ta5, .int .i64 z.main] 26) := ⟨_, rfl⟩
    have L5 : Hid (Fk w Zb p b ⟨iq, ia, eq, ea, tq, ta, Es, c, 0, 0⟩ [⟨iq1, ia1, eq1, ea1, tq1, ta1, Es1, c, l1, g1⟩, ⟨iq2, ia2, eq2, ea2, tq2, ta2, Es2, c, l2, g2⟩, ⟨iq3, ia3, eq3, ea3, tq3, ta3, Es3, c, l3, g3⟩, ⟨iq4, ia4, eq4, ea4, tq4, ta4, Es4, c, l4, g4⟩, ⟨iq5, ia5, eq5, ea5, tq5, ta5, Es5, z, l5, g5⟩] [(g1, ⟨iq1, ia1, eq1, ea1, tq1, ta1, Es1, c, l1, g1⟩), (g2, ⟨iq2, ia2, eq2, ea2, tq2, ta2, Es2, c, l2, g2⟩), (g3, ⟨iq3, ia3, eq3, ea3, tq3, ta3, Es3, c, l3, g3⟩), (g4, ⟨iq4, ia4, eq4, ea4, tq4, ta4, Es4, c, l4, g4⟩), (g5, ⟨iq5, ia5, eq5, ea5, tq5, ta5, Es5, z, l5, g5⟩)]) := L4.out.next (by rw [hZb]; exact (Below.refl _ Z4).alloc (Nat.le_refl _) _)
    have HPb : Hid (Zb.heap[Z4.heap.size]? = some (.cells (List.flatMap Cm.cells [⟨iq1, ia1, eq1, ea1, tq1, ta1, Es1, c, l1, g1⟩, ⟨iq2, ia2, eq2, ea2, tq2, ta2, Es2, c, l2, g2⟩, ⟨iq3, ia3, eq3, ea3, tq3, ta3, Es3, c, l3, g3⟩, ⟨iq4, ia4, eq4, ea4, tq4, ta4, Es4, c, l4, g4⟩, ⟨iq5, ia5, eq5, ea5, tq5, ta5, Es5, z, l5, g5⟩]).toArray 26)) := by
      show Zb.heap[Z4.heap.size]? = _
      rw [hZb]
      exact World.alloc_heap_new Z4 _
    have HNe : Hid (0 < (List.flatMap Cm.Es [⟨iq1, ia1, eq1, ea1, tq1, ta1, Es1, c, l1, g1⟩, ⟨iq2, ia2, eq2, ea2, tq2, ta2, Es2, c, l2, g2⟩, ⟨iq3, ia3, eq3, ea3, tq3, ta3, Es3, c, l3, g3⟩, ⟨iq4, ia4, eq4, ea4, tq4, ta4, Es4, c, l4, g4⟩, ⟨iq5, ia5, eq5, ea5, tq5, ta5, Es5, z, l5, g5⟩]).length) := by
      show 0 < _
      have e1 := (L5.out.ks.ok _ (.head _)).en
      have e2 : Es1.length = c.ens.length := by
        have := congrArg List.length e1
        rw [List.length_map] at this
        exact this
      have := HOk.out.ml
      have := HOk.out.m0
      rw [List.flatMap_cons, List.length_append]
      show 0 < Es1.length + _
      omega
    have sp : Calls Tryz.prog 12 #[.slice (some ⟨Z4.heap.size, 0, none⟩) 5 5] Zb fun e w' => e = .returned (.bool true) ∧ Below b Zb w' := spoil_any Zb Z4.heap.size 5 b [⟨iq1, ia1, eq1, ea1, tq1, ta1, Es1, c, l1, g1⟩, ⟨iq2, ia2, eq2, ea2, tq2, ta2, Es2, c, l2, g2⟩, ⟨iq3, ia3, eq3, ea3, tq3, ta3, Es3, c, l3, g3⟩, ⟨iq4, ia4, eq4, ea4, tq4, ta4, Es4, c, l4, g4⟩, ⟨iq5, ia5, eq5, ea5, tq5, ta5, Es5, z, l5, g5⟩] L5.out.ks HPb.out (by show 5 ≤ 100; decide) (fun x hx => k_small (L5.out.ks.ok x hx) (by
      simp only [List.mem_cons, List.not_mem_nil, or_false] at hx
      rcases hx with rfl | rfl | rfl | rfl | rfl
      · exact HOk.out
      · exact HOk.out
      · exact HOk.out
      · exact HOk.out
      · exact HZk.out)) ⟨by show 0 < 5; decide, HNe.out⟩ L5.out.bw.2
    clear HNe HPb L4
    go_wp2_with fail
    rw [← hZb]
    refine sp.mono ?_
    rintro e Q1 ⟨rfl, hq1⟩
    have J : Hid (Fj w Q1 p iq ia eq ea tq ta Es c) := L5.out.spoilt hq1
    clear sp hq1 L5 hZb a10 a11 a12 a13 a20 a21 a22 a23 a30 a31 a32 a33 a40 a41 a42 a43 a50 a51 a52 a53 Zb
    obtain ⟨b, K5⟩ := J.out.fk
    clear J
    have d6 := HDe.out Q1 K5.out.bel
    go_wp2_with fail
    refine d6.mono ?_
    rintro e V6 ⟨iq6, ia6, eq6, ea6, tq6, ta6, rfl, hv6⟩
    obtain ⟨U6, hU6⟩ : ∃ U, U = V6.alloc (.cells #[.slice iq6 c.ins.length ia6, .slice eq6 c.ens.length ea6, .slice tq6 c.txs.length ta6, .int .i64 c.main] 26) := ⟨_, rfl⟩
    obtain ⟨Es6, R6, S6⟩ := hv6.out
    have K6 : Hid (Fk w U6 p b ⟨iq, ia, eq, ea, tq, ta, Es, c, 0, 0⟩ [⟨iq6, ia6, eq6, ea6, tq6, ta6, Es6, c, Q1.heap.size, V6.heap.size⟩] [(V6.heap.size, ⟨iq6, ia6, eq6, ea6, tq6, ta6, Es6, c, Q1.heap.size, V6.heap.size⟩)]) := K5.out.add R6.bel R6.rows R6.en S6 hU6
    clear hv6 R6 S6 d6 K5
    go_upto_region 18 with fail
    rw [← hU6]
    clear hU6
    generalize V6.heap.size = g6 at *
    generalize Q1.heap.size = l6 at *
    clear V6 Q1
    have d7 := HAs.out U6 K6.out.bel
    go_wp2_with fail
    refine d7.mono ?_
    rintro e V7 ⟨iq7, ia7, eq7, ea7, tq7, ta7, rfl, hv7⟩
    obtain ⟨U7, hU7⟩ : ∃ U, U = V7.alloc (.cells #[.slice iq7 c.ins.length ia7, .slice eq7 c.ens.length ea7, .slice tq7 c.txs.length ta7, .int .i64 c.main] 26) := ⟨_, rfl⟩
    obtain ⟨Es7, R7, S7⟩ := hv7.out
    have K7 : Hid (Fk w U7 p b ⟨iq, ia, eq, ea, tq, ta, Es, c, 0, 0⟩ [⟨iq6, ia6, eq6, ea6, tq6, ta6, Es6, c, l6, g6⟩, ⟨iq7, ia7, eq7, ea7, tq7, ta7, Es7, c, U6.heap.size, V7.heap.size⟩] [(g6, ⟨iq6, ia6, eq6, ea6, tq6, ta6, Es6, c, l6, g6⟩), (V7.heap.size, ⟨iq7, ia7, eq7, ea7, tq7, ta7, Es7, c, U6.heap.size, V7.heap.size⟩)]) := K6.out.add R7.bel R7.rows R7.en S7 hU7
    clear hv7 R7 S7 d7 K6
    go_upto_region 19 with fail
    rw [← hU7]
    clear hU7
    generalize V7.heap.size = g7 at *
    generalize U6.heap.size = l7 at *
    clear V7 U6
    obtain ⟨x0, x1, x2, x3⟩ := K7.out.box
    obtain ⟨y0, y1, y2, y3⟩ := K7.out.boxK (.head _)
    have s6 := K7.out.same (.head _) HSm.out
    go_wp2_with (first
      | (refine wpList_callG (by rfl) 11 [.tmp 139, .tmp 140] #[26, 26] [.agg #[.slice iq7 c.ins.length ia7, .slice eq7 c.ens.length ea7, .slice tq7 c.txs.length ta7, .int .i64 c.main], .agg #[.slice iq c.ins.length ia, .slice eq c.ens.length ea, .slice tq c.txs.length ta, .int .i64 c.main]] (by rfl) (by rfl) (callSm _ _) _ s7 ?_; rintro v Z7 ⟨rfl, hz7⟩; have HF : Hid (Below w.heap.size w Z7) := below2 L6.out.bel hz7; clear s7 x0 x1 x2 x3 y0 y1 y2 y3 hz7 L6)
      | (refine wpList_callG (by rfl) 11 [.tmp 134, .tmp 135] #[26, 26] [.agg #[.slice iq6 c.ins.length ia6, .slice eq6 c.ens.length ea6, .slice tq6 c.txs.length ta6, .int .i64 c.main], .agg #[.slice iq c.ins.length ia, .slice eq c.ens.length ea, .slice tq c.txs.length ta, .int .i64 c.main]] (by rfl) (by rfl) (callSm _ _) _ s6 ?_; rintro v Z6 ⟨rfl, hz6⟩; have L6 : Hid (Fk w Z6 p b ⟨iq, ia, eq, ea, tq, ta, Es, c, 0, 0⟩ [⟨iq6, ia6, eq6, ea6, tq6, ta6, Es6, c, l6, g6⟩, ⟨iq7, ia7, eq7, ea7, tq7, ta7, Es7, c, l7, g7⟩] [(g6, ⟨iq6, ia6, eq6, ea6, tq6, ta6, Es6, c, l6, g6⟩), (g7, ⟨iq7, ia7, eq7, ea7, tq7, ta7, Es7, c, l7, g7⟩)]) := K7.out.next hz6; clear s6 x0 x1 x2 x3 y0 y1 y2 y3 hz6 K7; obtain ⟨x0, x1, x2, x3⟩ := L6.out.box; obtain ⟨y0, y1, y2, y3⟩ := L6.out.boxK (.tail _ (.head _)); have s7 := L6.out.same (.tail _ (.head _)) HSm.out)
      | go_in)
    go_ret
    exact ⟨rfl, HF.out⟩
end Go.Proofs.YtcjnejdemfemfaaGreatDoor
