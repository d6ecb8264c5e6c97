import Derived.Test.YtcjnejdemfemfaaGreatDoorCRg
namespace Go.Proofs.YtcjnejdemfemfaaGreatDoor
open Go.RowKit

theorem rdT_len (s : Rs) : (rdT s).1.length ≤ 255 := by
  have h1 := (numV_one (rdB 1 s).1 (rdB_len 1 s)).2
  have h2 : (rdN 1 s).1 < 256 := h1
  have h3 := rdB_len (rdN 1 s).1.toNat (rdN 1 s).2
  have h0 := rdN_rng 1 (by decide) s
  show (rdB (rdN 1 s).1.toNat (rdN 1 s).2).1.length ≤ 255
  omega
theorem rep_mem {α : Type} (f : Rs → α × Rs) : ∀ (k : Nat) (s : Rs) (x : α), x ∈ (rep f k s).1 → ∃ s', x = (f s').1
  | 0, s, x, h => by cases h
  | k + 1, s, x, h => by
    rw [rep] at h
    rcases List.mem_cons.1 h with q | q
    · exact ⟨s, q⟩
    · exact rep_mem f k _ x q
structure Small (c : Cd) : Prop where
  el : c.ens.length ≤ 60
  il : c.ins.length ≤ 60000
  tl : c.txs.length ≤ 4000
  es : ∀ e ∈ c.ens, e.name.size ≤ 255 ∧ e.sorts.length ≤ 250
  ts : ∀ t ∈ c.txs, t.size ≤ 255
theorem code_small (s : Rs) : Small (rdCode s).1 := by
  rw [rdCode_eq]
  refine ⟨?_, ?_, ?_, fun e he => ?_, fun t ht => ?_⟩
  · simp only [rep_len]; exact rdC_le 1 60 (by decide) _
  · simp only [rep_len]; exact rdC_le 4 60000 (by decide) _
  · simp only [rep_len, List.length_map]; exact rdC_le 2 4000 (by decide) _
  · obtain ⟨s', rfl⟩ := rep_mem _ _ _ _ he
    rw [rdE_eq]
    simp only [rep_len, bk_size]
    exact ⟨rdT_len _, rdC_le 1 250 (by decide) _⟩
  · obtain ⟨l, hl, rfl⟩ := List.mem_map.1 ht
    obtain ⟨s', rfl⟩ := rep_mem _ _ _ _ hl
    rw [bk_size]
    exact rdT_len _
/-- A code whose lists are new memory. -/
structure CodeF (w W : World) (iq : Option Addr) (ia : Nat) (eq : Option Addr) (ea : Nat) (tq : Option Addr) (ta : Nat) (Es : List Em) (c : Cd) : Prop where
  bel : Below w.heap.size w W
  rows : Rows W w.heap.size (.slice iq c.ins.length ia) (.slice eq c.ens.length ea) (.slice tq c.txs.length ta) c.ins Es c.txs
  en : Es.map (·.1) = c.ens
  sm : Small c
theorem rows_codeM {W : World} {b : Nat} {iq eq tq : Option Addr} {ia ea ta : Nat} {Es : List Em} {c : Cd} (h : Rows W b (.slice iq c.ins.length ia) (.slice eq c.ens.length ea) (.slice tq c.txs.length ta) c.ins Es c.txs) (en : Es.map (·.1) = c.ens) (sm : Small c) : CodeM W W.heap.size iq eq tq Es c := by
  have hl : Es.length = c.ens.length := by rw [← en, List.length_map]
  have he := h.er
  rw [hl] at he
  refine ⟨en, row_of_own h.ir, row_of_own he, row_of_own h.tr, fun x hx => ⟨row_of_own (h.sr x hx), ?_⟩, ?_, ?_, ?_, fun t ht => ?_⟩
  · have := sm.es x.1 (by rw [← en]; exact List.mem_map_of_mem hx)
    omega
  · have := sm.il; omega
  · have := sm.el; omega
  · have := sm.tl; omega
  · have := sm.ts t ht; omega
theorem CodeF.m {w W : World} {iq eq tq : Option Addr} {ia ea ta : Nat} {Es : List Em} {c : Cd} (h : CodeF w W iq ia eq ea tq ta Es c) : CodeM W W.heap.size iq eq tq Es c := rows_codeM h.rows h.en h.sm
theorem CodeF.next {w W W' : World} {iq eq tq : Option Addr} {ia ea ta : Nat} {Es : List Em} {c : Cd} (h : CodeF w W iq ia eq ea tq ta Es c) (b : Below W.heap.size W W') : CodeF w W' iq ia eq ea tq ta Es c := ⟨below2 h.bel b, h.rows.next b, h.en, h.sm⟩
def cz : Cd := ⟨[], [], [], 0⟩
theorem code_zero {w W : World} (h : Below w.heap.size w W) : CodeF w W none 0 none 0 none 0 [] cz := ⟨h, Rows.nil _ _, rfl, ⟨by decide, by decide, by decide, (fun _ h => by cases h), (fun _ h => by cases h)⟩⟩
theorem put4 {W : World} {p : Nat} {a b c d x y z u : Value} {t : TypeId} (h : W.heap[p]? = some (.cells #[x, y, z, u] t)) : ((((W.setCell ⟨p, 0, none⟩ a).setCell ⟨p, 1, none⟩ b).setCell ⟨p, 2, none⟩ c).setCell ⟨p, 3, none⟩ d).heap[p]? = some (.cells #[a, b, c, d] t) := set_blk (set_blk (set_blk (set_blk h a) b) c) d
theorem below_put4 {w W : World} {p : Nat} {a b c d : Value} {D : Nat} (h : Below D w W) (hp : D ≤ p) : Below D w ((((W.setCell ⟨p, 0, none⟩ a).setCell ⟨p, 1, none⟩ b).setCell ⟨p, 2, none⟩ c).setCell ⟨p, 3, none⟩ d) := (((h.setCell (p := ⟨p, 0, none⟩) hp a).setCell (p := ⟨p, 1, none⟩) hp b).setCell (p := ⟨p, 2, none⟩) hp c).setCell (p := ⟨p, 3, none⟩) hp d
/-- What Decode gives. -/
def decC (b : List UInt8) : Cd := (decS b).getD cz
def decE (b : List UInt8) : Int := if (decS b).isSome then 0 else 130
theorem decS_eq (b : List UInt8) : decS b = if (rdN 1 (b, false)).1 ≠ 67 ∨ (rdCode (rdN 1 (b, false)).2).2.2 = true ∨ (rdCode (rdN 1 (b, false)).2).2.1 ≠ [] ∨ validS (rdCode (rdN 1 (b, false)).2).1 ≠ 0 then none else some (rdCode (rdN 1 (b, false)).2).1 := rfl
set_option maxRecDepth 100000 in
set_option maxHeartbeats 8000000 in
theorem decode_sep (b : ByteArray) (w : World) (hb : b.size ≤ 281474976710656) (ht : Tabs w) :
    Calls Tryz.prog 8 #[.string b] w fun e w' => ∃ iq ia eq ea tq ta, e = .returned (.tuple #[codeV iq eq tq ia ea ta (decC b.data.toList), .int .i64 (decE b.data.toList)]) ∧ Hid (∃ Es, CodeF w w' iq ia eq ea tq ta Es (decC b.data.toList) ∧ SepE Es) := by
  obtain ⟨R, HR⟩ : ∃ R, Hid (R = decS b.data.toList) := ⟨_, rfl⟩
  obtain ⟨Cc, HCc⟩ : ∃ Cc, Hid (Cc = decC b.data.toList) := ⟨_, rfl⟩
  obtain ⟨Ee, HEe⟩ : ∃ Ee, Hid (Ee = decE b.data.toList) := ⟨_, rfl⟩
  rw [← HCc.out, ← HEe.out]
  have HCE : Hid (∀ o, R = o → Cc = o.getD cz ∧ Ee = if o.isSome then 0 else 130) := fun o ho => by
    rw [HCc.out, HEe.out, ← ho, HR.out]
    exact ⟨rfl, rfl⟩
  clear HCc HEe
  have hE := HR.out.trans (decS_eq b.data.toList)
  have h10 := ht.size
  obtain ⟨W0, hW0⟩ : ∃ W0, W0 = w.alloc (.cells zc 26) := ⟨_, rfl⟩
  have nb : Below w.heap.size w W0 := by rw [hW0]; exact (Below.refl _ w).alloc (Nat.le_refl _) _
  have P0 : W0.heap[w.heap.size]? = some (.cells zc 26) := by rw [hW0]; exact World.alloc_heap_new w _
  have hz0 : w.heap.size < W0.heap.size := by rw [hW0]; simp
  obtain ⟨W1, hW1⟩ : ∃ W1, W1 = W0.alloc (.cells #[.string b, .bool false] 56) := ⟨_, rfl⟩
  have nb1 : Below W0.heap.size W0 W1 := by rw [hW1]; exact (Below.refl _ W0).alloc (Nat.le_refl _) _
  have r1 : Rd W1 W0.heap.size (b.data.toList, false) := ⟨by rw [hW1, bk_all]; exact World.alloc_heap_new W0 _, by have := Lib.size_eq b; simp only; omega⟩
  have P1 := (nb1.block w.heap.size (by omega)).trans P0
  have hz1 : W0.heap.size < W1.heap.size := by rw [hW1]; simp
  have n1 := number_f W1 W0.heap.size 1 _ r1 (by decide)
  have hsm := code_small (rdN 1 (b.data.toList, false)).2
  generalize rdN 1 (b.data.toList, false) = N1 at *
  obtain ⟨mk, st1⟩ := N1
  simp only at hE n1 hsm
  have bw1 := below2 nb nb1
  have HT : Hid (∀ W, Below w.heap.size w W → Tabs W) := fun W hW => ht.next hW
  clear HR P0
  go_enter Tryz.func8, Tryz.ntmps8
  go_upto_region 1 with fail
  rw [← hW0]
  clear hW0
  have HW1 : Hid (W1 = W0.alloc (.cells #[.string b, .bool false] 56)) := hW1
  clear hW1
  go_upto_region 2 with fail
  rw [← HW1.out]
  clear HW1
  generalize W0.heap.size = rb at *
  go_wp2_with fail
  refine n1.mono ?_
  rintro e W2 ⟨rfl, hw2⟩
  have k2 : Below w.heap.size W1 W2 := hw2.out.2.below (fun _ q => by omega) (by omega)
  have bw2 := bw1.trans k2
  have n2 := code_f W2 rb st1 hw2.out.1 (HT.out W2 bw2) (by omega)
  have P2 := (hw2.out.2.block w.heap.size (by omega) (by omega)).trans P1
  have hz2 : rb < W2.heap.size := hw2.out.1.lt
  generalize rdCode st1 = N2 at *
  obtain ⟨c, st2⟩ := N2
  simp only at hE n2 hsm
  have HE : Hid (R = if mk ≠ 67 ∨ st2.2 = true ∨ st2.1 ≠ [] ∨ validS c ≠ 0 then none else some c) := hE
  clear n1 hE r1 nb nb1 P1
  go_wp2_with fail
  refine n2.mono ?_
  rintro e W3 ⟨iq, ia, eq, ea, tq, ta, Es, rfl, hw3⟩
  have bw3 : Below w.heap.size w W3 := bw2.trans (hw3.out.kp.below (fun _ q => by omega) (by omega))
  have P3 := (hw3.out.kp.block w.heap.size (by omega) (by omega)).trans P2
  have rows3 : Rows W3 w.heap.size (.slice iq c.ins.length ia) (.slice eq c.ens.length ea) (.slice tq c.txs.length ta) c.ins Es c.txs := hw3.out.rows.base bw2.size
  have r3 := hw3.out.rd
  have hEn := hw3.out.en
  have HSP : Hid (SepE Es) := hw3.out.sp
  obtain ⟨W4, hW4⟩ : ∃ W4, W4 = W3.alloc (.cells (cv (.slice iq c.ins.length ia) (.slice eq c.ens.length ea) (.slice tq c.txs.length ta) c.main) 26) := ⟨_, rfl⟩
  have nb4 : Below W3.heap.size W3 W4 := by rw [hW4]; exact (Below.refl _ W3).alloc (Nat.le_refl _) _
  have Q4 : W4.heap[W3.heap.size]? = some (.cells (cv (.slice iq c.ins.length ia) (.slice eq c.ens.length ea) (.slice tq c.txs.length ta) c.main) 26) := by rw [hW4]; exact World.alloc_heap_new W3 _
  have hz3 : w.heap.size < W3.heap.size := by have := r3.lt; omega
  have P4 := (nb4.block _ hz3).trans P3
  have r4 := r3.next nb4
  have F4 : CodeF w W4 iq ia eq ea tq ta Es c := ⟨below2 bw3 nb4, rows3.next nb4, hEn, hsm⟩
  have HF4 : Hid (CodeF w W4 iq ia eq ea tq ta Es c) := F4
  obtain ⟨⟨b0, -⟩, b1, -⟩ := r4.box
  have v4 := valid_any F4.m ia ea ta (Nat.le_refl _) (HT.out W4 F4.bel)
  have hz4 : W3.heap.size < W4.heap.size := by rw [hW4]; simp
  have hw4w : w.heap.size < W4.heap.size := by omega
  clear n2 hw2 hw3 rows3 r3 r4 nb4 bw2 bw3 k2 P2 P3 F4
  have HW4 : Hid (W4 = W3.alloc (.cells (cv (.slice iq c.ins.length ia) (.slice eq c.ens.length ea) (.slice tq c.txs.length ta) c.main) 26)) := hW4
  clear hW4
  unfold codeV
  go_upto_region 3 with fail
  first | rw [← HW4.out] | skip
  clear HW4
  have P4' : Hid (W4.heap[w.heap.size]? = some (.cells zc 26)) := P4
  obtain ⟨z0, y0⟩ := blk_cell P4 0 (.slice none 0 0) rfl
  obtain ⟨z1, y1⟩ := blk_cell P4 1 (.slice none 0 0) rfl
  obtain ⟨z2, y2⟩ := blk_cell P4 2 (.slice none 0 0) rfl
  obtain ⟨z3, y3⟩ := blk_cell P4 3 (.int .i64 0) rfl
  obtain ⟨d0, -⟩ := blk_cell Q4 0 (.slice iq c.ins.length ia) rfl
  obtain ⟨d1, -⟩ := blk_cell Q4 1 (.slice eq c.ens.length ea) rfl
  obtain ⟨d2, -⟩ := blk_cell Q4 2 (.slice tq c.txs.length ta) rfl
  obtain ⟨d3, -⟩ := blk_cell Q4 3 (.int .i64 c.main) rfl
  have HBX : Hid (Below w.heap.size w W4) := HF4.out.bel
  have PX := P4
  clear P4
  obtain ⟨rl, bd⟩ := st2
  simp only at b0 b1 HE
  by_cases hmk : mk = 67
  case neg =>
    have HN : Hid (R = none) := by show R = none; rw [HE.out, if_pos (.inl hmk)]
    have hmk' : (mk == 67) = false := beq_false_of_ne hmk
    go_wp2_with (first | (go_at_call 25; refine v4.mono ?_; rintro e W5 ⟨rfl, hb5⟩) | fail)
    have HF : Hid (Below w.heap.size w ((((W4.setCell ⟨w.heap.size, 0, none⟩ (.slice none 0 0)).setCell ⟨w.heap.size, 1, none⟩ (.slice none 0 0)).setCell ⟨w.heap.size, 2, none⟩ (.slice none 0 0)).setCell ⟨w.heap.size, 3, none⟩ (.int .i64 0)) ∧ ((((W4.setCell ⟨w.heap.size, 0, none⟩ (.slice none 0 0)).setCell ⟨w.heap.size, 1, none⟩ (.slice none 0 0)).setCell ⟨w.heap.size, 2, none⟩ (.slice none 0 0)).setCell ⟨w.heap.size, 3, none⟩ (.int .i64 0)).heap[w.heap.size]? = some (.cells zc 26)) := ⟨below_put4 HBX.out (Nat.le_refl _), put4 PX⟩
    generalize (((W4.setCell ⟨w.heap.size, 0, none⟩ (.slice none 0 0)).setCell ⟨w.heap.size, 1, none⟩ (.slice none 0 0)).setCell ⟨w.heap.size, 2, none⟩ (.slice none 0 0)).setCell ⟨w.heap.size, 3, none⟩ (.int .i64 0) = WF at *
    obtain ⟨q0, -⟩ := blk_cell HF.out.2 0 (.slice none 0 0) rfl
    obtain ⟨q1, -⟩ := blk_cell HF.out.2 1 (.slice none 0 0) rfl
    obtain ⟨q2, -⟩ := blk_cell HF.out.2 2 (.slice none 0 0) rfl
    obtain ⟨q3, -⟩ := blk_cell HF.out.2 3 (.int .i64 0) rfl
    refine bodyPost_ret (v := .tuple #[.agg zc, .int .i64 130]) (by simp [results, Tryz.results8, go_sem, q0, q1, q2, q3]) rfl ⟨none, 0, none, 0, none, 0, ?_, ?_⟩
    · obtain ⟨g1, g2⟩ := HCE.out _ HN.out; rw [g1, g2]; rfl
    · obtain ⟨g1, g2⟩ := HCE.out _ HN.out; rw [g1]; exact ⟨[], code_zero HF.out.1, List.Pairwise.nil⟩
  subst hmk
  cases bd
  case true =>
    have HN : Hid (R = none) := by show R = none; rw [HE.out, if_pos (.inr (.inl rfl))]
    go_wp2_with (first | (go_at_call 25; refine v4.mono ?_; rintro e W5 ⟨rfl, hb5⟩) | fail)
    have HF : Hid (Below w.heap.size w ((((W4.setCell ⟨w.heap.size, 0, none⟩ (.slice none 0 0)).setCell ⟨w.heap.size, 1, none⟩ (.slice none 0 0)).setCell ⟨w.heap.size, 2, none⟩ (.slice none 0 0)).setCell ⟨w.heap.size, 3, none⟩ (.int .i64 0)) ∧ ((((W4.setCell ⟨w.heap.size, 0, none⟩ (.slice none 0 0)).setCell ⟨w.heap.size, 1, none⟩ (.slice none 0 0)).setCell ⟨w.heap.size, 2, none⟩ (.slice none 0 0)).setCell ⟨w.heap.size, 3, none⟩ (.int .i64 0)).heap[w.heap.size]? = some (.cells zc 26)) := ⟨below_put4 HBX.out (Nat.le_refl _), put4 PX⟩
    generalize (((W4.setCell ⟨w.heap.size, 0, none⟩ (.slice none 0 0)).setCell ⟨w.heap.size, 1, none⟩ (.slice none 0 0)).setCell ⟨w.heap.size, 2, none⟩ (.slice none 0 0)).setCell ⟨w.heap.size, 3, none⟩ (.int .i64 0) = WF at *
    obtain ⟨q0, -⟩ := blk_cell HF.out.2 0 (.slice none 0 0) rfl
    obtain ⟨q1, -⟩ := blk_cell HF.out.2 1 (.slice none 0 0) rfl
    obtain ⟨q2, -⟩ := blk_cell HF.out.2 2 (.slice none 0 0) rfl
    obtain ⟨q3, -⟩ := blk_cell HF.out.2 3 (.int .i64 0) rfl
    refine bodyPost_ret (v := .tuple #[.agg zc, .int .i64 130]) (by simp [results, Tryz.results8, go_sem, q0, q1, q2, q3]) rfl ⟨none, 0, none, 0, none, 0, ?_, ?_⟩
    · obtain ⟨g1, g2⟩ := HCE.out _ HN.out; rw [g1, g2]; rfl
    · obtain ⟨g1, g2⟩ := HCE.out _ HN.out; rw [g1]; exact ⟨[], code_zero HF.out.1, List.Pairwise.nil⟩
  by_cases hrl : rl = []
  case neg =>
    have HN : Hid (R = none) := by show R = none; rw [HE.out, if_pos (.inr (.inr (.inl hrl)))]
    have hne : (YtcjnejdemfemfaaGreatDoor.bk rl).toList.isEmpty = false := by
      rw [toL, bk_data]
      cases rl with
      | nil => exact absurd rfl hrl
      | cons a l => rfl
    generalize YtcjnejdemfemfaaGreatDoor.bk rl = sr at *
    go_wp2_with (first | (go_at_call 25; refine v4.mono ?_; rintro e W5 ⟨rfl, hb5⟩) | fail)
    have HF : Hid (Below w.heap.size w ((((W4.setCell ⟨w.heap.size, 0, none⟩ (.slice none 0 0)).setCell ⟨w.heap.size, 1, none⟩ (.slice none 0 0)).setCell ⟨w.heap.size, 2, none⟩ (.slice none 0 0)).setCell ⟨w.heap.size, 3, none⟩ (.int .i64 0)) ∧ ((((W4.setCell ⟨w.heap.size, 0, none⟩ (.slice none 0 0)).setCell ⟨w.heap.size, 1, none⟩ (.slice none 0 0)).setCell ⟨w.heap.size, 2, none⟩ (.slice none 0 0)).setCell ⟨w.heap.size, 3, none⟩ (.int .i64 0)).heap[w.heap.size]? = some (.cells zc 26)) := ⟨below_put4 HBX.out (Nat.le_refl _), put4 PX⟩
    generalize (((W4.setCell ⟨w.heap.size, 0, none⟩ (.slice none 0 0)).setCell ⟨w.heap.size, 1, none⟩ (.slice none 0 0)).setCell ⟨w.heap.size, 2, none⟩ (.slice none 0 0)).setCell ⟨w.heap.size, 3, none⟩ (.int .i64 0) = WF at *
    obtain ⟨q0, -⟩ := blk_cell HF.out.2 0 (.slice none 0 0) rfl
    obtain ⟨q1, -⟩ := blk_cell HF.out.2 1 (.slice none 0 0) rfl
    obtain ⟨q2, -⟩ := blk_cell HF.out.2 2 (.slice none 0 0) rfl
    obtain ⟨q3, -⟩ := blk_cell HF.out.2 3 (.int .i64 0) rfl
    refine bodyPost_ret (v := .tuple #[.agg zc, .int .i64 130]) (by simp [results, Tryz.results8, go_sem, q0, q1, q2, q3]) rfl ⟨none, 0, none, 0, none, 0, ?_, ?_⟩
    · obtain ⟨g1, g2⟩ := HCE.out _ HN.out; rw [g1, g2]; rfl
    · obtain ⟨g1, g2⟩ := HCE.out _ HN.out; rw [g1]; exact ⟨[], code_zero HF.out.1, List.Pairwise.nil⟩
  subst hrl
  have b0' : W4.cell? ⟨rb, 0, none⟩ = some (.string e0) := b0
  clear b0
  by_cases hv : validS c = 0
  case neg =>
    have HN : Hid (R = none) := by show R = none; rw [HE.out, if_pos (.inr (.inr (.inr hv)))]
    generalize validS c = V at *
    have hv' : (V == 0) = false := beq_false_of_ne hv
    unfold codeV at v4
    go_wp2_with fail
    refine v4.mono ?_
    rintro e W5 ⟨rfl, hb5⟩
    have HBX5 : Hid (Below w.heap.size w W5) := below2 HBX.out hb5
    have PX5 := (hb5.block _ hw4w).trans PX
    obtain ⟨z0, y0⟩ := blk_cell PX5 0 (.slice none 0 0) rfl
    obtain ⟨z1, y1⟩ := blk_cell PX5 1 (.slice none 0 0) rfl
    obtain ⟨z2, y2⟩ := blk_cell PX5 2 (.slice none 0 0) rfl
    obtain ⟨z3, y3⟩ := blk_cell PX5 3 (.int .i64 0) rfl
    go_wp2_with (first | (go_at_call 25; refine v4.mono ?_; rintro e W5 ⟨rfl, hb5⟩) | fail)
    have HF : Hid (Below w.heap.size w ((((W5.setCell ⟨w.heap.size, 0, none⟩ (.slice none 0 0)).setCell ⟨w.heap.size, 1, none⟩ (.slice none 0 0)).setCell ⟨w.heap.size, 2, none⟩ (.slice none 0 0)).setCell ⟨w.heap.size, 3, none⟩ (.int .i64 0)) ∧ ((((W5.setCell ⟨w.heap.size, 0, none⟩ (.slice none 0 0)).setCell ⟨w.heap.size, 1, none⟩ (.slice none 0 0)).setCell ⟨w.heap.size, 2, none⟩ (.slice none 0 0)).setCell ⟨w.heap.size, 3, none⟩ (.int .i64 0)).heap[w.heap.size]? = some (.cells zc 26)) := ⟨below_put4 HBX5.out (Nat.le_refl _), put4 PX5⟩
    generalize (((W5.setCell ⟨w.heap.size, 0, none⟩ (.slice none 0 0)).setCell ⟨w.heap.size, 1, none⟩ (.slice none 0 0)).setCell ⟨w.heap.size, 2, none⟩ (.slice none 0 0)).setCell ⟨w.heap.size, 3, none⟩ (.int .i64 0) = WF at *
    obtain ⟨q0, -⟩ := blk_cell HF.out.2 0 (.slice none 0 0) rfl
    obtain ⟨q1, -⟩ := blk_cell HF.out.2 1 (.slice none 0 0) rfl
    obtain ⟨q2, -⟩ := blk_cell HF.out.2 2 (.slice none 0 0) rfl
    obtain ⟨q3, -⟩ := blk_cell HF.out.2 3 (.int .i64 0) rfl
    refine bodyPost_ret (v := .tuple #[.agg zc, .int .i64 130]) (by simp [results, Tryz.results8, go_sem, q0, q1, q2, q3]) rfl ⟨none, 0, none, 0, none, 0, ?_, ?_⟩
    · obtain ⟨g1, g2⟩ := HCE.out _ HN.out; rw [g1, g2]; rfl
    · obtain ⟨g1, g2⟩ := HCE.out _ HN.out; rw [g1]; exact ⟨[], code_zero HF.out.1, List.Pairwise.nil⟩
  have HN : Hid (R = some c) := by
    show R = _
    rw [HE.out, if_neg]
    rintro (q | q | q | q)
    · exact q rfl
    · cases q
    · exact q rfl
    · exact q hv
  rw [hv] at v4
  unfold codeV at v4
  go_wp2_with fail
  refine v4.mono ?_
  rintro e W5 ⟨rfl, hb5⟩
  have HF5 : Hid (CodeF w W5 iq ia eq ea tq ta Es c) := HF4.out.next hb5
  have PX5 := (hb5.block _ hw4w).trans PX
  have Q5 := (hb5.block _ hz4).trans Q4
  obtain ⟨z0, y0⟩ := blk_cell PX5 0 (.slice none 0 0) rfl
  obtain ⟨z1, y1⟩ := blk_cell PX5 1 (.slice none 0 0) rfl
  obtain ⟨z2, y2⟩ := blk_cell PX5 2 (.slice none 0 0) rfl
  obtain ⟨z3, y3⟩ := blk_cell PX5 3 (.int .i64 0) rfl
  obtain ⟨d0, -⟩ := blk_cell Q5 0 (.slice iq c.ins.length ia) rfl
  obtain ⟨d1, -⟩ := blk_cell Q5 1 (.slice eq c.ens.length ea) rfl
  obtain ⟨d2, -⟩ := blk_cell Q5 2 (.slice tq c.txs.length ta) rfl
  obtain ⟨d3, -⟩ := blk_cell Q5 3 (.int .i64 c.main) rfl
  clear v4
  go_wp2
  have HF : Hid (CodeF w ((((W5.setCell ⟨w.heap.size, 0, none⟩ (.slice iq c.ins.length ia)).setCell ⟨w.heap.size, 1, none⟩ (.slice eq c.ens.length ea)).setCell ⟨w.heap.size, 2, none⟩ (.slice tq c.txs.length ta)).setCell ⟨w.heap.size, 3, none⟩ (.int .i64 c.main)) iq ia eq ea tq ta Es c) :=
    ⟨below_put4 HF5.out.bel (Nat.le_refl _), (((HF5.out.rows.set PX5 _).set (set_blk PX5 _) _).set (set_blk (set_blk PX5 _) _) _).set (set_blk (set_blk (set_blk PX5 _) _) _) _, HF5.out.en, HF5.out.sm⟩
  have PF : ((((W5.setCell ⟨w.heap.size, 0, none⟩ (.slice iq c.ins.length ia)).setCell ⟨w.heap.size, 1, none⟩ (.slice eq c.ens.length ea)).setCell ⟨w.heap.size, 2, none⟩ (.slice tq c.txs.length ta)).setCell ⟨w.heap.size, 3, none⟩ (.int .i64 c.main)).heap[w.heap.size]? = some (.cells (cv (.slice iq c.ins.length ia) (.slice eq c.ens.length ea) (.slice tq c.txs.length ta) c.main) 26) := put4 PX5
  generalize (((W5.setCell ⟨w.heap.size, 0, none⟩ (.slice iq c.ins.length ia)).setCell ⟨w.heap.size, 1, none⟩ (.slice eq c.ens.length ea)).setCell ⟨w.heap.size, 2, none⟩ (.slice tq c.txs.length ta)).setCell ⟨w.heap.size, 3, none⟩ (.int .i64 c.main) = WF at *
  obtain ⟨q0, -⟩ := blk_cell PF 0 (.slice iq c.ins.length ia) rfl
  obtain ⟨q1, -⟩ := blk_cell PF 1 (.slice eq c.ens.length ea) rfl
  obtain ⟨q2, -⟩ := blk_cell PF 2 (.slice tq c.txs.length ta) rfl
  obtain ⟨q3, -⟩ := blk_cell PF 3 (.int .i64 c.main) rfl
  refine bodyPost_ret (v := .tuple #[.agg (cv (.slice iq c.ins.length ia) (.slice eq c.ens.length ea) (.slice tq c.txs.length ta) c.main), .int .i64 0]) (by simp [results, Tryz.results8, go_sem, q0, q1, q2, q3]) rfl ⟨iq, ia, eq, ea, tq, ta, ?_, ?_⟩
  · obtain ⟨g1, g2⟩ := HCE.out _ HN.out; rw [g1, g2]; rfl
  · obtain ⟨g1, g2⟩ := HCE.out _ HN.out; rw [g1]; exact ⟨Es, HF.out, HSP.out⟩
theorem decode_any (b : ByteArray) (w : World) (hb : b.size ≤ 281474976710656) (ht : Tabs w) :
    Calls Tryz.prog 8 #[.string b] w fun e w' => ∃ iq ia eq ea tq ta, e = .returned (.tuple #[codeV iq eq tq ia ea ta (decC b.data.toList), .int .i64 (decE b.data.toList)]) ∧ Hid (∃ Es, CodeF w w' iq ia eq ea tq ta Es (decC b.data.toList)) := (decode_sep b w hb ht).mono fun e w' ⟨iq, ia, eq, ea, tq, ta, h1, h2⟩ => ⟨iq, ia, eq, ea, tq, ta, h1, by obtain ⟨Es, h3, -⟩ := h2.out; exact ⟨Es, h3⟩⟩
end Go.Proofs.YtcjnejdemfemfaaGreatDoor

