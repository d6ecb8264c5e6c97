import Derived.Test.YtdcioemjmmhbhaaDoorFill
import Derived.Test.YtdcioemjmmhbhaaDoorBook
namespace Go.Proofs.YtdcioemjmmhbhaaDoor
open Go.RowKit

theorem limS_id {lim : Nat} (h : lim ≤ 100000) : limS (lim : Int) = lim := by
  unfold limS
  rw [if_neg (by omega), if_neg (by omega), Int.toNat_natCast]
set_option maxHeartbeats 400000 in
theorem new_at (lim : Nat) (hl : lim ≤ 100000) (w : World) : Calls Tryd.prog 8 #[.int .i64 (lim : Int)] w fun e w' => e = .returned (.pointer (some ⟨w.heap.size, 0, none⟩)) ∧ HeapAt w' w.heap.size lim [] none 0 0 0 (.slice none 0 0) (fun b => b = w.heap.size) ∧ Below w.heap.size w w' := by
  have hn := World.alloc_heap_new w (.cells #[.int .i64 (lim : Int), .int .i64 0, .slice none 0 0, .slice none 0 0] 78)
  have key : HeapAt (w.alloc (.cells #[.int .i64 (lim : Int), .int .i64 0, .slice none 0 0, .slice none 0 0] 78)) w.heap.size lim [] none 0 0 0 (.slice none 0 0) (fun b => b = w.heap.size) := {
      blk := ⟨_, hn, by simp⟩
      c0 := by unfold World.cell?; rw [hn]; rfl
      c1 := by unfold World.cell?; rw [hn]; rfl
      c2 := by unfold World.cell?; rw [hn]; rfl
      c3 := by unfold World.cell?; rw [hn]; rfl
      arrs := World.ownsRow_nil _ _ _ _
      els := fun a ha => by cases ha
      room := fun h => by omega
      sep := List.Pairwise.nil
      sepr := fun a ha => by cases ha
      fp := rfl
      fa := fun g hg => by cases hg
      flt := fun g hg => by subst hg; simp
      le := Nat.zero_le _
      top := hl
      small := Nat.zero_le _
      ok := fun a ha => by cases ha }
  have B0 : ∀ o : Obj, Below w.heap.size w (w.alloc o) := fun o => (Below.refl _ w).alloc (Nat.le_refl _) _
  have e := limS_min (lim : Int)
  rw [limS_id hl] at e
  rw [e] at key
  clear hn e
  go_enter Tryd.func8, Tryd.ntmps8
  go_wp2
  go_ret
  exact ⟨by simp, by first | exact key | simpa using key, B0 _⟩

theorem used_sub (A : Hp) : usedS A - A.length ≤ 100000 ∨ 100000 < usedS A := by omega

/-- The twin of a heap while it is made. -/
def TwinAt (w0 wr : World) (p' lim : Nat) (As : List Ar) (i : Nat) : Prop :=
  ∃ As' rq rn rg ro av F, HeapG wr p' lim As' rq rn rg ro av F (0, As.length) ∧ absA As' = (absA As).take i ∧ (∀ b, F b → w0.heap.size ≤ b) ∧ Below w0.heap.size w0 wr

theorem TwinAt.next {w0 wr w2 : World} {p' lim : Nat} {As : List Ar} {i : Nat} (h : TwinAt w0 wr p' lim As i) (k : Below wr.heap.size wr w2) : TwinAt w0 w2 p' lim As i := by
  obtain ⟨As', rq, rn, rg, ro, av, F, h1, h2, h3, h4⟩ := h
  exact ⟨As', rq, rn, rg, ro, av, F, h1.next k, h2, h3, h4.trans (k.mono h4.size)⟩

set_option maxRecDepth 100000 in
set_option maxHeartbeats 4000000 in
theorem clone_at {w : World} {p lim : Nat} {As : List Ar} {rq : Option Addr} {rn rg ro : Nat} {av : Value} {F : Nat → Prop} (h : HeapAt w p lim As rq rn rg ro av F) :
    Calls Tryd.prog 17 #[.pointer (some ⟨p, 0, none⟩)] w fun e w' => e = .returned (.pointer (some ⟨w.heap.size, 0, none⟩)) ∧ Hid (∃ F', HeapOf w' w.heap.size lim (absA As) F' ∧ (∀ b, F' b → w.heap.size ≤ b) ∧ Below w.heap.size w w') := by
  have hlim := h.top
  have hlen := h.len
  have hle := h.le
  have huge := used_ge (absA As)
  rw [abs_len] at huge
  obtain ⟨aq, ac', hav, -, har⟩ := own_slice h.arrs
  subst hav
  have HH : Hid (HeapAt w p lim As rq rn rg ro (.slice aq As.length ac') F) := h
  have c0 := h.c0
  obtain ⟨N, hN⟩ : ∃ N : Nat, N = usedS (absA As) - As.length := ⟨_, rfl⟩
  obtain ⟨Z, hZ, hmk⟩ := run_makeV N (by omega)
  have eN : ((usedS (absA As) : Nat) : Int) - (As.length : Int) = (N : Int) := by omega
  have eN2 : IntKind.i64.wrap (((usedS (absA As) : Nat) : Int) - (As.length : Int)) = (N : Int) := by rw [IntKind.wrap_i64]; omega
  have eN3 : wrap64 (((usedS (absA As) : Nat) : Int) - (As.length : Int)) = (N : Int) := by unfold wrap64; omega
  clear h
  go_enter Tryd.func17, Tryd.ntmps17
  go_wp2_with fail
  refine (new_at lim hlim w).mono ?_
  rintro e w1 ⟨rfl, h1, b1⟩
  have hp1 : w.heap.size < w1.heap.size := h1.flt _ rfl
  have k1 := (HH.out.next b1).c1
  have k3 := (HH.out.next b1).c3
  have k1a := ((HH.out.next b1).next ((Below.refl _ w1).alloc (Nat.le_refl _) (.cells Z 37))).c1
  have k3a := ((HH.out.next b1).next ((Below.refl _ w1).alloc (Nat.le_refl _) (.cells Z 37))).c3
  have ha := h1.next ((Below.refl _ w1).alloc (Nat.le_refl _) (.cells Z 37))
  have t2 := ha.c2
  have t3 := ha.blk.unfrozen 2
  have hrm := ha.roomed (some ⟨w1.heap.size, 0, none⟩) N w1.heap.size 0 (fun b => b = w.heap.size ∨ b = w1.heap.size) (fun b hb => .inl hb) (fun b hb => by rcases hb with q | q <;> (subst q; simp); omega) (fun _ => ⟨rfl, Blk.new w1 Z _ (by omega), .inr rfl⟩) (fun a hm => by cases hm) (by omega)
  have HT0 : Hid (TwinAt w ((w1.alloc (.cells Z 37)).setCell ⟨w.heap.size, 2, none⟩ (.slice (some ⟨w1.heap.size, 0, none⟩) N N)) w.heap.size lim As 0) :=
    ⟨[], _, _, _, _, _, _, hrm.recount As.length (fun a ha => by cases ha), rfl, (fun b hb => by rcases hb with q | q <;> omega), (b1.alloc b1.size _).setCell (p := ⟨w.heap.size, 2, none⟩) (Nat.le_refl _) _⟩
  clear h1 ha hrm hZ hN
  go_wp2_with fail
  go_region
  rw [World.setCell_alloc_past (w := w1) (.cells Z 37) w.heap.size 2 _ hp1] at HT0
  replace HT0 : Hid (TwinAt w ((w1.setCell ⟨w.heap.size, 2, none⟩ (.slice (some ⟨w1.heap.size, 0, none⟩) N N)).alloc (.cells Z 37)).drew w.heap.size lim As 0) := TwinAt.next HT0 (Below.refl _ _).drew
  generalize ((w1.setCell ⟨w.heap.size, 2, none⟩ (.slice (some ⟨w1.heap.size, 0, none⟩) N N)).alloc (.cells Z 37)).drew = W2 at HT0 ⊢
  clear k1 k3 k1a k3a t2 t3 hmk eN eN2 eN3 b1
  have HB : Hid (∀ W, Below w.heap.size w W → W.cell? ⟨p, 3, none⟩ = some (.slice aq As.length ac') ∧ W.cell? ⟨p, 1, none⟩ = some (.int .i64 ((usedS (absA As) : Nat) : Int))) := fun W hW => ⟨(HH.out.next hW).c3, (HH.out.next hW).c1⟩
  have HAR : Hid (∀ i (hi : i < As.length) W, Below w.heap.size w W → ∃ ag, aq = some ⟨ag, 0, none⟩ ∧ W.cell? ⟨ag, i * 2, none⟩ = some (.int .i64 As[i].kind) ∧ W.cell? ⟨ag, i * 2 + 1, none⟩ = some (.slice As[i].q As[i].els.length As[i].els.length)) := fun i hi W hW => by
    obtain ⟨ag, e, hr⟩ := har (by omega)
    have e0' := hr (i * 2 + 0) (.int .i64 As[i].kind) ((flat_at ac 2 (fun _ => rfl) As i 0 hi (by decide)).trans rfl)
    have e1' := hr (i * 2 + 1) (.slice As[i].q As[i].els.length As[i].els.length) ((flat_at ac 2 (fun _ => rfl) As i 1 hi (by decide)).trans rfl)
    rw [Nat.zero_add] at e0' e1'
    rw [Nat.add_zero] at e0'
    exact ⟨ag, e, (hW.cell (p := ⟨ag, _, none⟩) (block_lt_of_cell e0')).trans e0', (hW.cell (p := ⟨ag, _, none⟩) (block_lt_of_cell e1')).trans e1'⟩
  have d3 := (HB.out W2 (by obtain ⟨_, _, _, _, _, _, _, _, _, _, q⟩ := HT0.out; exact q)).1
  clear har
  go_wp2_with fail
  clear d3
  go_loopw [31] (fun v wr => ∃ i : Nat, i ≤ As.length ∧ v = .int .i64 (i : Int) ∧ Hid (TwinAt w wr w.heap.size lim As i)) (fun v _ => As.length - (intOf v).toNat)
  case atStart => exact ⟨0, Nat.zero_le _, rfl, HT0⟩
  case round =>
    obtain ⟨i, hi, rfl, hT⟩ := hrel
    clear HT0
    obtain ⟨As', rq', rn', rg', ro', av', F', hG, hA, hF, hB⟩ := hT.out
    by_cases hlt : i < As.length
    case neg =>
      obtain rfl : i = As.length := by omega
      have e : (absA As).take As.length = absA As := by rw [← abs_len, List.take_length]
      rw [e] at hA
      have k1 := (HB.out wr hB).2
      have t1 := hG.c1
      have f1 := hG.blk.unfrozen 1
      have HFIN : Hid (∃ F', HeapOf (wr.setCell ⟨w.heap.size, 1, none⟩ (.int .i64 ((usedS (absA As) : Nat) : Int))) w.heap.size lim (absA As) F' ∧ (∀ b, F' b → w.heap.size ≤ b) ∧ Below w.heap.size w (wr.setCell ⟨w.heap.size, 1, none⟩ (.int .i64 ((usedS (absA As) : Nat) : Int)))) := by
        refine ⟨F', ⟨As', rq', rn', rg', ro', av', hA, ?_⟩, hF, hB.setCell (p := ⟨w.heap.size, 1, none⟩) (Nat.le_refl _) _⟩
        have := hG.setU (usedS (absA As))
        have el : As'.length = As.length := by rw [← abs_len, hA, abs_len]
        unfold HeapAt
        rw [hA, el]
        exact this
      clear hG hA hF hB hT e
      go_wp2
      first | (change bodyPost Tryd.prog Tryd.f17 _ Exit.ret _ _) | (simp only [Exit.noGoto])
      go_ret
      exact ⟨rfl, HFIN⟩
    obtain ⟨ag, rfl, a0, a1⟩ := HAR.out i hlt wr hB
    have hmem : As[i] ∈ As := List.getElem_mem hlt
    have hll := hlen.2 _ hmem
    have hokA := HH.out.ok _ hmem
    have hsrc := HH.out.els _ hmem
    have htk : (absA As).take (i + 1) = (absA As).take i ++ [(As[i].kind, As[i].els)] := by
      rw [List.take_succ_eq_append_getElem (by rw [abs_len]; exact hlt)]
      simp [absA]
    have hul : usedS ((absA As).take (i + 1)) ≤ lim := by
      have e : absA As = (absA As).take (i + 1) ++ (absA As).drop (i + 1) := (List.take_append_drop _ _).symm
      have := used_app ((absA As).take (i + 1)) ((absA As).drop (i + 1))
      rw [← e] at this
      omega
    generalize As[i] = y at a0 a1 hll hokA hsrc htk
    obtain ⟨yk, ye, yq, yg, yo⟩ := y
    simp only at a0 a1 hll hokA hsrc htk
    have i0 : (0 : Int) ≤ (i : Int) := by omega
    have i1 : (i : Int) < (As.length : Int) := by omega
    have bx := Box2.new wr (.int .i64 yk) (.slice yq ye.length ye.length) 82
    have nb : Below wr.heap.size wr (wr.alloc (.cells #[.int .i64 yk, .slice yq ye.length ye.length] 82)) := (Below.refl _ wr).alloc (Nat.le_refl _) _
    have hGX := hG.next nb
    have BX := below2 hB nb
    have hFl := hG.flt
    have zX : wr.heap.size < (wr.alloc (.cells #[.int .i64 yk, .slice yq ye.length ye.length] 82)).heap.size := by simp
    clear hG
    go_upto_region 6 with fail
    generalize wr.alloc (.cells #[.int .i64 yk, .slice yq ye.length ye.length] 82) = X at bx nb hGX BX zX ⊢
    generalize wr.heap.size = xb at bx zX hFl ⊢
    clear a0 a1 nb hB hT
    obtain ⟨⟨x0, -⟩, x1, -⟩ := id bx
    have htk2 := take_any hGX ye.length hll
    go_wp2_with fail
    refine htk2.mono ?_
    rintro e w2 ⟨q, rfl, HTK⟩
    obtain ⟨g, o, rq2, rn2, rg2, ro2, F2, T⟩ := HTK.out
    have bx2 := bx.same (T.kp.block xb zX (fun r => by have := hFl _ r; omega))
    have B2 : Below w.heap.size w w2 := BX.trans (T.kp.below hF BX.size)
    have hF2 : ∀ b, F2 b → w.heap.size ≤ b := fun b hb => by
      rcases T.sub b hb with r | r
      · exact hF b r
      · have := BX.size
        omega
    obtain ⟨⟨x0', -⟩, x1', -⟩ := id bx2
    have hfl := fill_any w2 q yq ye.length ye.length g o yg yo ye hll (fun v hv => may_small (hokA.2 v hv)) (fun h0 => ⟨(T.q h0).1, (T.q h0).2.1⟩) (fun h0 => by
      obtain ⟨r1, r2, r3, _⟩ := hsrc (fun r => by rw [r] at h0; simp at h0)
      refine ⟨r1, range_same r3 (B2.block yg r2.lt), ?_⟩
      have := hF2 g (T.q h0).2.2
      have := r2.lt
      omega)
    clear htk2 x0 x1
    go_wp2_with fail
    refine hfl.mono ?_
    rintro e w3 ⟨rfl, hf3⟩
    have hG3 : HeapG w3 w.heap.size lim As' rq2 rn2 rg2 ro2 av' F2 (0, As.length) := by
      rcases Nat.eq_zero_or_pos ye.length with h0 | h0
      · rw [hf3.out.2 h0]
        exact T.heap
      · exact T.heap.filled g o ye.length ye h0 (hf3.out.1 h0) (T.q h0).2.1 T.sep
    have hkp3 : w2.heap.size ≤ w3.heap.size ∧ ∀ b, b < w2.heap.size → ¬ F2 b → w3.heap[b]? = w2.heap[b]? := by
      rcases Nat.eq_zero_or_pos ye.length with h0 | h0
      · rw [hf3.out.2 h0]
        exact ⟨Nat.le_refl _, fun _ _ _ => rfl⟩
      · exact ⟨(hf3.out.1 h0).kp.size, fun b hb hn => (hf3.out.1 h0).kp.block b hb (fun e => hn (e ▸ (T.q h0).2.2))⟩
    have B3 : Below w.heap.size w w3 := by
      rcases Nat.eq_zero_or_pos ye.length with h0 | h0
      · rw [hf3.out.2 h0]
        exact B2
      · exact B2.trans ((hf3.out.1 h0).kp.below (fun k hk => by rw [hk]; exact hF2 g (T.q h0).2.2) B2.size)
    have hxF2 : ¬ F2 xb := fun r => by
      rcases T.sub xb r with r | r
      · have := hFl _ r
        omega
      · omega
    have hx2 : xb < w2.heap.size := block_lt_of_cell x0'
    have bx3 := bx2.same (hkp3.2 xb hx2 hxF2)
    have y0 := bx3.1.1
    have hy3 : ye ≠ [] → w3.rangeAt g o (vcs ye) ∧ Blk w3 g 37 (o + ye.length * 3) := fun hne => by
      have h0 : 0 < ye.length := List.length_pos_iff.2 hne
      exact ⟨(hf3.out.1 h0).inn, (hf3.out.1 h0).blk _ (T.q h0).2.1⟩
    obtain ⟨vq, vcp, rfl, -, -⟩ := own_slice hG3.arrs
    have t3 := hG3.c3
    have hAl : As'.length ≤ 100000 := hG3.len.1
    have HZD : Below w3.heap.size w3 w3.drew := (Below.refl _ _).drew
    have t3a : (w3.alloc (.cells #[.int .i64 yk, .slice q ye.length ye.length] 82)).cell? ⟨w.heap.size, 3, none⟩ = some (.slice vq As'.length vcp) := (hG3.next ((Below.refl _ w3).alloc (Nat.le_refl _) _)).c3
    have HOW : Hid ((w3.drew.alloc (.cells #[.int .i64 yk, .slice q ye.length ye.length] 82)).ownsRow 0 82 2 (.slice vq As'.length vcp) As'.length (acs As') ∧ (w3.drew.alloc (.cells #[.int .i64 yk, .slice q ye.length ye.length] 82)).rangeAt w3.heap.size 0 [.int .i64 yk, .slice q ye.length ye.length]) := by
      refine ⟨(hG3.next HZD).arrs.alloc _, fun j u hu => ?_⟩
      rw [Nat.zero_add]
      have e := World.alloc_heap_new w3.drew (.cells #[.int .i64 yk, .slice q ye.length ye.length] 82)
      have e2 : (w3.drew.alloc (.cells #[.int .i64 yk, .slice q ye.length ye.length] 82)).heap[w3.heap.size]? = some (.cells #[.int .i64 yk, .slice q ye.length ye.length] 82) := e
      simp only [World.cell?, e2]
      simpa using hu
    have HO2 : Hid (∀ u ∈ ([.int .i64 yk, .slice q ye.length ye.length] : List Value), u.oneCell' = true) := fun u hu => by
      simp only [List.mem_cons, List.not_mem_nil, or_false] at hu
      rcases hu with rfl | rfl <;> rfl
    have HFIN : Hid (∀ v5 w5, Hid (w5.ownsRow 0 82 2 v5 (As'.length + 1) (acs As' ++ [.int .i64 yk, .slice q ye.length ye.length])) → Hid ((w3.drew.alloc (.cells #[.int .i64 yk, .slice q ye.length ye.length] 82)).grownBy w5 (Value.slice vq As'.length vcp).ownBlock ∧ (v5.ownBlock = (Value.slice vq As'.length vcp).ownBlock ∨ v5.ownBlock = some (w3.drew.alloc (.cells #[.int .i64 yk, .slice q ye.length ye.length] 82)).heap.size)) →
        (w5.cell? ⟨w.heap.size, 3, none⟩ = some (.slice vq As'.length vcp) ∧ w5.frozen? ⟨w.heap.size, 3, none⟩ = false) ∧ Hid (TwinAt w (w5.setCell ⟨w.heap.size, 3, none⟩ v5) w.heap.size lim As (i + 1))) := fun v5 w5 ho5 hg5 => by
      have hGD := hG3.next HZD
      have hpp : w5.heap[w.heap.size]? = w3.drew.heap[w.heap.size]? := (hg5.out.1.block _ (by have := hG3.blk.lt; simp; omega) (fun e => own_ne hGD.arrs hGD.blk (by decide) e.symm)).trans (Below.heap_alloc _ _ _ hGD.blk.lt)
      refine ⟨⟨(World.cell?_of_block (w := w3.drew) (a := ⟨w.heap.size, 3, none⟩) hpp).trans hGD.c3, (hGD.blk.same hpp).unfrozen 3⟩, ?_⟩
      have hgr := hGD.grow (w3 := w5) (v' := v5) ⟨yk, ye, q, g, o⟩ (.cells #[.int .i64 yk, .slice q ye.length ye.length] 82)
        (fun hne => ⟨(T.q (List.length_pos_iff.2 hne)).1, (hy3 hne).2, (hy3 hne).1, (T.q (List.length_pos_iff.2 hne)).2.2⟩)
        (fun a ha hn hne => T.sep a ha hn (List.length_pos_iff.2 hne)) (fun hne hr => T.sepr (List.length_pos_iff.2 hne) hr)
        (by rw [abs_app, hA]; show usedS ((absA As).take i ++ [(yk, ye)]) ≤ lim; rw [← htk]; exact hul) hokA ho5.out hg5.out.1
      refine ⟨_, _, _, _, _, _, _, hgr, ?_, fun b hb => ?_, ?_⟩
      · rw [abs_app, hA, htk]
        rfl
      · rcases hb with r | r
        · exact hF2 b r
        · rcases hg5.out.2 with r2 | r2
          · exact hF2 b (hG3.fa b (r2 ▸ r))
          · rw [r2] at r
            cases r
            have := B3.size
            simp
            omega
      · have k1 : Below w.heap.size w (w3.drew.alloc (.cells #[.int .i64 yk, .slice q ye.length ye.length] 82)) := (B3.drew).alloc B3.size _
        exact (k1.grown hg5.out.1 k1.size (fun k hk => hF2 k (hG3.fa k hk))).setCell (p := ⟨w.heap.size, 3, none⟩) (Nat.le_refl _) _
    clear hfl hf3 hkp3 hG3 T HTK bx2 bx3 bx x0' x1' hy3 hsrc hokA hA hGX
    go_wp2_with fail
    go_region_law (first
      | (refine step_app 76 82 _ 2 32 Tryd.underlying76 info82 (by rfl) (by decide) (by decide) (by rfl) _ _ (by rfl) 0 _ As'.length (acs As') (by rfl) HOW.out.1 w3.heap.size [.int .i64 yk, .slice q ye.length ye.length] (by rfl) HO2.out (by rfl) HOW.out.2 (by omega) (Nat.zero_le _) ?_; intro v5 w5 ho5 hg5; obtain ⟨q5, c5, rfl, -, -⟩ := own_slice ho5.out; obtain ⟨⟨d3, e3⟩, HTW⟩ := HFIN.out _ w5 ho5 hg5))
    all_goals
      clear HFIN HOW ho5 hg5 y0 t3 t3a d3 e3
      generalize w5.setCell ⟨w.heap.size, 3, none⟩ (.slice q5 (As'.length + 1) c5) = Y at HTW ⊢
      go_wp2
      exact ⟨⟨i + 1, by omega, by go_num, HTW⟩, by simp [intOf]; omega⟩

theorem clone_heap {w : World} {p lim : Nat} {A : Hp} {F : Nat → Prop} (h : HeapOf w p lim A F) :
    Calls Tryd.prog 17 #[.pointer (some ⟨p, 0, none⟩)] w fun e w' => e = .returned (.pointer (some ⟨w.heap.size, 0, none⟩)) ∧ Hid (∃ F', HeapOf w' w.heap.size lim A F' ∧ (∀ b, F' b → w.heap.size ≤ b) ∧ Below w.heap.size w w') := by
  obtain ⟨As, rq, rn, rg, ro, av, rfl, h⟩ := h
  exact clone_at h
end Go.Proofs.YtdcioemjmmhbhaaDoor
