import Derived.Test.YtahdkffijlfmnaaGreatDoorT09
namespace Go.Proofs.YtahdkffijlfmnaaGreatDoor.Hp
open Go.RowKit
theorem limS_id {lim : Nat} (h : lim ≤ 100000) : limS (lim : Int) = lim := by
  unfold limS
  rw [if_neg (by omega), if_neg (by omega), Int.toNat_natCast]
set_option maxHeartbeats 400000 in
theorem new_at (lim : Nat) (hl : lim ≤ 100000) (w : World) : Calls Tryz.prog 25 #[.int .i64 (lim : Int)] w fun e w' => e = .returned (.pointer (some ⟨w.heap.size, 0, none⟩)) ∧ HeapAt w' (hz w.heap.size) lim [] none 0 0 0 (.slice none 0 0) (fun b => b = w.heap.size) ∧ Below w.heap.size w w' := by
  have hn := World.alloc_heap_new w (.cells #[.int .i64 (lim : Int), .int .i64 0, .slice none 0 0, .slice none 0 0] 76)
  have key : HeapAt (w.alloc (.cells #[.int .i64 (lim : Int), .int .i64 0, .slice none 0 0, .slice none 0 0] 76)) (hz w.heap.size) lim [] none 0 0 0 (.slice none 0 0) (fun b => b = w.heap.size) := {
      blk := ⟨_, hn, by simp [hz]⟩
      c0 := by unfold World.cell? hz; simp only; rw [hn]; rfl
      c1 := by unfold World.cell? hz; simp only; rw [hn]; rfl
      c2 := by unfold World.cell? hz; simp only; rw [hn]; rfl
      c3 := by unfold World.cell? hz; simp only; rw [hn]; rfl
      arrs := World.ownsRow_nil _ _ _ _
      els := fun a ha => by cases ha
      room := fun h => by omega
      sep := List.Pairwise.nil
      sepr := fun a ha => by cases ha
      fp := rfl
      fa := fun g hg => by cases hg
      flt := fun g hg => by subst hg; simp
      le := Nat.zero_le _
      top := hl
      small := Nat.zero_le _
      ok := fun a ha => by cases ha
      tn := by show 76 ≠ 117 ∧ 76 ≠ 52 ∧ 0 + 4 ≤ 4; decide
      rs := fun x hx => by cases hx }
  have B0 : ∀ o : Obj, Below w.heap.size w (w.alloc o) := fun o => (Below.refl _ w).alloc (Nat.le_refl _) _
  have e := limS_min (lim : Int)
  rw [limS_id hl] at e
  rw [e] at key
  clear hn e
  go_enter Tryz.func25, Tryz.ntmps25
  go_wp2
  go_ret
  exact ⟨by simp, by first | exact key | simpa using key, B0 _⟩
def TwinAt (w0 wr : World) (p' : Hpt) (lim : Nat) (As : List Ar) (i : Nat) : Prop :=
  ∃ As' rq rn rg ro av F, HeapG wr p' lim As' rq rn rg ro av F (0, As.length) ∧ absA As' = (absA As).take i ∧ (∀ b, F b → w0.heap.size ≤ b) ∧ Below w0.heap.size w0 wr
theorem TwinAt.next {w0 wr w2 : World} {p' : Hpt} {lim : Nat} {As : List Ar} {i : Nat} (h : TwinAt w0 wr p' lim As i) (k : Below wr.heap.size wr w2) : TwinAt w0 w2 p' lim As i := by
  obtain ⟨As', rq, rn, rg, ro, av, F, h1, h2, h3, h4⟩ := h
  exact ⟨As', rq, rn, rg, ro, av, F, h1.next k, h2, h3, h4.trans (k.mono h4.size)⟩
set_option maxRecDepth 100000 in
set_option maxHeartbeats 4000000 in
theorem clone_at {w : World} {p : Hpt} {lim : Nat} {As : List Ar} {rq : Option Addr} {rn rg ro : Nat} {av : Value} {F : Nat → Prop} (h : HeapAt w p lim As rq rn rg ro av F) :
    Calls Tryz.prog 35 #[.pointer (some ⟨p.b, p.o, none⟩)] w fun e w' => e = .returned (.pointer (some ⟨w.heap.size, 0, none⟩)) ∧ Hid (∃ F', HeapOf w' (hz w.heap.size) lim (absA As) F' ∧ (∀ b, F' b → w.heap.size ≤ b) ∧ Below w.heap.size w w') := by
  have hlim := h.top
  have hlen := h.len
  have hle := h.le
  have huge := used_ge (absA As)
  rw [abs_len] at huge
  obtain ⟨aq, ac', hav, -, har⟩ := own_slice h.arrs
  subst hav
  have HH : Hid (HeapAt w p lim As rq rn rg ro (.slice aq As.length ac') F) := h
  have c0 := h.c0
  obtain ⟨N, hN⟩ : ∃ N : Nat, N = usedS (absA As) - As.length := ⟨_, rfl⟩
  obtain ⟨Z, hZ, hmk⟩ := run_makeV N (by omega)
  have eN : ((usedS (absA As) : Nat) : Int) - (As.length : Int) = (N : Int) := by omega
  have eN2 : IntKind.i64.wrap (((usedS (absA As) : Nat) : Int) - (As.length : Int)) = (N : Int) := by rw [IntKind.wrap_i64]; omega
  have eN3 : wrap64 (((usedS (absA As) : Nat) : Int) - (As.length : Int)) = (N : Int) := by unfold wrap64; omega
  clear h
  go_enter Tryz.func35, Tryz.ntmps35
  go_wp2_with fail
  refine (new_at lim hlim w).mono ?_
  rintro e w1 ⟨rfl, h1, b1⟩
  have hp1 : w.heap.size < w1.heap.size := h1.flt _ rfl
  have k1 := (HH.out.next b1).c1
  have k3 := (HH.out.next b1).c3
  have k1a := ((HH.out.next b1).next ((Below.refl _ w1).alloc (Nat.le_refl _) (.cells Z 52))).c1
  have k3a := ((HH.out.next b1).next ((Below.refl _ w1).alloc (Nat.le_refl _) (.cells Z 52))).c3
  have ha := h1.next ((Below.refl _ w1).alloc (Nat.le_refl _) (.cells Z 52))
  have t2 := ha.zc.2.2.1
  have t3 := ha.zc.2.2.2.2.unfrozen 2
  have hrm := ha.roomed (some ⟨w1.heap.size, 0, none⟩) N w1.heap.size 0 (fun b => b = w.heap.size ∨ b = w1.heap.size) (fun b hb => .inl hb) (fun b hb => by rcases hb with q | q <;> (subst q; simp); omega) (fun _ => ⟨rfl, Blk.new w1 Z _ (by omega), .inr rfl⟩) (fun a hm => by cases hm) (by omega)
  have HT0 : Hid (TwinAt w ((w1.alloc (.cells Z 52)).setCell ⟨w.heap.size, 2, none⟩ (.slice (some ⟨w1.heap.size, 0, none⟩) N N)) (hz w.heap.size) lim As 0) :=
    ⟨[], _, _, _, _, _, _, hrm.recount As.length (fun a ha => by cases ha), rfl, (fun b hb => by rcases hb with q | q <;> omega), (b1.alloc b1.size _).setCell (p := ⟨w.heap.size, 2, none⟩) (Nat.le_refl _) _⟩
  clear h1 ha hrm hZ hN
  go_wp2_with fail
  go_region
  rw [World.setCell_alloc_past (w := w1) (.cells Z 52) w.heap.size 2 _ hp1] at HT0
  replace HT0 : Hid (TwinAt w ((w1.setCell ⟨w.heap.size, 2, none⟩ (.slice (some ⟨w1.heap.size, 0, none⟩) N N)).alloc (.cells Z 52)).drew (hz w.heap.size) lim As 0) := TwinAt.next HT0 (Below.refl _ _).drew
  generalize ((w1.setCell ⟨w.heap.size, 2, none⟩ (.slice (some ⟨w1.heap.size, 0, none⟩) N N)).alloc (.cells Z 52)).drew = W2 at HT0 ⊢
  clear k1 k3 k1a k3a t2 t3 hmk eN eN2 eN3 b1
  have HB : Hid (∀ W, Below w.heap.size w W → W.cell? ⟨p.b, p.o + 3, none⟩ = some (.slice aq As.length ac') ∧ W.cell? ⟨p.b, p.o + 1, none⟩ = some (.int .i64 ((usedS (absA As) : Nat) : Int))) := fun W hW => ⟨(HH.out.next hW).c3, (HH.out.next hW).c1⟩
  have HAR : Hid (∀ i (hi : i < As.length) W, Below w.heap.size w W → ∃ ag, aq = some ⟨ag, 0, none⟩ ∧ W.cell? ⟨ag, i * 2, none⟩ = some (.int .i64 As[i].kind) ∧ W.cell? ⟨ag, i * 2 + 1, none⟩ = some (.slice As[i].q As[i].els.length As[i].els.length)) := fun i hi W hW => by
    obtain ⟨ag, e, hr⟩ := har (by omega)
    have e0' := hr (i * 2 + 0) (.int .i64 As[i].kind) ((flat_at ac 2 (fun _ => rfl) As i 0 hi (by decide)).trans rfl)
    have e1' := hr (i * 2 + 1) (.slice As[i].q As[i].els.length As[i].els.length) ((flat_at ac 2 (fun _ => rfl) As i 1 hi (by decide)).trans rfl)
    rw [Nat.zero_add] at e0' e1'
    rw [Nat.add_zero] at e0'
    exact ⟨ag, e, (hW.cell (p := ⟨ag, _, none⟩) (block_lt_of_cell e0')).trans e0', (hW.cell (p := ⟨ag, _, none⟩) (block_lt_of_cell e1')).trans e1'⟩
  have d3 := (HB.out W2 (by obtain ⟨_, _, _, _, _, _, _, _, _, _, q⟩ := HT0.out; exact q)).1
  clear har
  go_wp2_with fail
  clear d3
  go_loopw [31] (fun v wr => ∃ i : Nat, i ≤ As.length ∧ v = .int .i64 (i : Int) ∧ Hid (TwinAt w wr (hz w.heap.size) lim As i)) (fun v _ => As.length - (intOf v).toNat)
  case atStart => exact ⟨0, Nat.zero_le _, rfl, HT0⟩
  case round =>
    obtain ⟨i, hi, rfl, hT⟩ := hrel
    clear HT0
    obtain ⟨As', rq', rn', rg', ro', av', F', hG, hA, hF, hB⟩ := hT.out
    by_cases hlt : i < As.length
    case neg =>
      obtain rfl : i = As.length := by omega
      have e : (absA As).take As.length = absA As := by rw [← abs_len, List.take_length]
      rw [e] at hA
      have k1 := (HB.out wr hB).2
      have t1 := hG.zc.2.1
      have f1 := hG.zc.2.2.2.2.unfrozen 1
      have HFIN : Hid (∃ F', HeapOf (wr.setCell ⟨w.heap.size, 1, none⟩ (.int .i64 ((usedS (absA As) : Nat) : Int))) (hz w.heap.size) lim (absA As) F' ∧ (∀ b, F' b → w.heap.size ≤ b) ∧ Below w.heap.size w (wr.setCell ⟨w.heap.size, 1, none⟩ (.int .i64 ((usedS (absA As) : Nat) : Int)))) := by
        refine ⟨F', ⟨As', rq', rn', rg', ro', av', hA, ?_⟩, hF, hB.setCell (p := ⟨w.heap.size, 1, none⟩) (Nat.le_refl _) _⟩
        have := hG.setU (usedS (absA As))
        have el : As'.length = As.length := by rw [← abs_len, hA, abs_len]
        unfold HeapAt
        rw [hA, el]
        exact this
      clear hG hA hF hB hT e
      go_wp2
      first | (change bodyPost Tryz.prog Tryz.f35 _ Exit.ret _ _) | (simp only [Exit.noGoto])
      go_ret
      exact ⟨rfl, HFIN⟩
    obtain ⟨ag, rfl, a0, a1⟩ := HAR.out i hlt wr hB
    have hmem : As[i] ∈ As := List.getElem_mem hlt
    have hll := hlen.2 _ hmem
    have hokA := HH.out.ok _ hmem
    have hsrc := HH.out.els _ hmem
    have htk : (absA As).take (i + 1) = (absA As).take i ++ [(As[i].kind, As[i].els)] := by
      rw [List.take_succ_eq_append_getElem (by rw [abs_len]; exact hlt)]
      simp [absA]
    have hul : usedS ((absA As).take (i + 1)) ≤ lim := by
      have e : absA As = (absA As).take (i + 1) ++ (absA As).drop (i + 1) := (List.take_append_drop _ _).symm
      have := used_app ((absA As).take (i + 1)) ((absA As).drop (i + 1))
      rw [← e] at this
      omega
    generalize As[i] = y at a0 a1 hll hokA hsrc htk
    obtain ⟨yk, ye, yq, yg, yo⟩ := y
    simp only at a0 a1 hll hokA hsrc htk
    have i0 : (0 : Int) ≤ (i : Int) := by omega
    have i1 : (i : Int) < (As.length : Int) := by omega
    have bx := Box2.new wr (.int .i64 yk) (.slice yq ye.length ye.length) 117
    have nb : Below wr.heap.size wr (wr.alloc (.cells #[.int .i64 yk, .slice yq ye.length ye.length] 117)) := (Below.refl _ wr).alloc (Nat.le_refl _) _
    have hGX := hG.next nb
    have BX := below2 hB nb
    have hFl := hG.flt
    have zX : wr.heap.size < (wr.alloc (.cells #[.int .i64 yk, .slice yq ye.length ye.length] 117)).heap.size := by simp
    clear hG
    go_upto_region 6 with fail
    generalize wr.alloc (.cells #[.int .i64 yk, .slice yq ye.length ye.length] 117) = X at bx nb hGX BX zX ⊢
    generalize wr.heap.size = xb at bx zX hFl ⊢
    clear a0 a1 nb hB hT
    obtain ⟨⟨x0, -⟩, x1, -⟩ := id bx
    have htk2 := take_any hGX ye.length hll
    go_wp2_with fail
    refine htk2.mono ?_
    rintro e w2 ⟨q, rfl, HTK⟩
    obtain ⟨g, o, rq2, rn2, rg2, ro2, F2, T⟩ := HTK.out
    have bx2 := bx.same (T.kp.block xb zX (fun r => by have := hFl _ r; omega))
    have B2 : Below w.heap.size w w2 := BX.trans (T.kp.below hF BX.size)
    have hF2 : ∀ b, F2 b → w.heap.size ≤ b := fun b hb => by
      rcases T.sub b hb with r | r
      · exact hF b r
      · have := BX.size
        omega
    obtain ⟨⟨x0', -⟩, x1', -⟩ := id bx2
    have hfl := fill_any w2 q yq ye.length ye.length g o yg yo ye hll (fun v hv => may_small (hokA.2 v hv)) (fun h0 => ⟨(T.q h0).1, (T.q h0).2.1⟩) (fun h0 => by
      obtain ⟨r1, r2, r3, _⟩ := hsrc (fun r => by rw [r] at h0; simp at h0)
      refine ⟨r1, range_same r3 (B2.block yg r2.lt), ?_⟩
      have := hF2 g (T.q h0).2.2
      have := r2.lt
      omega)
    clear htk2 x0 x1
    go_wp2_with fail
    refine hfl.mono ?_
    rintro e w3 ⟨rfl, hf3⟩
    have hG3 : HeapG w3 (hz w.heap.size) lim As' rq2 rn2 rg2 ro2 av' F2 (0, As.length) := by
      rcases Nat.eq_zero_or_pos ye.length with h0 | h0
      · rw [hf3.out.2 h0]
        exact T.heap
      · exact T.heap.filled g o ye.length ye h0 (hf3.out.1 h0) (T.q h0).2.1 T.sep
    have hkp3 : w2.heap.size ≤ w3.heap.size ∧ ∀ b, b < w2.heap.size → ¬ F2 b → w3.heap[b]? = w2.heap[b]? := by
      rcases Nat.eq_zero_or_pos ye.length with h0 | h0
      · rw [hf3.out.2 h0]
        exact ⟨Nat.le_refl _, fun _ _ _ => rfl⟩
      · exact ⟨(hf3.out.1 h0).kp.size, fun b hb hn => (hf3.out.1 h0).kp.block b hb (fun e => hn (e ▸ (T.q h0).2.2))⟩
    have B3 : Below w.heap.size w w3 := by
      rcases Nat.eq_zero_or_pos ye.length with h0 | h0
      · rw [hf3.out.2 h0]
        exact B2
      · exact B2.trans ((hf3.out.1 h0).kp.below (fun k hk => by rw [hk]; exact hF2 g (T.q h0).2.2) B2.size)
    have hxF2 : ¬ F2 xb := fun r => by
      rcases T.sub xb r with r | r
      · have := hFl _ r
        omega
      · omega
    have hx2 : xb < w2.heap.size := block_lt_of_cell x0'
    have bx3 := bx2.same (hkp3.2 xb hx2 hxF2)
    have y0 := bx3.1.1
    have hy3 : ye ≠ [] → w3.rangeAt g o (vcs ye) ∧ Blk w3 g 52 (o + ye.length * 3) := fun hne => by
      have h0 : 0 < ye.length := List.length_pos_iff.2 hne
      exact ⟨(hf3.out.1 h0).inn, (hf3.out.1 h0).blk _ (T.q h0).2.1⟩
    obtain ⟨vq, vcp, rfl, -, -⟩ := own_slice hG3.arrs
    have t3 := hG3.zc.2.2.2.1
    have hAl : As'.length ≤ 100000 := hG3.len.1
    have HZD : Below w3.heap.size w3 w3.drew := (Below.refl _ _).drew
    have t3a : (w3.alloc (.cells #[.int .i64 yk, .slice q ye.length ye.length] 117)).cell? ⟨w.heap.size, 3, none⟩ = some (.slice vq As'.length vcp) := (hG3.next ((Below.refl _ w3).alloc (Nat.le_refl _) _)).c3
    have HOW : Hid ((w3.drew.alloc (.cells #[.int .i64 yk, .slice q ye.length ye.length] 117)).ownsRow 0 117 2 (.slice vq As'.length vcp) As'.length (acs As') ∧ (w3.drew.alloc (.cells #[.int .i64 yk, .slice q ye.length ye.length] 117)).rangeAt w3.heap.size 0 [.int .i64 yk, .slice q ye.length ye.length]) := by
      refine ⟨(hG3.next HZD).arrs.alloc _, fun j u hu => ?_⟩
      rw [Nat.zero_add]
      have e := World.alloc_heap_new w3.drew (.cells #[.int .i64 yk, .slice q ye.length ye.length] 117)
      have e2 : (w3.drew.alloc (.cells #[.int .i64 yk, .slice q ye.length ye.length] 117)).heap[w3.heap.size]? = some (.cells #[.int .i64 yk, .slice q ye.length ye.length] 117) := e
      simp only [World.cell?, e2]
      simpa using hu
    have HO2 : Hid (∀ u ∈ ([.int .i64 yk, .slice q ye.length ye.length] : List Value), u.oneCell' = true) := fun u hu => by
      simp only [List.mem_cons, List.not_mem_nil, or_false] at hu
      rcases hu with rfl | rfl <;> rfl
    have HFIN : Hid (∀ v5 w5, Hid (w5.ownsRow 0 117 2 v5 (As'.length + 1) (acs As' ++ [.int .i64 yk, .slice q ye.length ye.length])) → Hid ((w3.drew.alloc (.cells #[.int .i64 yk, .slice q ye.length ye.length] 117)).grownBy w5 (Value.slice vq As'.length vcp).ownBlock ∧ (v5.ownBlock = (Value.slice vq As'.length vcp).ownBlock ∨ v5.ownBlock = some (w3.drew.alloc (.cells #[.int .i64 yk, .slice q ye.length ye.length] 117)).heap.size)) →
        (w5.cell? ⟨w.heap.size, 3, none⟩ = some (.slice vq As'.length vcp) ∧ w5.frozen? ⟨w.heap.size, 3, none⟩ = false) ∧ Hid (TwinAt w (w5.setCell ⟨w.heap.size, 3, none⟩ v5) (hz w.heap.size) lim As (i + 1))) := fun v5 w5 ho5 hg5 => by
      have hGD := hG3.next HZD
      have hpp : w5.heap[w.heap.size]? = w3.drew.heap[w.heap.size]? := (hg5.out.1.block _ (by have := hG3.blk.lt; simp; omega) (fun e => own_ne hGD.arrs hGD.blk hGD.tn.1 e.symm)).trans (Below.heap_alloc _ _ _ hGD.blk.lt)
      refine ⟨⟨(World.cell?_of_block (w := w3.drew) (a := ⟨w.heap.size, 3, none⟩) hpp).trans hGD.c3, (hGD.blk.same hpp).unfrozen 3⟩, ?_⟩
      have hgr := hGD.grow (w3 := w5) (v' := v5) ⟨yk, ye, q, g, o⟩ (.cells #[.int .i64 yk, .slice q ye.length ye.length] 117)
        (fun hne => ⟨(T.q (List.length_pos_iff.2 hne)).1, (hy3 hne).2, (hy3 hne).1, (T.q (List.length_pos_iff.2 hne)).2.2⟩)
        (fun a ha hn hne => T.sep a ha hn (List.length_pos_iff.2 hne)) (fun hne hr => T.sepr (List.length_pos_iff.2 hne) hr)
        (by rw [abs_app, hA]; show usedS ((absA As).take i ++ [(yk, ye)]) ≤ lim; rw [← htk]; exact hul) hokA ho5.out hg5.out.1
      refine ⟨_, _, _, _, _, _, _, hgr, ?_, fun b hb => ?_, ?_⟩
      · rw [abs_app, hA, htk]
        rfl
      · rcases hb with r | r
        · exact hF2 b r
        · rcases hg5.out.2 with r2 | r2
          · exact hF2 b (hG3.fa b (r2 ▸ r))
          · rw [r2] at r
            cases r
            have := B3.size
            simp
            omega
      · have k1 : Below w.heap.size w (w3.drew.alloc (.cells #[.int .i64 yk, .slice q ye.length ye.length] 117)) := (B3.drew).alloc B3.size _
        exact (k1.grown hg5.out.1 k1.size (fun k hk => hF2 k (hG3.fa k hk))).setCell (p := ⟨w.heap.size, 3, none⟩) (Nat.le_refl _) _
    clear hfl hf3 hkp3 hG3 T HTK bx2 bx3 bx x0' x1' hy3 hsrc hokA hA hGX
    go_wp2_with fail
    go_region_law (first
      | (refine step_app 74 117 _ 2 32 Tryz.underlying74 info82 (by rfl) (by decide) (by decide) (by rfl) _ _ (by rfl) 0 _ As'.length (acs As') (by rfl) HOW.out.1 w3.heap.size [.int .i64 yk, .slice q ye.length ye.length] (by rfl) HO2.out (by rfl) HOW.out.2 (by omega) (Nat.zero_le _) ?_; intro v5 w5 ho5 hg5; obtain ⟨q5, c5, rfl, -, -⟩ := own_slice ho5.out; obtain ⟨⟨d3, e3⟩, HTW⟩ := HFIN.out _ w5 ho5 hg5))
    all_goals
      clear HFIN HOW ho5 hg5 y0 t3 t3a d3 e3
      generalize w5.setCell ⟨w.heap.size, 3, none⟩ (.slice q5 (As'.length + 1) c5) = Y at HTW ⊢
      go_wp2
      exact ⟨⟨i + 1, by omega, by go_num, HTW⟩, by simp [intOf]; omega⟩
theorem clone_heap {w : World} {p : Hpt} {lim : Nat} {A : Hp} {F : Nat → Prop} (h : HeapOf w p lim A F) :
    Calls Tryz.prog 35 #[.pointer (some ⟨p.b, p.o, none⟩)] w fun e w' => e = .returned (.pointer (some ⟨w.heap.size, 0, none⟩)) ∧ Hid (∃ F', HeapOf w' (hz w.heap.size) lim A F' ∧ (∀ b, F' b → w.heap.size ≤ b) ∧ Below w.heap.size w w') := by
  obtain ⟨As, rq, rn, rg, ro, av, rfl, h⟩ := h
  exact clone_at h
end Go.Proofs.YtahdkffijlfmnaaGreatDoor.Hp

namespace Go.Proofs.YtahdkffijlfmnaaGreatDoor.Hp
open Go.RowKit
theorem neqV (k n : Int) (s : ByteArray) (k' n' : Int) (s' : ByteArray) : ∀ w : World,
    (binOp BinOp.neq 52 (.agg #[.int .i64 k, .int .i64 n, .string s]) (.agg #[.int .i64 k', .int .i64 n', .string s'])).run Tryz.prog w = .ok (.bool (!((k == k' && n == n') && s.toList == s'.toList))) w := by
  intro w
  cases h1 : (k == k') with
  | false => simp [go_sem, h1]
  | true =>
    cases h2 : (n == n') with
    | false => simp [go_sem, h1, h2]
    | true =>
      cases h3 : (s.toList == s'.toList) with
      | false => simp [go_sem, h1, h2, h3]
      | true => simp [go_sem, h1, h2, h3]
def ListsAt (w : World) (g : Nat) (Ls : List (List V)) : Prop := ∀ n (hn : n < Ls.length), ∃ q c, w.cell? ⟨g, n, none⟩ = some (.slice q Ls[n].length c) ∧ (0 < Ls[n].length → ∃ b, q = some ⟨b, 0, none⟩ ∧ w.rangeAt b 0 (vcs Ls[n]))
theorem ListsAt.get {w Y : World} {g : Nat} {Ls : List (List V)} (h : ListsAt w g Ls) (hY : Below w.heap.size w Y) (n : Nat) (hn : n < Ls.length) : ∃ q c, Y.cell? ⟨g, n, none⟩ = some (.slice q Ls[n].length c) ∧
    ∀ i (hi : i < Ls[n].length), ∃ b, q = some ⟨b, 0, none⟩ ∧ Y.cell? ⟨b, i * 3, none⟩ = some (.int .i64 Ls[n][i].1) ∧ Y.cell? ⟨b, i * 3 + 1, none⟩ = some (.int .i64 Ls[n][i].2.1) ∧ Y.cell? ⟨b, i * 3 + 2, none⟩ = some (.string Ls[n][i].2.2) := by
  obtain ⟨q, c, h1, h2⟩ := h n hn
  refine ⟨q, c, (hY.cell (p := ⟨g, n, none⟩) (block_lt_of_cell h1)).trans h1, fun i hi => ?_⟩
  obtain ⟨b, e, hr⟩ := h2 (by omega)
  have h3 := vcs_get hr i hi
  rw [Nat.zero_add] at h3
  have k := fun j v (hv : (vc Ls[n][i])[j]? = some v) => (hY.cell (p := ⟨b, i * 3 + j, none⟩) (block_lt_of_cell (h3 j v hv))).trans (h3 j v hv)
  exact ⟨b, e, k 0 _ rfl, k 1 _ rfl, k 2 _ rfl⟩
set_option maxRecDepth 100000 in
set_option maxHeartbeats 4000000 in
theorem same_any {w : World} {g1 g2 c1 c2 : Nat} {Ls : List (List V)} (h1 : ListsAt w g1 Ls) (h2 : ListsAt w g2 Ls) (hl : Ls.length ≤ 100001) (hel : ∀ L ∈ Ls, L.length ≤ 100000) :
    Calls Tryz.prog 30 #[.slice (some ⟨g1, 0, none⟩) Ls.length c1, .slice (some ⟨g2, 0, none⟩) Ls.length c2] w fun e w' => e = .returned (.bool true) ∧ Below w.heap.size w w' := by
  have H1 : Hid (∀ Y, Below w.heap.size w Y → ∀ n (hn : n < Ls.length), ∃ q c, Y.cell? ⟨g1, n, none⟩ = some (.slice q Ls[n].length c) ∧ ∀ i (hi : i < Ls[n].length), ∃ b, q = some ⟨b, 0, none⟩ ∧ Y.cell? ⟨b, i * 3, none⟩ = some (.int .i64 Ls[n][i].1) ∧ Y.cell? ⟨b, i * 3 + 1, none⟩ = some (.int .i64 Ls[n][i].2.1) ∧ Y.cell? ⟨b, i * 3 + 2, none⟩ = some (.string Ls[n][i].2.2)) := fun Y hY n hn => h1.get hY n hn
  have H2 : Hid (∀ Y, Below w.heap.size w Y → ∀ n (hn : n < Ls.length), ∃ q c, Y.cell? ⟨g2, n, none⟩ = some (.slice q Ls[n].length c) ∧ ∀ i (hi : i < Ls[n].length), ∃ b, q = some ⟨b, 0, none⟩ ∧ Y.cell? ⟨b, i * 3, none⟩ = some (.int .i64 Ls[n][i].1) ∧ Y.cell? ⟨b, i * 3 + 1, none⟩ = some (.int .i64 Ls[n][i].2.1) ∧ Y.cell? ⟨b, i * 3 + 2, none⟩ = some (.string Ls[n][i].2.2)) := fun Y hY n hn => h2.get hY n hn
  have ne : ((Ls.length : Int) != (Ls.length : Int)) = false := by simp
  clear h1 h2
  go_enter Tryz.func30, Tryz.ntmps30
  go_wp2_with fail
  go_loopw [5] (fun v wr => ∃ n : Nat, n ≤ Ls.length ∧ v = .int .i64 (n : Int) ∧ Hid (Below w.heap.size w wr)) (fun v _ => Ls.length - (intOf v).toNat)
  case atStart => exact ⟨0, Nat.zero_le _, rfl, Below.refl _ _⟩
  case round =>
    obtain ⟨n, hn, rfl, hB⟩ := hrel
    clear ne
    by_cases hlt : n < Ls.length
    case neg =>
      obtain rfl : n = Ls.length := by omega
      go_wp2
      first | (change bodyPost Tryz.prog Tryz.f30 _ Exit.ret _ _) | (simp only [Exit.noGoto])
      go_ret
      exact ⟨rfl, hB.out⟩
    have n0 : (0 : Int) ≤ (n : Int) := Int.natCast_nonneg _
    have n1 : (n : Int) < (Ls.length : Int) := Int.ofNat_lt.2 hlt
    have hLn := hel Ls[n] (List.getElem_mem hlt)
    have J1 : Hid (∃ q c, ∀ Y, Below wr.heap.size wr Y → Y.cell? ⟨g1, n, none⟩ = some (.slice q Ls[n].length c) ∧ ∀ i (hi : i < Ls[n].length), ∃ b, q = some ⟨b, 0, none⟩ ∧ Y.cell? ⟨b, i * 3, none⟩ = some (.int .i64 Ls[n][i].1) ∧ Y.cell? ⟨b, i * 3 + 1, none⟩ = some (.int .i64 Ls[n][i].2.1) ∧ Y.cell? ⟨b, i * 3 + 2, none⟩ = some (.string Ls[n][i].2.2)) := by
      obtain ⟨q, c, a1, -⟩ := H1.out wr hB.out n hlt
      refine ⟨q, c, fun Y hY => ?_⟩
      obtain ⟨q', c', a2, a3⟩ := H1.out Y (below2 hB.out hY) n hlt
      have a4 := (hY.cell (p := ⟨g1, n, none⟩) (block_lt_of_cell a1)).trans a1
      rw [a2] at a4
      cases a4
      exact ⟨a2, a3⟩
    have J2 : Hid (∃ q c, ∀ Y, Below wr.heap.size wr Y → Y.cell? ⟨g2, n, none⟩ = some (.slice q Ls[n].length c) ∧ ∀ i (hi : i < Ls[n].length), ∃ b, q = some ⟨b, 0, none⟩ ∧ Y.cell? ⟨b, i * 3, none⟩ = some (.int .i64 Ls[n][i].1) ∧ Y.cell? ⟨b, i * 3 + 1, none⟩ = some (.int .i64 Ls[n][i].2.1) ∧ Y.cell? ⟨b, i * 3 + 2, none⟩ = some (.string Ls[n][i].2.2)) := by
      obtain ⟨q, c, a1, -⟩ := H2.out wr hB.out n hlt
      refine ⟨q, c, fun Y hY => ?_⟩
      obtain ⟨q', c', a2, a3⟩ := H2.out Y (below2 hB.out hY) n hlt
      have a4 := (hY.cell (p := ⟨g2, n, none⟩) (block_lt_of_cell a1)).trans a1
      rw [a2] at a4
      cases a4
      exact ⟨a2, a3⟩
    obtain ⟨q1, d1, k1⟩ := J1.out
    obtain ⟨q2, d2, k2⟩ := J2.out
    have K1 : Hid (∀ Y, Below wr.heap.size wr Y → Y.cell? ⟨g1, n, none⟩ = some (.slice q1 Ls[n].length d1) ∧ ∀ i (hi : i < Ls[n].length), ∃ b, q1 = some ⟨b, 0, none⟩ ∧ Y.cell? ⟨b, i * 3, none⟩ = some (.int .i64 Ls[n][i].1) ∧ Y.cell? ⟨b, i * 3 + 1, none⟩ = some (.int .i64 Ls[n][i].2.1) ∧ Y.cell? ⟨b, i * 3 + 2, none⟩ = some (.string Ls[n][i].2.2)) := k1
    have K2 : Hid (∀ Y, Below wr.heap.size wr Y → Y.cell? ⟨g2, n, none⟩ = some (.slice q2 Ls[n].length d2) ∧ ∀ i (hi : i < Ls[n].length), ∃ b, q2 = some ⟨b, 0, none⟩ ∧ Y.cell? ⟨b, i * 3, none⟩ = some (.int .i64 Ls[n][i].1) ∧ Y.cell? ⟨b, i * 3 + 1, none⟩ = some (.int .i64 Ls[n][i].2.1) ∧ Y.cell? ⟨b, i * 3 + 2, none⟩ = some (.string Ls[n][i].2.2)) := k2
    clear J1 J2 k1 k2 H1 H2 hel
    generalize Ls[n] = L at K1 K2 hLn
    have y1 := cell_regrown (K1.out wr (Below.refl _ _)).1
    have y2 := cell_regrown (K2.out wr (Below.refl _ _)).1
    have nl : ((L.length : Int) != (L.length : Int)) = false := by simp
    go_wp2_with fail
    refine wp_region_quiet_below (by kernel_rfl) (by kernel_rfl) ?_
    repeat (first | go_big_quiet_step (first | fail) | quiet_step (first | fail))
    refine wpQuiet_nil ?_
    intro _ hw'
    obtain ⟨⟨dq, osq⟩, hw''⟩ := hw'
    subst hw''
    have hY := below_regrown wr dq osq
    change Exit.then _ _ Exit.normal _ (Sort.grow (redrawn wr dq) osq)
    generalize Sort.grow (redrawn wr dq) osq = X2 at hY ⊢
    have HB2 : Hid (Below wr.heap.size wr X2) := hY
    clear hY y1 y2 nl
    go_wp2_with fail
    go_loopw [6] (fun v wv => ∃ i : Nat, i ≤ L.length ∧ v = .int .i64 (i : Int) ∧ Hid (Below wr.heap.size wr wv)) (fun v _ => L.length - (intOf v).toNat)
    case atStart => exact ⟨0, Nat.zero_le _, rfl, HB2⟩
    case round =>
      obtain ⟨i, hi, rfl, hB6⟩ := hrel
      have z1 := (K1.out _ hB6.out).1
      by_cases hlt2 : i < L.length
      case neg =>
        obtain rfl : i = L.length := by omega
        have HBV := below2 hB.out hB6.out
        have HBV' : Hid (Below w.heap.size w wr) := HBV
        clear HBV
        go_wp2
        exact ⟨⟨n + 1, by omega, by first | rfl | (push_cast; rfl) | go_num, HBV'⟩, by simp [intOf]; omega⟩
      have i0 : (0 : Int) ≤ (i : Int) := Int.natCast_nonneg _
      have i1 : (i : Int) < (L.length : Int) := Int.ofNat_lt.2 hlt2
      go_wp2_with fail
      clear z1
      obtain ⟨z1, z3⟩ := K1.out _ hB6.out
      obtain ⟨z2, z4⟩ := K2.out _ hB6.out
      obtain ⟨b1, rfl, p0, p1, p2⟩ := z3 i hlt2
      obtain ⟨b2, rfl, r0, r1, r2⟩ := z4 i hlt2
      clear z3 z4
      generalize L[i] = vv at p0 p1 p2 r0 r1 r2
      obtain ⟨vk, vn, vs⟩ := vv
      simp only at p0 p1 p2 r0 r1 r2
      have y1 := cell_regrown z1
      have y2 := cell_regrown z2
      have y3 := cell_regrown p0
      have y4 := cell_regrown p1
      have y5 := cell_regrown p2
      have y6 := cell_regrown r0
      have y7 := cell_regrown r1
      have y8 := cell_regrown r2
      have nv := neqV vk vn vs vk vn vs
      rw [show (!((vk == vk && vn == vn) && vs.toList == vs.toList)) = false by simp] at nv
      clear z1 z2 p0 p1 p2 r0 r1 r2
      refine wp_region_quiet_below (by kernel_rfl) (by kernel_rfl) ?_
      repeat (first | go_big_quiet_step (first | fail) | quiet_step (first | fail))
      refine wpQuiet_nil ?_
      intro _ hw'
      obtain ⟨⟨dq, osq⟩, hw''⟩ := hw'
      subst hw''
      have hY := below_regrown wr dq osq
      change Exit.then _ _ Exit.normal _ (Sort.grow (redrawn wr dq) osq)
      generalize Sort.grow (redrawn wr dq) osq = Y at hY ⊢
      have hB7 := below2 hB6.out hY
      clear hY y1 y2 y3 y4 y5 y6 y7 y8 nv
      have hB8 : Hid _ := hB7
      clear hB7
      go_wp2
      exact ⟨⟨i + 1, by omega, by first | rfl | (push_cast; rfl) | go_num, hB8⟩, by simp [intOf]; omega⟩
end Go.Proofs.YtahdkffijlfmnaaGreatDoor.Hp

namespace Go.Proofs.YtahdkffijlfmnaaGreatDoor.Hp
open Go.RowKit
theorem info59 : (Tryz.prog.info? 64).map (fun i => (i.zero, i.size, i.bytes)) = some (some (.slice none 0 0), 1, 24) := by kernel_rfl
theorem one_slice (q : Option Addr) (n c : Nat) : ∀ u ∈ ([.slice q n c] : List Value), u.oneCell' = true := fun u hu => by
  obtain rfl := List.mem_singleton.1 hu
  rfl
def lsA (A : Hp) : List (List V) := [] :: A.map (·.2)
theorem lsA_len (A : Hp) : (lsA A).length = A.length + 1 := by simp [lsA]
structure Ans (w : World) (b : Nat) (Ls : List (List V)) (v : Value) (vs : List Value) : Prop where
  len : vs.length = Ls.length
  out : w.ownsRow b 64 1 v Ls.length vs
  own : ∀ k (hk : k < Ls.length), ∃ q, vs[k]? = some (.slice q Ls[k].length Ls[k].length) ∧ w.ownsRow b 52 3 (.slice q Ls[k].length Ls[k].length) Ls[k].length (vcs Ls[k])
  sep : vs.Pairwise fun x y => ∀ i, x.ownBlock = some i → y.ownBlock ≠ some i
theorem Ans.same {w w' : World} {b : Nat} {Ls : List (List V)} {v : Value} {vs : List Value} (h : Ans w b Ls v vs) (hk : ∀ g, b ≤ g → g < w.heap.size → w'.heap[g]? = w.heap[g]?) : Ans w' b Ls v vs where
  len := h.len
  out := own_same h.out fun g hg => hk g (h.out.lt g hg).1 (h.out.lt g hg).2
  own k hk' := by obtain ⟨q, h1, h2⟩ := h.own k hk'; exact ⟨q, h1, own_same h2 fun g hg => hk g (h2.lt g hg).1 (h2.lt g hg).2⟩
  sep := h.sep
theorem Ans.next {w w' : World} {b : Nat} {Ls : List (List V)} {v : Value} {vs : List Value} (h : Ans w b Ls v vs) (k : Below w.heap.size w w') : Ans w' b Ls v vs := h.same fun g _ hl => k.block g hl
theorem Ans.push {w w' : World} {b : Nat} {Ls : List (List V)} {v v' : Value} {vs : List Value} (h : Ans w b Ls v vs) (q : Option Addr) (l : List V) (hl : w.ownsRow b 52 3 (.slice q l.length l.length) l.length (vcs l)) (hn : ∀ i, (Value.slice q l.length l.length).ownBlock = some i → ∀ (k : Nat) (x : Value), vs[k]? = some x → x.ownBlock ≠ some i)
    (ho : w'.ownsRow b 64 1 v' (Ls.length + 1) (vs ++ [.slice q l.length l.length])) (hg : w.grownBy w' v.ownBlock) : Ans w' b (Ls ++ [l]) v' (vs ++ [.slice q l.length l.length]) := by
  have hkeep : ∀ {x : Value} {n : Nat} {xs : List Value}, w.ownsRow b 52 3 x n xs → w'.ownsRow b 52 3 x n xs := fun {x n xs} hx => own_same hx fun g hg' => hg.block g (hx.lt g hg').2 (fun e => own_ne h.out (own_blk hx g hg') (by decide) e.symm)
  refine ⟨by simp [h.len], by rw [List.length_append]; exact ho, fun k hk => ?_, ?_⟩
  · by_cases hk' : k < Ls.length
    · obtain ⟨p, h1, h2⟩ := h.own k hk'
      rw [List.getElem_append_left hk']
      exact ⟨p, by rw [List.getElem?_append_left (by rw [h.len]; exact hk')]; exact h1, hkeep h2⟩
    · have : k = Ls.length := by rw [List.length_append] at hk; simp at hk; omega
      subst this
      rw [List.getElem_append_right (Nat.le_refl _)]
      simp only [Nat.sub_self, List.getElem_cons_zero]
      exact ⟨q, by rw [List.getElem?_append_right (by rw [h.len]; exact Nat.le_refl _), h.len]; simp, hkeep hl⟩
  · rw [List.pairwise_append]
    refine ⟨h.sep, List.pairwise_singleton _ _, fun a ha c hc i hi e => ?_⟩
    rw [List.mem_singleton] at hc
    subst hc
    obtain ⟨k, hk⟩ := List.mem_iff_getElem?.1 ha
    exact hn i e k a hk hi
theorem own_full {w : World} {b g n sz : Nat} {t : TypeId} {xs : List Value} (hb : b ≤ g) (hl : xs.length = n * sz) (hblk : Blk w g t (n * sz)) (hend : w.cell? ⟨g, n * sz, none⟩ = none) (hr : w.rangeAt g 0 xs) (hn : n ≤ maxLen) : w.ownsRow b t sz (.slice (some ⟨g, 0, none⟩) n n) n xs := by
  obtain ⟨cur, h1, h2⟩ := hblk
  have hs : cur.size = n * sz := by
    simp only [World.cell?, h1] at hend
    have : cur.size ≤ n * sz := by simpa using hend
    omega
  refine ⟨hl, .inr ⟨g, n, cur, rfl, hb, h1, Nat.le_refl _, hn, hs, ?_⟩⟩
  rw [List.take_of_length_le (by rw [Array.length_toList]; omega)]
  apply List.ext_getElem?
  intro j
  by_cases hj : j < n * sz
  · have hj' : j < xs.length := by omega
    have := hr j xs[j] (List.getElem?_eq_getElem hj')
    rw [Nat.zero_add] at this
    simp only [World.cell?, h1] at this
    rw [List.getElem?_eq_getElem hj']
    simpa using this
  · rw [List.getElem?_eq_none (by rw [Array.length_toList]; omega), List.getElem?_eq_none (by omega)]
theorem run_makeL (N : Nat) (hN : N ≤ 100000) (w : World) : ∃ Z : Array Value, Z.size = N + 1 ∧ Z[0]? = some (.slice none 0 0) ∧ (Instr.makeSlice 44 (.int .i64 1) (.int .i64 ((N : Int) + 1))).run Tryz.prog w = .ok (.slice (some ⟨w.heap.size, 0, none⟩) 1 (N + 1)) (w.alloc (.cells Z 64)) := by
  obtain ⟨i, hq, hz, hi, hb⟩ := info_parts info59
  have := run_make (P := Tryz.prog) w 44 64 i _ Tryz.underlying44 hq hz .i64 .i64 1 ((N : Int) + 1) (by omega) (by omega) (by rw [hb]; omega) (by omega)
  rw [show ((N : Int) + 1).toNat = N + 1 by omega, hi] at this
  exact ⟨_, by rw [size_madeCells]; omega, by simp [madeCells, Value.cells], this⟩
set_option maxRecDepth 100000 in
set_option maxHeartbeats 4000000 in
theorem arrays_at {w : World} {p : Hpt} {lim : Nat} {As : List Ar} {rq : Option Addr} {rn rg ro : Nat} {av : Value} {F : Nat → Prop} (h : HeapAt w p lim As rq rn rg ro av F) :
    Calls Tryz.prog 27 #[.pointer (some ⟨p.b, p.o, none⟩)] w fun e w' => e = .returned (.slice (some ⟨w.heap.size, 0, none⟩) (As.length + 1) (As.length + 1)) ∧ Hid (∃ vs, Ans w' w.heap.size (lsA (absA As)) (.slice (some ⟨w.heap.size, 0, none⟩) (As.length + 1) (As.length + 1)) vs) ∧ Below w.heap.size w w' := by
  have hlen := h.len
  obtain ⟨aq, ac', hav, -, har⟩ := own_slice h.arrs
  subst hav
  have HH : Hid (HeapAt w p lim As rq rn rg ro (.slice aq As.length ac') F) := h
  have c3 := h.c3
  obtain ⟨Z, hZ, hZ0, hmk⟩ := run_makeL As.length hlen.1 w
  have iN : IntKind.i64.wrap ((As.length : Int) + 1) = (As.length : Int) + 1 := by rw [IntKind.wrap_i64]; omega
  have HB : Hid (∀ W, Below w.heap.size w W → W.cell? ⟨p.b, p.o + 3, none⟩ = some (.slice aq As.length ac')) := fun W hW => (HH.out.next hW).c3
  have HAR : Hid (∀ i (hi : i < As.length) W, Below w.heap.size w W → ∃ ag, aq = some ⟨ag, 0, none⟩ ∧ W.cell? ⟨ag, i * 2, none⟩ = some (.int .i64 As[i].kind) ∧ W.cell? ⟨ag, i * 2 + 1, none⟩ = some (.slice As[i].q As[i].els.length As[i].els.length)) := fun i hi W hW => by
    obtain ⟨ag, e, hr⟩ := har (by omega)
    have e0' := hr (i * 2 + 0) (.int .i64 As[i].kind) ((flat_at ac 2 (fun _ => rfl) As i 0 hi (by decide)).trans rfl)
    have e1' := hr (i * 2 + 1) (.slice As[i].q As[i].els.length As[i].els.length) ((flat_at ac 2 (fun _ => rfl) As i 1 hi (by decide)).trans rfl)
    rw [Nat.zero_add] at e0' e1'
    rw [Nat.add_zero] at e0'
    exact ⟨ag, e, (hW.cell (p := ⟨ag, _, none⟩) (block_lt_of_cell e0')).trans e0', (hW.cell (p := ⟨ag, _, none⟩) (block_lt_of_cell e1')).trans e1'⟩
  have b1 : Below w.heap.size w (w.alloc (.cells Z 64)) := (Below.refl _ w).alloc (Nat.le_refl _) _
  have HA0 : Hid (∃ vs, Ans (w.alloc (.cells Z 64)) w.heap.size ((lsA (absA As)).take 1) (.slice (some ⟨w.heap.size, 0, none⟩) 1 (As.length + 1)) vs) := by
    refine ⟨[.slice none 0 0], rfl, ⟨rfl, .inr ⟨w.heap.size, As.length + 1, Z, rfl, Nat.le_refl _, World.alloc_heap_new w _, by show 1 ≤ _; omega, by unfold maxLen; omega, by rw [hZ, Nat.mul_one], ?_⟩⟩, fun k hk => ?_, List.pairwise_singleton _ _⟩
    · have : 0 < Z.toList.length := by rw [Array.length_toList]; omega
      rw [List.ext_getElem?_iff]
      intro j
      rcases j with _ | j
      · rw [List.getElem?_take_of_lt (by simp [lsA])]
        simpa using hZ0
      · rw [List.getElem?_eq_none (by rw [List.length_take]; show min 1 _ ≤ _; omega), List.getElem?_eq_none (by simp)]
    · have : k = 0 := by simp [lsA] at hk; omega
      subst this
      exact ⟨none, rfl, World.ownsRow_nil _ _ _ _⟩
  have d3 := HB.out _ b1
  clear h hZ hZ0 har
  go_enter Tryz.func27, Tryz.ntmps27
  go_wp2_with fail
  generalize w.alloc (.cells Z 64) = w1 at HA0 b1 ⊢
  clear hmk iN c3 d3
  go_loopw [3, 19] (fun v3 v wr => ∃ i : Nat, i ≤ As.length ∧ v3 = .slice (some ⟨w.heap.size, 0, none⟩) (i + 1) (As.length + 1) ∧ v = .int .i64 (i : Int) ∧ Hid (∃ vs, Ans wr w.heap.size ((lsA (absA As)).take (i + 1)) (.slice (some ⟨w.heap.size, 0, none⟩) (i + 1) (As.length + 1)) vs) ∧ Hid (Below w.heap.size w wr)) (fun _ v _ => As.length - (intOf v).toNat)
  case atStart => exact ⟨0, Nat.zero_le _, rfl, rfl, HA0, b1⟩
  case round =>
    obtain ⟨i, hi, rfl, rfl, hT, hBx⟩ := hrel
    clear HA0 b1
    have hB := hBx.out
    by_cases hlt : i < As.length
    case neg =>
      obtain rfl : i = As.length := by omega
      rw [List.take_of_length_le (by rw [lsA_len, abs_len]; exact Nat.le_refl _)] at hT
      clear hB
      go_wp2
      go_ret
      exact ⟨rfl, hT, hBx.out⟩
    obtain ⟨ag, rfl, a0, a1⟩ := HAR.out i hlt wr hB
    have hmem : As[i] ∈ As := List.getElem_mem hlt
    have hll := hlen.2 _ hmem
    have hokA := HH.out.ok _ hmem
    have hsrc := HH.out.els _ hmem
    have htk : (lsA (absA As)).take (i + 1 + 1) = (lsA (absA As)).take (i + 1) ++ [As[i].els] := by
      rw [List.take_succ_eq_append_getElem (by rw [lsA_len, abs_len]; omega)]
      simp [lsA, absA]
    generalize As[i] = y at a0 a1 hll hokA hsrc htk
    obtain ⟨yk, ye, yq, yg, yo⟩ := y
    simp only at a0 a1 hll hokA hsrc htk
    have i0 : (0 : Int) ≤ (i : Int) := by omega
    have i1 : (i : Int) < (As.length : Int) := by omega
    have bx := Box2.new wr (.int .i64 yk) (.slice yq ye.length ye.length) 117
    have nb : Below wr.heap.size wr (wr.alloc (.cells #[.int .i64 yk, .slice yq ye.length ye.length] 117)) := (Below.refl _ wr).alloc (Nat.le_refl _) _
    have zX : wr.heap.size < (wr.alloc (.cells #[.int .i64 yk, .slice yq ye.length ye.length] 117)).heap.size := by simp
    go_upto_region 5 with fail
    generalize wr.alloc (.cells #[.int .i64 yk, .slice yq ye.length ye.length] 117) = X at bx nb zX ⊢
    have BX := below2 hB nb
    have HTX : Hid (∃ vs, Ans X w.heap.size ((lsA (absA As)).take (i + 1)) (.slice (some ⟨w.heap.size, 0, none⟩) (i + 1) (As.length + 1)) vs) := by obtain ⟨vs, q⟩ := hT.out; exact ⟨vs, q.next nb⟩
    generalize wr.heap.size = xb at bx zX ⊢
    clear a0 a1 nb hB hBx hT
    obtain ⟨⟨x0, -⟩, x1, -⟩ := id bx
    obtain ⟨Z2, hZ2, hmk2⟩ := run_makeV ye.length hll
    have nb2 : Below X.heap.size X (X.alloc (.cells Z2 52)) := (Below.refl _ X).alloc (Nat.le_refl _) _
    have bk2 : Blk (X.alloc (.cells Z2 52)) X.heap.size 52 (ye.length * 3) := Blk.new X Z2 _ (by omega)
    have hn2 := World.alloc_heap_new X (.cells Z2 52)
    have zX2 : X.heap.size < (X.alloc (.cells Z2 52)).heap.size := by simp
    have bx2 := bx.same (nb2.block xb zX)
    go_upto_region 6 with fail
    generalize X.alloc (.cells Z2 52) = X2 at nb2 bk2 bx2 hn2 zX2 ⊢
    have BX2 := below2 BX nb2
    obtain ⟨⟨x0', -⟩, x1', -⟩ := id bx2
    have hfl := fill_any X2 (some ⟨X.heap.size, 0, none⟩) yq ye.length ye.length X.heap.size 0 yg yo ye hll (fun v hv => may_small (hokA.2 v hv)) (fun _ => ⟨rfl, by rw [Nat.zero_add]; exact bk2⟩) (fun h0 => by
      obtain ⟨r1, r2, r3, _⟩ := hsrc (fun r => by rw [r] at h0; simp at h0)
      refine ⟨r1, range_same r3 (BX2.block yg r2.lt), ?_⟩
      have := r2.lt
      have := BX.size
      omega)
    clear x0 x1 hmk2
    go_wp2_with fail
    refine hfl.mono ?_
    rintro e w3 ⟨rfl, hf3⟩
    have hk3 : ∀ g, g < X2.heap.size → g ≠ X.heap.size → w3.heap[g]? = X2.heap[g]? := fun g hg hne => by
      rcases Nat.eq_zero_or_pos ye.length with h0 | h0
      · rw [hf3.out.2 h0]
      · exact (hf3.out.1 h0).kp.block g hg hne
    have hz3 : X2.heap.size ≤ w3.heap.size := by
      rcases Nat.eq_zero_or_pos ye.length with h0 | h0
      · rw [hf3.out.2 h0]; exact Nat.le_refl _
      · exact (hf3.out.1 h0).kp.size
    have hB3 : Below w.heap.size w w3 := by
      rcases Nat.eq_zero_or_pos ye.length with h0 | h0
      · rw [hf3.out.2 h0]; exact BX2
      · exact BX2.trans ((hf3.out.1 h0).kp.below (fun k hk => by rw [hk]; exact BX.size) BX2.size)
    have hB3X : Below X.heap.size X w3 := by
      rcases Nat.eq_zero_or_pos ye.length with h0 | h0
      · rw [hf3.out.2 h0]; exact nb2
      · exact nb2.trans ((hf3.out.1 h0).kp.below (fun k hk => by rw [hk]; exact Nat.le_refl _) nb2.size)
    have hl3 : w3.ownsRow w.heap.size 52 3 (.slice (some ⟨X.heap.size, 0, none⟩) ye.length ye.length) ye.length (vcs ye) := by
      have hend2 : X2.cell? ⟨X.heap.size, ye.length * 3, none⟩ = none := by
        simp only [World.cell?, hn2]
        simp [hZ2]
      rcases Nat.eq_zero_or_pos ye.length with h0 | h0
      · have : ye = [] := List.length_eq_zero_iff.1 h0
        subst this
        rw [hf3.out.2 h0]
        exact own_full BX.size rfl bk2 hend2 (fun j v hv => by simp [vcs] at hv) (by decide)
      · exact own_full BX.size (vcs_len ye) ((hf3.out.1 h0).blk _ bk2) (((hf3.out.1 h0).out _ (.inr (by omega))).trans hend2) (hf3.out.1 h0).inn (by unfold maxLen; omega)
    have ⟨vs, ha⟩ : ∃ vs, Ans w3 w.heap.size ((lsA (absA As)).take (i + 1)) (.slice (some ⟨w.heap.size, 0, none⟩) (i + 1) (As.length + 1)) vs ∧ ∀ (k : Nat) (x : Value), vs[k]? = some x → x.ownBlock ≠ some X.heap.size := by
      obtain ⟨vs, q⟩ := HTX.out
      refine ⟨vs, q.next hB3X, fun k x hx e => ?_⟩
      have hk : k < ((lsA (absA As)).take (i + 1)).length := by rw [← q.len]; exact (List.getElem?_eq_some_iff.1 hx).1
      obtain ⟨q', h1, h2⟩ := q.own k hk
      have h3 := Option.some.inj (hx.symm.trans h1)
      rw [h3] at e
      have := (h2.lt _ e).2
      omega
    have bx3 := bx2.same (hk3 xb (by omega) (by omega))
    obtain ⟨⟨x0'', -⟩, x1'', -⟩ := id bx3
    have htl : ((lsA (absA As)).take (i + 1)).length = i + 1 := by rw [List.length_take, lsA_len, abs_len]; omega
    obtain ⟨w4, hw4⟩ : ∃ w4, w3.alloc (.cells #[.slice (some ⟨X.heap.size, 0, none⟩) ye.length ye.length] 64) = w4 := ⟨_, rfl⟩
    have nb4 : Below w3.heap.size w3 w4 := by rw [← hw4]; exact (Below.refl _ w3).alloc (Nat.le_refl _) _
    have ha4 := ha.1.next nb4
    have ho4 := ha4.out
    rw [htl] at ho4
    obtain ⟨w5, hrun, ho5, hg5⟩ := app_in (P := Tryz.prog) (w := w4) (base := w.heap.size) 44 44 (.slice none 0 0) 24 Tryz.underlying44 info59 rfl (by decide) (by decide) w.heap.size (i + 1) (As.length + 1) vs ho4 w3.heap.size [.slice (some ⟨X.heap.size, 0, none⟩) ye.length ye.length] rfl (one_slice _ _ _) (by
      have e := World.alloc_heap_new w3 (.cells #[.slice (some ⟨X.heap.size, 0, none⟩) ye.length ye.length] 64)
      rw [hw4] at e
      intro j u hu
      rw [Nat.zero_add]
      simp only [World.cell?, e]
      simpa using hu) (by omega) (Nat.le_trans hB3.size nb4.size) (by omega)
    have HT5 : Hid (∃ vs, Ans w5 w.heap.size ((lsA (absA As)).take (i + 1 + 1)) (.slice (some ⟨w.heap.size, 0, none⟩) (i + 1 + 1) (As.length + 1)) vs) := by
      rw [htk]
      refine ⟨_, ha4.push (some ⟨X.heap.size, 0, none⟩) ye (own_next hl3 nb4) (fun j hj k x hx e => ?_) (by rw [htl]; exact ho5) hg5⟩
      cases hj
      exact ha.2 k x hx e
    have HB5 : Hid (Below w.heap.size w w5) := (hB3.trans (nb4.mono hB3.size)).grown hg5 (Nat.le_trans hB3.size nb4.size) (fun k e => by cases e; exact Nat.le_refl _)
    clear hl3 ha ha4 ho4 ho5 hg5 nb4 hf3 hk3 hz3 hB3 hB3X bx bx2 bx3 x0' x1' hsrc hokA HTX BX BX2 nb2 bk2 hn2 zX2 zX htk htl hfl hZ2
    go_wp2_with (at_builtin; refine wpList_apr rfl (.tmp 31) (.tmp 33) 44 rfl hrun ?_)
    exact ⟨⟨i + 1, by omega, rfl, by go_num, HT5, HB5⟩, by simp [intOf]; omega⟩
theorem arrays_any {w : World} {p : Hpt} {lim : Nat} {A : Hp} {F : Nat → Prop} (h : HeapOf w p lim A F) :
    Calls Tryz.prog 27 #[.pointer (some ⟨p.b, p.o, none⟩)] w fun e w' => e = .returned (.slice (some ⟨w.heap.size, 0, none⟩) (A.length + 1) (A.length + 1)) ∧ Hid (∃ vs, Ans w' w.heap.size (lsA A) (.slice (some ⟨w.heap.size, 0, none⟩) (A.length + 1) (A.length + 1)) vs) ∧ Below w.heap.size w w' := by
  obtain ⟨As, rq, rn, rg, ro, av, rfl, h⟩ := h
  rw [abs_len]
  exact arrays_at h
theorem Ans.lists {w : World} {b g c : Nat} {Ls : List (List V)} {vs : List Value} (h : Ans w b Ls (.slice (some ⟨g, 0, none⟩) Ls.length c) vs) : ListsAt w g Ls := fun n hn => by
  obtain ⟨q, h1, h2⟩ := h.own n hn
  refine ⟨q, Ls[n].length, ?_, fun h0 => ?_⟩
  · have := h.out.cellAt (g := g) n (by omega)
    exact this.trans h1
  · obtain ⟨q', cap, e, _, hr⟩ := own_slice h2
    cases e
    exact hr h0
end Go.Proofs.YtahdkffijlfmnaaGreatDoor.Hp

namespace Go.Proofs.YtahdkffijlfmnaaGreatDoor.Hp
open Go.RowKit
theorem strCells_bv (s : ByteArray) : Lib.strCells s = bv s.data.toList := by simp [Lib.strCells, bv]
theorem run_appS (w : World) (ty : TypeId) (base g cap n : Nat) (l : List UInt8) (s : ByteArray) (hown : w.ownsRow base 5 1 (.slice (some ⟨g, 0, none⟩) n cap) n (bv l)) (hn : n + s.size ≤ 1000000000) (hb : base ≤ w.heap.size) :
    ∃ v' w', (Builtin.append_ #[80, 9] ty #[.slice (some ⟨g, 0, none⟩) n cap, .string s]).run Tryz.prog w = .ok v' w' ∧ w'.ownsRow base 5 1 v' (n + s.size) (bv (l ++ s.data.toList)) ∧ w.grownBy w' (some g) ∧ (v'.ownBlock = some g ∨ v'.ownBlock = some w.heap.size) := by
  obtain ⟨i0, hi, hz0, hz1, hz2⟩ := info_parts info5
  obtain ⟨v', w', hr, h2, h3, _⟩ := Lib.run_append_own_string (P := Tryz.prog) w base 80 9 ty 5 i0 Tryz.underlying80 Tryz.underlying9 hi hz0 hz1 hz2 _ n _ hown s (by unfold maxLen; omega) (by omega) hb
  refine ⟨v', w', hr, by rw [bv_app, ← strCells_bv]; exact h2, h3, ?_⟩
  rcases hown.2 with ⟨q, _⟩ | ⟨g', cap', cur, hv, hbg, hg, hnc, hcm, hcs, htake⟩
  · cases q
  · cases hv
    by_cases hroom : n + s.size ≤ cap
    · have hr2 := Lib.run_append_room_string (P := Tryz.prog) w 80 9 ty 5 i0 Tryz.underlying80 Tryz.underlying9 hi hz1 g n cap cur hg s hroom (by simp at hcs; omega)
      rw [hr] at hr2
      cases hr2
      exact .inl rfl
    · have hr2 := Lib.run_append_grow_string (P := Tryz.prog) w 80 9 ty 5 i0 (.int .u8 0) Tryz.underlying80 Tryz.underlying9 hi hz0 ⟨g, 0, none⟩ n cap (bv l) (by rw [hz1]; have := hown.1; omega) (hown.cells (g := g) rfl) s (by omega) (by omega) (by rw [hz2]; exact growslice_fits (by omega) (by omega))
      rw [hr] at hr2
      cases hr2
      exact .inr rfl
theorem step_appS {w : World} {ops : Array Oper} {o : Oper} {a : Act} {K : Act → World → Prop} {Q : Exit → Act → World → Prop} {E : Prop} (hgd : o.guard = none) (s x : Operand)
    (ho : o.op = .call { callee := .builtin .append, args := #[s, x], argTypes := #[80, 9] })
    (base g cap n : Nat) (l : List UInt8) (hs : a.eval s = .slice (some ⟨g, 0, none⟩) n cap) (hown : w.ownsRow base 5 1 (.slice (some ⟨g, 0, none⟩) n cap) n (bv l)) (t : ByteArray) (hx : a.eval x = .string t)
    (h40 : n + t.size ≤ 1000000000) (hbase : base ≤ w.heap.size)
    (h : ∀ v' w', Hid (w'.ownsRow base 5 1 v' (n + t.size) (bv (l ++ t.data.toList))) → Hid (w.grownBy w' (some g) ∧ (v'.ownBlock = some g ∨ v'.ownBlock = some w.heap.size)) → K (a.put o.dst v') w') : if Region.wanted o (yielded ops a.tmps) = true then Oper.wp Tryz.prog o a w K Q else E := by
  have hw : Region.wanted o (yielded ops a.tmps) = true := by simp [Region.wanted, hgd]
  rw [if_pos hw]
  obtain ⟨v', w', hr, h2, h3, h4⟩ := run_appS w o.type base g cap n l t hown h40 hbase
  unfold Oper.wp execOp
  simp only [ho, resolve, invoke, builtin, Sem.run_bind, Sem.run_pure, Result.andThen_ok, List.map_toArray, List.map_cons, List.map_nil, hs, hx, hr]
  exact h v' w' h2 ⟨h3, h4⟩
def elB (v : V) : List UInt8 := if v.1 = 2 then [byteOf v.2.1] else if v.1 = 3 then numB (v.2.2.size : Int) 2 ++ v.2.2.data.toList else numB v.2.1 8
theorem calln (a b c : Value) (w : World) : (callFunc 58 #[a, b, c]).run Tryz.prog w = .ok (.enter 58 #[a, b, c]) w := by kernel_rfl
set_option maxRecDepth 100000 in
set_option maxHeartbeats 2000000 in
theorem appEl_any (k n : Int) (s : ByteArray) (hs : s.size ≤ 256) (base g cap m : Nat) (l : List UInt8) (w : World) (ho : w.ownsRow base 5 1 (.slice (some ⟨g, 0, none⟩) m cap) m (bv l)) (hb : base ≤ w.heap.size) (hl : m ≤ 800000000) :
    Calls Tryz.prog 60 #[.slice (some ⟨g, 0, none⟩) m cap, .agg #[.int .i64 k, .int .i64 n, .string s]] w fun e w' => ∃ v', e = .returned v' ∧ Hid (Grew w w' base (.slice (some ⟨g, 0, none⟩) m cap) v' (m + (elB (k, n, s)).length) (l ++ elB (k, n, s))) := by
  have B0 : Below w.heap.size w (w.alloc (.cells #[.int .i64 k, .int .i64 n, .string s] 52)) := (Below.refl _ w).alloc (Nat.le_refl _) _
  have b0 := Box3.new w k n s 52
  have hgl : g < w.heap.size := (own_blk ho g rfl).lt
  have G0 : Grew w (w.alloc (.cells #[.int .i64 k, .int .i64 n, .string s] 52)) base (.slice (some ⟨g, 0, none⟩) m cap) (.slice (some ⟨g, 0, none⟩) m cap) m l := ⟨own_next ho B0, Kp.of B0, fun g hg => .inl hg⟩
  have z0 : w.heap.size < (w.alloc (.cells #[.int .i64 k, .int .i64 n, .string s] 52)).heap.size := by simp
  by_cases h2 : k = 2
  · have he : elB (k, n, s) = [byteOf n] := by unfold elB; rw [if_pos h2]
    rw [he]
    subst h2
    have H1 : Hid (∀ u ∈ (#[.int .u8 (n % 256)] : Array Value).toList, u.oneCell' = true) := fun u hu => by
      obtain rfl := List.mem_singleton.1 (by simpa using hu)
      rfl
    go_enter Tryz.func60, Tryz.ntmps60
    go_upto_region 2 with fail
    generalize w.alloc (.cells #[.int .i64 2, .int .i64 n, .string s] 52) = X at b0 G0 z0 ⊢
    obtain ⟨⟨⟨x0, -⟩, ⟨x1, -⟩⟩, x2, -⟩ := b0
    have HO : Hid (X.ownsRow base 5 1 (.slice (some ⟨g, 0, none⟩) m cap) m (bv l)) := G0.own
    go_wp2_with (first
      | (at_builtin; refine wpList_app 80 5 _ 1 1 Tryz.underlying80 info5 (by rfl) (by decide) (by decide) (by rfl) _ _ (by rfl) base (.slice (some ⟨g, 0, none⟩) m cap) m (bv l) (by rfl) HO.out _ (by rfl) H1.out (by rfl) (by omega) (by omega) ?_; intro v' w3 ho3 hg3; obtain ⟨q, c, rfl, -, -⟩ := own_slice ho3.out)
      | go_in)
    go_ret
    refine ⟨_, rfl, ?_⟩
    refine G0.step _ hg3.out.1 hg3.out.2 ?_
    have e : bv (l ++ [byteOf n]) = bv l ++ [.int .u8 (n % 256)] := by
      rw [bv_app]
      simp only [bv, List.map_cons, List.map_nil, byteOf_nat]
    rw [e]
    exact ho3.out
  have h2' : (k == 2) = false := by simpa using h2
  by_cases h3 : k = 3
  · have he : elB (k, n, s) = numB (s.size : Int) 2 ++ s.data.toList := by unfold elB; rw [if_neg h2, if_pos h3]
    rw [he, List.length_append, numB_len, ← Lib.size_eq s]
    subst h3
    clear he
    clear h2
    go_enter Tryz.func60, Tryz.ntmps60
    go_upto_region 2 with fail
    generalize w.alloc (.cells #[.int .i64 3, .int .i64 n, .string s] 52) = X at b0 G0 z0 ⊢
    have b1 := b0
    obtain ⟨⟨⟨x0, -⟩, ⟨x1, -⟩⟩, x2, -⟩ := b0
    have hc := fun W (hW : W.ownsRow base 5 1 (.slice (some ⟨g, 0, none⟩) m cap) m (bv l)) (hWb : base ≤ W.heap.size) => appNum_any (s.size : Int) 2 (by decide) base _ m l W hW hWb (by omega)
    have HO : Hid (X.drew.ownsRow base 5 1 (.slice (some ⟨g, 0, none⟩) m cap) m (bv l)) := own_next G0.own (Below.refl _ X).drew
    have HXB : Hid (base ≤ X.drew.heap.size) := by show base ≤ X.heap.size; omega
    have HBX : Hid (∀ W v', Grew X.drew W base (.slice (some ⟨g, 0, none⟩) m cap) v' (m + 2) (l ++ numB (s.size : Int) 2) → W.cell? ⟨w.heap.size, 2, none⟩ = some (.string s) ∧ Grew w W base (.slice (some ⟨g, 0, none⟩) m cap) v' (m + 2) (l ++ numB (s.size : Int) 2)) := fun W v' hW => by
      refine ⟨?_, (G0.next (Below.refl _ X).drew).trans hW⟩
      have e : W.heap[w.heap.size]? = X.heap[w.heap.size]? := hW.kp.block _ (by show w.heap.size < X.heap.size; omega) (fun q => by cases q; exact Nat.lt_irrefl _ hgl)
      exact (World.cell?_of_block (w := X) (a := ⟨w.heap.size, 2, none⟩) e).trans x2
    clear G0 ho b1 B0
    go_wp2_with fail
    go_region_law (first
      | (refine step_call (by rfl) 58 [.tmp 17, .tmp 20, .const (.int .i64 2)] #[80, 2, 3] [.slice (some ⟨g, 0, none⟩) m cap, .int .i64 (s.size : Int), .int .i64 2] (by rfl) (by rfl) (calln _ _ _) _ (hc _ HO.out HXB.out) ?_; rintro v' w3 hg3; obtain ⟨d2, G3⟩ := HBX.out w3 v' hg3.out; obtain ⟨q3, c3, rfl, hc3, hr3⟩ := own_slice G3.own; obtain ⟨g3, rfl, -⟩ := hr3 (by omega))
      | (refine step_appS (by rfl) _ _ (by rfl) base g3 c3 (m + 2) (l ++ numB (s.size : Int) 2) (by rfl) G3.own s (by rfl) (by omega) (Nat.le_trans hb G3.kp.size) ?_; intro v5 w5 ho5 hg5; obtain ⟨q5, c5, rfl, -, -⟩ := own_slice ho5.out))
    all_goals
      have HF : Hid (Grew w w5 base (.slice (some ⟨g, 0, none⟩) m cap) (.slice q5 (m + 2 + s.size) c5) (m + 2 + s.size) (l ++ (numB (s.size : Int) 2 ++ s.data.toList))) := by
        refine G3.trans ⟨?_, (Kp.refl _ _).grown hg5.out.1 (fun k hk => .inl (by rw [← hk]; rfl)), fun g' hg' => ?_⟩
        · rw [← List.append_assoc]
          exact ho5.out
        · rcases hg5.out.2 with r | r
          · exact .inl (by rw [← hg', r]; rfl)
          · rw [r] at hg'
            cases hg'
            exact .inr (Nat.le_refl _)
      clear ho5 hg5 G3 d2
      go_wp2
      go_ret
      exact ⟨_, rfl, by rw [show m + (2 + s.size) = m + 2 + s.size by omega]; exact HF⟩
  · have he : elB (k, n, s) = numB n 8 := by unfold elB; rw [if_neg h2, if_neg h3]
    rw [he, numB_len]
    have h3' : (k == 3) = false := by simpa using h3
    clear h2 h3
    go_enter Tryz.func60, Tryz.ntmps60
    go_wp2_with fail
    generalize w.alloc (.cells #[.int .i64 k, .int .i64 n, .string s] 52) = X at b0 G0 z0 ⊢
    obtain ⟨⟨⟨x0, -⟩, ⟨x1, -⟩⟩, x2, -⟩ := b0
    have hc := appNum_any n 8 (by decide) base _ m l X G0.own (by omega) (by omega)
    go_wp2_with (first | (go_at_call 58; refine hc.mono ?_; rintro e w3 ⟨v', rfl, hg3⟩; obtain ⟨q, c, rfl, -, -⟩ := own_slice hg3.out.own) | go_in)
    go_ret
    exact ⟨_, rfl, G0.trans hg3.out⟩
end Go.Proofs.YtahdkffijlfmnaaGreatDoor.Hp

namespace Go.Proofs.YtahdkffijlfmnaaGreatDoor.Hp
open Go.RowKit
set_option maxRecDepth 100000 in
set_option maxHeartbeats 1000000 in
theorem mappNum_any (n : Int) (k : Nat) (hk : k ≤ 8) (base : Nat) (v : Value) (m : Nat) (l : List UInt8) (w : World) (ho : w.ownsRow base 5 1 v m (bv l)) (hb : base ≤ w.heap.size) (hl : m ≤ 900000000) :
    Calls Tryz.prog 37 #[v, .int .i64 n, .int .i64 (k : Int)] w fun e w' => ∃ v', e = .returned v' ∧ Hid (Grew w w' base v v' (m + k) (l ++ numB n k)) := by
  go_enter Tryz.func37, Tryz.ntmps37
  go_wp2
  go_loopw [0, 2] (fun b i wr => ∃ (j : Nat) (l' : List UInt8), j ≤ k ∧ i = .int .i64 ((j : Int) - 1) ∧ Hid (l' ++ numB n j = l ++ numB n k) ∧ Hid (Grew w wr base v b (m + k - j) l')) (fun _ i _ => (intOf i + 1).toNat)
  case atStart => exact ⟨k, l, Nat.le_refl _, rfl, rfl, by rw [Nat.add_sub_cancel]; exact ⟨ho, Kp.refl _ _, fun g hg => .inl hg⟩⟩
  case round =>
    obtain ⟨j, l', hj, rfl, hl', hG⟩ := hrel
    have ho' := hG.out.own
    cases j with
    | zero =>
      obtain ⟨q, c, rfl, -, -⟩ := own_slice ho'
      go_wp2
      first | (change bodyPost Tryz.prog Tryz.f37 _ Exit.ret _ _) | (simp only [Exit.noGoto])
      go_ret
      refine ⟨_, rfl, ?_⟩
      have e := hl'.out
      rw [numB, List.append_nil] at e
      rw [← e]
      exact hG
    | succ j =>
      have e1 : ((j + 1 : Nat) : Int) - 1 = (j : Int) := by omega
      rw [e1]
      have hz : base ≤ wr.heap.size := Nat.le_trans hb hG.out.kp.size
      have j0 : (0 : Int) ≤ (j : Int) := by omega
      have j8 : (j : Int) ≤ 7 := by omega
      have H1 : Hid (∀ u ∈ (#[.int .u8 (n / 2 ^ (8 * j) % 256)] : Array Value).toList, u.oneCell' = true) := fun u hu => by
        obtain rfl := List.mem_singleton.1 (by simpa using hu)
        rfl
      go_wp2_with (first
        | (at_builtin; refine wpList_app 80 5 _ 1 1 Tryz.underlying80 info5 (by rfl) (by decide) (by decide) (by rfl) _ _ (by rfl) base u0 (m + k - (j + 1)) (bv l') (by rfl) ho' _ (by rfl) H1.out (by rfl) (by omega) hz ?_; intro v' w3 ho3 hg3)
        | go_in)
      refine ⟨⟨j, l' ++ [byteOf (n / 2 ^ (8 * j))], by omega, by go_num, ?_, ?_⟩, by simp [intOf]⟩
      · have e := hl'.out
        rw [numB] at e
        show (l' ++ [byteOf (n / 2 ^ (8 * j))]) ++ numB n j = l ++ numB n k
        rw [← e]
        simp
      · have e : bv (l' ++ [byteOf (n / 2 ^ (8 * j))]) = bv l' ++ [.int .u8 (n / 2 ^ (8 * j) % 256)] := by
          rw [bv_app]
          simp only [bv, List.map_cons, List.map_nil, byteOf_nat]
        refine hG.out.step _ hg3.out.1 hg3.out.2 ?_
        have q := ho3.out
        rw [show m + k - (j + 1) + 1 = m + k - j by omega] at q
        rw [e]
        exact q
def vaB (v : V) : List UInt8 := byteOf v.1 :: elB v
theorem vaB_len {v : V} (h : v.2.2.size ≤ 256) : (vaB v).length ≤ 300 := by
  have : (elB v).length ≤ 258 := by
    unfold elB
    split
    · simp
    · split
      · rw [List.length_append, numB_len, ← Lib.size_eq v.2.2]; omega
      · rw [numB_len]; omega
  unfold vaB
  rw [List.length_cons]
  omega
theorem vas_len : ∀ (l : List V), (∀ v ∈ l, v.2.2.size ≤ 256) → (l.flatMap vaB).length ≤ 300 * l.length
  | [], _ => by simp
  | v :: l, h => by
    have h1 := vaB_len (h v List.mem_cons_self)
    have h2 := vas_len l fun x hx => h x (List.mem_cons_of_mem _ hx)
    rw [List.flatMap_cons, List.length_append, List.length_cons]
    omega
end Go.Proofs.YtahdkffijlfmnaaGreatDoor.Hp
