import Derived.Test.YtdcioemjmmhbhaaDoorClone
import Derived.Test.YtdcioemjmmhbhaaDoorRSame
import Derived.Test.YtdcioemjmmhbhaaDoorApp1
namespace Go.Proofs.YtdcioemjmmhbhaaDoor
open Go.RowKit

/-- The lists that a heap has. -/
def lsA (A : Hp) : List (List V) := [] :: A.map (·.2)
theorem lsA_len (A : Hp) : (lsA A).length = A.length + 1 := by simp [lsA]

/-- Lists of their own: a row of slices, each a list of its own with no room behind it. -/
structure Ans (w : World) (b : Nat) (Ls : List (List V)) (v : Value) (vs : List Value) : Prop where
  len : vs.length = Ls.length
  out : w.ownsRow b 59 1 v Ls.length vs
  own : ∀ k (hk : k < Ls.length), ∃ q, vs[k]? = some (.slice q Ls[k].length Ls[k].length) ∧ w.ownsRow b 37 3 (.slice q Ls[k].length Ls[k].length) Ls[k].length (vcs Ls[k])
  sep : vs.Pairwise fun x y => ∀ i, x.ownBlock = some i → y.ownBlock ≠ some i
theorem Ans.same {w w' : World} {b : Nat} {Ls : List (List V)} {v : Value} {vs : List Value} (h : Ans w b Ls v vs) (hk : ∀ g, b ≤ g → g < w.heap.size → w'.heap[g]? = w.heap[g]?) : Ans w' b Ls v vs where
  len := h.len
  out := own_same h.out fun g hg => hk g (h.out.lt g hg).1 (h.out.lt g hg).2
  own k hk' := by obtain ⟨q, h1, h2⟩ := h.own k hk'; exact ⟨q, h1, own_same h2 fun g hg => hk g (h2.lt g hg).1 (h2.lt g hg).2⟩
  sep := h.sep
theorem Ans.next {w w' : World} {b : Nat} {Ls : List (List V)} {v : Value} {vs : List Value} (h : Ans w b Ls v vs) (k : Below w.heap.size w w') : Ans w' b Ls v vs := h.same fun g _ hl => k.block g hl
/-- One list more. -/
theorem Ans.push {w w' : World} {b : Nat} {Ls : List (List V)} {v v' : Value} {vs : List Value} (h : Ans w b Ls v vs) (q : Option Addr) (l : List V) (hl : w.ownsRow b 37 3 (.slice q l.length l.length) l.length (vcs l)) (hn : ∀ i, (Value.slice q l.length l.length).ownBlock = some i → ∀ (k : Nat) (x : Value), vs[k]? = some x → x.ownBlock ≠ some i)
    (ho : w'.ownsRow b 59 1 v' (Ls.length + 1) (vs ++ [.slice q l.length l.length])) (hg : w.grownBy w' v.ownBlock) : Ans w' b (Ls ++ [l]) v' (vs ++ [.slice q l.length l.length]) := by
  have hkeep : ∀ {x : Value} {n : Nat} {xs : List Value}, w.ownsRow b 37 3 x n xs → w'.ownsRow b 37 3 x n xs := fun {x n xs} hx => own_same hx fun g hg' => hg.block g (hx.lt g hg').2 (fun e => own_ne h.out (own_blk hx g hg') (by decide) e.symm)
  refine ⟨by simp [h.len], by rw [List.length_append]; exact ho, fun k hk => ?_, ?_⟩
  · by_cases hk' : k < Ls.length
    · obtain ⟨p, h1, h2⟩ := h.own k hk'
      rw [List.getElem_append_left hk']
      exact ⟨p, by rw [List.getElem?_append_left (by rw [h.len]; exact hk')]; exact h1, hkeep h2⟩
    · have : k = Ls.length := by rw [List.length_append] at hk; simp at hk; omega
      subst this
      rw [List.getElem_append_right (Nat.le_refl _)]
      simp only [Nat.sub_self, List.getElem_cons_zero]
      exact ⟨q, by rw [List.getElem?_append_right (by rw [h.len]; exact Nat.le_refl _), h.len]; simp, hkeep hl⟩
  · rw [List.pairwise_append]
    refine ⟨h.sep, List.pairwise_singleton _ _, fun a ha c hc i hi e => ?_⟩
    rw [List.mem_singleton] at hc
    subst hc
    obtain ⟨k, hk⟩ := List.mem_iff_getElem?.1 ha
    exact hn i e k a hk hi

/-- A block that is just so long. -/
theorem own_full {w : World} {b g n sz : Nat} {t : TypeId} {xs : List Value} (hb : b ≤ g) (hl : xs.length = n * sz) (hblk : Blk w g t (n * sz)) (hend : w.cell? ⟨g, n * sz, none⟩ = none) (hr : w.rangeAt g 0 xs) (hn : n ≤ maxLen) : w.ownsRow b t sz (.slice (some ⟨g, 0, none⟩) n n) n xs := by
  obtain ⟨cur, h1, h2⟩ := hblk
  have hs : cur.size = n * sz := by
    simp only [World.cell?, h1] at hend
    have : cur.size ≤ n * sz := by simpa using hend
    omega
  refine ⟨hl, .inr ⟨g, n, cur, rfl, hb, h1, Nat.le_refl _, hn, hs, ?_⟩⟩
  rw [List.take_of_length_le (by rw [Array.length_toList]; omega)]
  apply List.ext_getElem?
  intro j
  by_cases hj : j < n * sz
  · have hj' : j < xs.length := by omega
    have := hr j xs[j] (List.getElem?_eq_getElem hj')
    rw [Nat.zero_add] at this
    simp only [World.cell?, h1] at this
    rw [List.getElem?_eq_getElem hj']
    simpa using this
  · rw [List.getElem?_eq_none (by rw [Array.length_toList]; omega), List.getElem?_eq_none (by omega)]

theorem run_makeL (N : Nat) (hN : N ≤ 100000) (w : World) : ∃ Z : Array Value, Z.size = N + 1 ∧ Z[0]? = some (.slice none 0 0) ∧ (Instr.makeSlice 32 (.int .i64 1) (.int .i64 ((N : Int) + 1))).run Tryd.prog w = .ok (.slice (some ⟨w.heap.size, 0, none⟩) 1 (N + 1)) (w.alloc (.cells Z 59)) := by
  obtain ⟨i, hq, hz, hi, hb⟩ := info_parts info59
  have := run_make (P := Tryd.prog) w 32 59 i _ Tryd.underlying32 hq hz .i64 .i64 1 ((N : Int) + 1) (by omega) (by omega) (by rw [hb]; omega) (by omega)
  rw [show ((N : Int) + 1).toNat = N + 1 by omega, hi] at this
  exact ⟨_, by rw [size_madeCells]; omega, by simp [madeCells, Value.cells], this⟩

set_option maxRecDepth 100000 in
set_option maxHeartbeats 4000000 in
theorem arrays_at {w : World} {p lim : Nat} {As : List Ar} {rq : Option Addr} {rn rg ro : Nat} {av : Value} {F : Nat → Prop} (h : HeapAt w p lim As rq rn rg ro av F) :
    Calls Tryd.prog 21 #[.pointer (some ⟨p, 0, none⟩)] w fun e w' => e = .returned (.slice (some ⟨w.heap.size, 0, none⟩) (As.length + 1) (As.length + 1)) ∧ Hid (∃ vs, Ans w' w.heap.size (lsA (absA As)) (.slice (some ⟨w.heap.size, 0, none⟩) (As.length + 1) (As.length + 1)) vs) ∧ Below w.heap.size w w' := by
  have hlen := h.len
  obtain ⟨aq, ac', hav, -, har⟩ := own_slice h.arrs
  subst hav
  have HH : Hid (HeapAt w p lim As rq rn rg ro (.slice aq As.length ac') F) := h
  have c3 := h.c3
  obtain ⟨Z, hZ, hZ0, hmk⟩ := run_makeL As.length hlen.1 w
  have iN : IntKind.i64.wrap ((As.length : Int) + 1) = (As.length : Int) + 1 := by rw [IntKind.wrap_i64]; omega
  have HB : Hid (∀ W, Below w.heap.size w W → W.cell? ⟨p, 3, none⟩ = some (.slice aq As.length ac')) := fun W hW => (HH.out.next hW).c3
  have HAR : Hid (∀ i (hi : i < As.length) W, Below w.heap.size w W → ∃ ag, aq = some ⟨ag, 0, none⟩ ∧ W.cell? ⟨ag, i * 2, none⟩ = some (.int .i64 As[i].kind) ∧ W.cell? ⟨ag, i * 2 + 1, none⟩ = some (.slice As[i].q As[i].els.length As[i].els.length)) := fun i hi W hW => by
    obtain ⟨ag, e, hr⟩ := har (by omega)
    have e0' := hr (i * 2 + 0) (.int .i64 As[i].kind) ((flat_at ac 2 (fun _ => rfl) As i 0 hi (by decide)).trans rfl)
    have e1' := hr (i * 2 + 1) (.slice As[i].q As[i].els.length As[i].els.length) ((flat_at ac 2 (fun _ => rfl) As i 1 hi (by decide)).trans rfl)
    rw [Nat.zero_add] at e0' e1'
    rw [Nat.add_zero] at e0'
    exact ⟨ag, e, (hW.cell (p := ⟨ag, _, none⟩) (block_lt_of_cell e0')).trans e0', (hW.cell (p := ⟨ag, _, none⟩) (block_lt_of_cell e1')).trans e1'⟩
  have b1 : Below w.heap.size w (w.alloc (.cells Z 59)) := (Below.refl _ w).alloc (Nat.le_refl _) _
  have HA0 : Hid (∃ vs, Ans (w.alloc (.cells Z 59)) w.heap.size ((lsA (absA As)).take 1) (.slice (some ⟨w.heap.size, 0, none⟩) 1 (As.length + 1)) vs) := by
    refine ⟨[.slice none 0 0], rfl, ⟨rfl, .inr ⟨w.heap.size, As.length + 1, Z, rfl, Nat.le_refl _, World.alloc_heap_new w _, by show 1 ≤ _; omega, by unfold maxLen; omega, by rw [hZ, Nat.mul_one], ?_⟩⟩, fun k hk => ?_, List.pairwise_singleton _ _⟩
    · have : 0 < Z.toList.length := by rw [Array.length_toList]; omega
      rw [List.ext_getElem?_iff]
      intro j
      rcases j with _ | j
      · rw [List.getElem?_take_of_lt (by simp [lsA])]
        simpa using hZ0
      · rw [List.getElem?_eq_none (by rw [List.length_take]; show min 1 _ ≤ _; omega), List.getElem?_eq_none (by simp)]
    · have : k = 0 := by simp [lsA] at hk; omega
      subst this
      exact ⟨none, rfl, World.ownsRow_nil _ _ _ _⟩
  have d3 := HB.out _ b1
  clear h hZ hZ0 har
  go_enter Tryd.func21, Tryd.ntmps21
  go_wp2_with fail
  generalize w.alloc (.cells Z 59) = w1 at HA0 b1 ⊢
  clear hmk iN c3 d3
  go_loopw [3, 19] (fun v3 v wr => ∃ i : Nat, i ≤ As.length ∧ v3 = .slice (some ⟨w.heap.size, 0, none⟩) (i + 1) (As.length + 1) ∧ v = .int .i64 (i : Int) ∧ Hid (∃ vs, Ans wr w.heap.size ((lsA (absA As)).take (i + 1)) (.slice (some ⟨w.heap.size, 0, none⟩) (i + 1) (As.length + 1)) vs) ∧ Hid (Below w.heap.size w wr)) (fun _ v _ => As.length - (intOf v).toNat)
  case atStart => exact ⟨0, Nat.zero_le _, rfl, rfl, HA0, b1⟩
  case round =>
    obtain ⟨i, hi, rfl, rfl, hT, hBx⟩ := hrel
    clear HA0 b1
    have hB := hBx.out
    by_cases hlt : i < As.length
    case neg =>
      obtain rfl : i = As.length := by omega
      rw [List.take_of_length_le (by rw [lsA_len, abs_len]; exact Nat.le_refl _)] at hT
      clear hB
      go_wp2
      go_ret
      exact ⟨rfl, hT, hBx.out⟩
    obtain ⟨ag, rfl, a0, a1⟩ := HAR.out i hlt wr hB
    have hmem : As[i] ∈ As := List.getElem_mem hlt
    have hll := hlen.2 _ hmem
    have hokA := HH.out.ok _ hmem
    have hsrc := HH.out.els _ hmem
    have htk : (lsA (absA As)).take (i + 1 + 1) = (lsA (absA As)).take (i + 1) ++ [As[i].els] := by
      rw [List.take_succ_eq_append_getElem (by rw [lsA_len, abs_len]; omega)]
      simp [lsA, absA]
    generalize As[i] = y at a0 a1 hll hokA hsrc htk
    obtain ⟨yk, ye, yq, yg, yo⟩ := y
    simp only at a0 a1 hll hokA hsrc htk
    have i0 : (0 : Int) ≤ (i : Int) := by omega
    have i1 : (i : Int) < (As.length : Int) := by omega
    have bx := Box2.new wr (.int .i64 yk) (.slice yq ye.length ye.length) 82
    have nb : Below wr.heap.size wr (wr.alloc (.cells #[.int .i64 yk, .slice yq ye.length ye.length] 82)) := (Below.refl _ wr).alloc (Nat.le_refl _) _
    have zX : wr.heap.size < (wr.alloc (.cells #[.int .i64 yk, .slice yq ye.length ye.length] 82)).heap.size := by simp
    go_upto_region 5 with fail
    generalize wr.alloc (.cells #[.int .i64 yk, .slice yq ye.length ye.length] 82) = X at bx nb zX ⊢
    have BX := below2 hB nb
    have HTX : Hid (∃ vs, Ans X w.heap.size ((lsA (absA As)).take (i + 1)) (.slice (some ⟨w.heap.size, 0, none⟩) (i + 1) (As.length + 1)) vs) := by obtain ⟨vs, q⟩ := hT.out; exact ⟨vs, q.next nb⟩
    generalize wr.heap.size = xb at bx zX ⊢
    clear a0 a1 nb hB hBx hT
    obtain ⟨⟨x0, -⟩, x1, -⟩ := id bx
    obtain ⟨Z2, hZ2, hmk2⟩ := run_makeV ye.length hll
    have nb2 : Below X.heap.size X (X.alloc (.cells Z2 37)) := (Below.refl _ X).alloc (Nat.le_refl _) _
    have bk2 : Blk (X.alloc (.cells Z2 37)) X.heap.size 37 (ye.length * 3) := Blk.new X Z2 _ (by omega)
    have hn2 := World.alloc_heap_new X (.cells Z2 37)
    have zX2 : X.heap.size < (X.alloc (.cells Z2 37)).heap.size := by simp
    have bx2 := bx.same (nb2.block xb zX)
    go_upto_region 6 with fail
    generalize X.alloc (.cells Z2 37) = X2 at nb2 bk2 bx2 hn2 zX2 ⊢
    have BX2 := below2 BX nb2
    obtain ⟨⟨x0', -⟩, x1', -⟩ := id bx2
    have hfl := fill_any X2 (some ⟨X.heap.size, 0, none⟩) yq ye.length ye.length X.heap.size 0 yg yo ye hll (fun v hv => may_small (hokA.2 v hv)) (fun _ => ⟨rfl, by rw [Nat.zero_add]; exact bk2⟩) (fun h0 => by
      obtain ⟨r1, r2, r3, _⟩ := hsrc (fun r => by rw [r] at h0; simp at h0)
      refine ⟨r1, range_same r3 (BX2.block yg r2.lt), ?_⟩
      have := r2.lt
      have := BX.size
      omega)
    clear x0 x1 hmk2
    go_wp2_with fail
    refine hfl.mono ?_
    rintro e w3 ⟨rfl, hf3⟩
    have hk3 : ∀ g, g < X2.heap.size → g ≠ X.heap.size → w3.heap[g]? = X2.heap[g]? := fun g hg hne => by
      rcases Nat.eq_zero_or_pos ye.length with h0 | h0
      · rw [hf3.out.2 h0]
      · exact (hf3.out.1 h0).kp.block g hg hne
    have hz3 : X2.heap.size ≤ w3.heap.size := by
      rcases Nat.eq_zero_or_pos ye.length with h0 | h0
      · rw [hf3.out.2 h0]; exact Nat.le_refl _
      · exact (hf3.out.1 h0).kp.size
    have hB3 : Below w.heap.size w w3 := by
      rcases Nat.eq_zero_or_pos ye.length with h0 | h0
      · rw [hf3.out.2 h0]; exact BX2
      · exact BX2.trans ((hf3.out.1 h0).kp.below (fun k hk => by rw [hk]; exact BX.size) BX2.size)
    have hB3X : Below X.heap.size X w3 := by
      rcases Nat.eq_zero_or_pos ye.length with h0 | h0
      · rw [hf3.out.2 h0]; exact nb2
      · exact nb2.trans ((hf3.out.1 h0).kp.below (fun k hk => by rw [hk]; exact Nat.le_refl _) nb2.size)
    have hl3 : w3.ownsRow w.heap.size 37 3 (.slice (some ⟨X.heap.size, 0, none⟩) ye.length ye.length) ye.length (vcs ye) := by
      have hend2 : X2.cell? ⟨X.heap.size, ye.length * 3, none⟩ = none := by
        simp only [World.cell?, hn2]
        simp [hZ2]
      rcases Nat.eq_zero_or_pos ye.length with h0 | h0
      · have : ye = [] := List.length_eq_zero_iff.1 h0
        subst this
        rw [hf3.out.2 h0]
        exact own_full BX.size rfl bk2 hend2 (fun j v hv => by simp [vcs] at hv) (by decide)
      · exact own_full BX.size (vcs_len ye) ((hf3.out.1 h0).blk _ bk2) (((hf3.out.1 h0).out _ (.inr (by omega))).trans hend2) (hf3.out.1 h0).inn (by unfold maxLen; omega)
    have ⟨vs, ha⟩ : ∃ vs, Ans w3 w.heap.size ((lsA (absA As)).take (i + 1)) (.slice (some ⟨w.heap.size, 0, none⟩) (i + 1) (As.length + 1)) vs ∧ ∀ (k : Nat) (x : Value), vs[k]? = some x → x.ownBlock ≠ some X.heap.size := by
      obtain ⟨vs, q⟩ := HTX.out
      refine ⟨vs, q.next hB3X, fun k x hx e => ?_⟩
      have hk : k < ((lsA (absA As)).take (i + 1)).length := by rw [← q.len]; exact (List.getElem?_eq_some_iff.1 hx).1
      obtain ⟨q', h1, h2⟩ := q.own k hk
      have h3 := Option.some.inj (hx.symm.trans h1)
      rw [h3] at e
      have := (h2.lt _ e).2
      omega
    have bx3 := bx2.same (hk3 xb (by omega) (by omega))
    obtain ⟨⟨x0'', -⟩, x1'', -⟩ := id bx3
    have htl : ((lsA (absA As)).take (i + 1)).length = i + 1 := by rw [List.length_take, lsA_len, abs_len]; omega
    obtain ⟨w4, hw4⟩ : ∃ w4, w3.alloc (.cells #[.slice (some ⟨X.heap.size, 0, none⟩) ye.length ye.length] 59) = w4 := ⟨_, rfl⟩
    have nb4 : Below w3.heap.size w3 w4 := by rw [← hw4]; exact (Below.refl _ w3).alloc (Nat.le_refl _) _
    have ha4 := ha.1.next nb4
    have ho4 := ha4.out
    rw [htl] at ho4
    obtain ⟨w5, hrun, ho5, hg5⟩ := app_in (P := Tryd.prog) (w := w4) (base := w.heap.size) 32 32 (.slice none 0 0) 24 Tryd.underlying32 info59 rfl (by decide) (by decide) w.heap.size (i + 1) (As.length + 1) vs ho4 w3.heap.size [.slice (some ⟨X.heap.size, 0, none⟩) ye.length ye.length] rfl (one_slice _ _ _) (by
      have e := World.alloc_heap_new w3 (.cells #[.slice (some ⟨X.heap.size, 0, none⟩) ye.length ye.length] 59)
      rw [hw4] at e
      intro j u hu
      rw [Nat.zero_add]
      simp only [World.cell?, e]
      simpa using hu) (by omega) (Nat.le_trans hB3.size nb4.size) (by omega)
    have HT5 : Hid (∃ vs, Ans w5 w.heap.size ((lsA (absA As)).take (i + 1 + 1)) (.slice (some ⟨w.heap.size, 0, none⟩) (i + 1 + 1) (As.length + 1)) vs) := by
      rw [htk]
      refine ⟨_, ha4.push (some ⟨X.heap.size, 0, none⟩) ye (own_next hl3 nb4) (fun j hj k x hx e => ?_) (by rw [htl]; exact ho5) hg5⟩
      cases hj
      exact ha.2 k x hx e
    have HB5 : Hid (Below w.heap.size w w5) := (hB3.trans (nb4.mono hB3.size)).grown hg5 (Nat.le_trans hB3.size nb4.size) (fun k e => by cases e; exact Nat.le_refl _)
    clear hl3 ha ha4 ho4 ho5 hg5 nb4 hf3 hk3 hz3 hB3 hB3X bx bx2 bx3 x0' x1' hsrc hokA HTX BX BX2 nb2 bk2 hn2 zX2 zX htk htl hfl hZ2
    go_wp2_with (at_builtin; refine wpList_apr rfl (.tmp 31) (.tmp 33) 32 rfl hrun ?_)
    exact ⟨⟨i + 1, by omega, rfl, by go_num, HT5, HB5⟩, by simp [intOf]; omega⟩

theorem arrays_any {w : World} {p lim : Nat} {A : Hp} {F : Nat → Prop} (h : HeapOf w p lim A F) :
    Calls Tryd.prog 21 #[.pointer (some ⟨p, 0, none⟩)] w fun e w' => e = .returned (.slice (some ⟨w.heap.size, 0, none⟩) (A.length + 1) (A.length + 1)) ∧ Hid (∃ vs, Ans w' w.heap.size (lsA A) (.slice (some ⟨w.heap.size, 0, none⟩) (A.length + 1) (A.length + 1)) vs) ∧ Below w.heap.size w w' := by
  obtain ⟨As, rq, rn, rg, ro, av, rfl, h⟩ := h
  rw [abs_len]
  exact arrays_at h
theorem Ans.lists {w : World} {b g c : Nat} {Ls : List (List V)} {vs : List Value} (h : Ans w b Ls (.slice (some ⟨g, 0, none⟩) Ls.length c) vs) : ListsAt w g Ls := fun n hn => by
  obtain ⟨q, h1, h2⟩ := h.own n hn
  refine ⟨q, Ls[n].length, ?_, fun h0 => ?_⟩
  · have := h.out.cellAt (g := g) n (by omega)
    exact this.trans h1
  · obtain ⟨q', cap, e, _, hr⟩ := own_slice h2
    cases e
    exact hr h0
end Go.Proofs.YtdcioemjmmhbhaaDoor
