import Derived.Maps.AppendAt
import Derived.Test.YtahdkffijlfmnaaGreatDoorF18
namespace Go.Proofs.YtahdkffijlfmnaaGreatDoor.Hp
open Go.RowKit

theorem Ans.down {w : World} {b c : Nat} {Ls : List (List V)} {v : Value} {vs : List Value} (h : Ans w b Ls v vs) (hc : c ≤ b) : Ans w c Ls v vs :=
  ⟨h.len, own_down h.out hc, fun k hk => by obtain ⟨q, h1, h2⟩ := h.own k hk; exact ⟨q, h1, own_down h2 hc⟩, h.sep⟩
theorem Ans.blk {w : World} {b : Nat} {Ls : List (List V)} {v : Value} {vs : List Value} (h : Ans w b Ls v vs) {g : Nat} (hg : bkL vs g) : (b ≤ g ∧ g < w.heap.size) ∧ ∃ n, Blk w g 52 n := by
  obtain ⟨k, x, hx, hxg⟩ := hg
  have hk : k < Ls.length := by rw [← h.len]; exact (List.getElem?_eq_some_iff.1 hx).1
  obtain ⟨q, h1, h2⟩ := h.own k hk
  have e := Option.some.inj (hx.symm.trans h1)
  rw [e] at hxg
  exact ⟨h2.lt g hxg, _, own_blk h2 g hxg⟩
theorem bkL_app {a b : List Value} {g : Nat} (h : bkL (a ++ b) g) : bkL a g ∨ bkL b g := by
  obtain ⟨k, x, hx, hg⟩ := h
  by_cases hk : k < a.length
  · rw [List.getElem?_append_left hk] at hx
    exact .inl ⟨k, x, hx, hg⟩
  · rw [List.getElem?_append_right (by omega)] at hx
    exact .inr ⟨_, x, hx, hg⟩
theorem bkL_mem {a : List Value} {g : Nat} {x : Value} (h : x ∈ a) (hg : x.ownBlock = some g) : bkL a g := by
  obtain ⟨k, hk⟩ := List.mem_iff_getElem?.1 h
  exact ⟨k, x, hk, hg⟩
/-- Lists of their own, wherever the row lies that names them. -/
def Par (w : World) (b : Nat) (Ls : List (List V)) (vs : List Value) : Prop := vs.length = Ls.length ∧ (∀ k (hk : k < Ls.length), ∃ q, vs[k]? = some (.slice q Ls[k].length Ls[k].length) ∧ w.ownsRow b 52 3 (.slice q Ls[k].length Ls[k].length) Ls[k].length (vcs Ls[k])) ∧ vs.Pairwise fun x y => ∀ i, x.ownBlock = some i → y.ownBlock ≠ some i
theorem Ans.par {w : World} {b : Nat} {Ls : List (List V)} {v : Value} {vs : List Value} (h : Ans w b Ls v vs) : Par w b Ls vs := ⟨h.len, h.own, h.sep⟩
theorem Par.ans {w : World} {b : Nat} {Ls : List (List V)} {v : Value} {vs : List Value} (h : Par w b Ls vs) (ho : w.ownsRow b 64 1 v Ls.length vs) : Ans w b Ls v vs := ⟨h.1, ho, h.2.1, h.2.2⟩
theorem Par.join {w : World} {b : Nat} {L1 L2 : List (List V)} {s1 s2 : List Value} (h1 : Par w b L1 s1) (h2 : Par w b L2 s2) (hs : ∀ g, bkL s1 g → ¬ bkL s2 g) : Par w b (L1 ++ L2) (s1 ++ s2) := by
  refine ⟨by rw [List.length_append, List.length_append, h1.1, h2.1], fun k hk => ?_, ?_⟩
  · by_cases hk' : k < L1.length
    · obtain ⟨p, e1, e2⟩ := h1.2.1 k hk'
      rw [List.getElem_append_left hk']
      exact ⟨p, by rw [List.getElem?_append_left (by rw [h1.1]; exact hk')]; exact e1, e2⟩
    · have hk2 : k - L1.length < L2.length := by rw [List.length_append] at hk; omega
      obtain ⟨p, e1, e2⟩ := h2.2.1 (k - L1.length) hk2
      rw [List.getElem_append_right (by omega)]
      exact ⟨p, by rw [List.getElem?_append_right (by rw [h1.1]; omega), h1.1]; exact e1, e2⟩
  · rw [List.pairwise_append]
    exact ⟨h1.2.2, h2.2.2, fun x hx y hy i hi e => hs i (bkL_mem hx hi) (bkL_mem hy e)⟩

/-- A row of slices is appended to another. -/
theorem app_row (w : World) (base : Nat) (v : Value) (n : Nat) (xs : List Value) (hown : w.ownsRow base 64 1 v n xs) (b G m c : Nat) (ys : List Value) (hs : w.ownsRow b 64 1 (.slice (some ⟨G, 0, none⟩) m c) m ys) (hsl : ∀ u ∈ ys, ∃ q n c, u = .slice q n c) (h40 : n + m ≤ 1000000) (hbase : base ≤ w.heap.size) :
    ∃ v' w', (Builtin.append_ #[44, 44] 44 #[v, .slice (some ⟨G, 0, none⟩) m c]).run Tryz.prog w = .ok v' w' ∧ w'.ownsRow base 64 1 v' (n + m) (xs ++ ys) ∧ Below base w w' := by
  obtain ⟨i, hi, hz0, hz1, hz2⟩ := info_parts info59
  obtain ⟨v', w', hr, h2, h3, _⟩ := run_append_own (P := Tryz.prog) w base 44 44 64 i _ 1 24 Tryz.underlying44 hi hz0 hz1 hz2 rfl (by decide) v n xs hown ⟨G, 0, none⟩ m c ys (by rw [Nat.mul_one]; have := hs.1; omega)
    (hs.cells (g := G) rfl) (fun u hu => by obtain ⟨q, n, c, rfl⟩ := hsl u hu; rfl) (by unfold maxLen; omega) (by omega) hbase
  exact ⟨v', w', hr, h2, (Below.refl _ w).grown h3 hbase (fun k hk => (hown.lt k hk).1)⟩
theorem Ans.slices {w : World} {b : Nat} {Ls : List (List V)} {v : Value} {vs : List Value} (h : Ans w b Ls v vs) : ∀ u ∈ vs, ∃ q n c, u = .slice q n c := fun u hu => by
  obtain ⟨k, hk⟩ := List.mem_iff_getElem?.1 hu
  obtain ⟨q, h1, _⟩ := h.own k (by rw [← h.len]; exact (List.getElem?_eq_some_iff.1 hk).1)
  exact ⟨q, _, _, Option.some.inj (hk.symm.trans h1)⟩

/-- A row behind which i lists of one value were laid. -/
def Cd (b0 : Nat) (wr : World) (N : Nat) (v0 : Value) (vs0 : List Value) (t : Int) (i : Nat) (v : Value) : Prop :=
  (i = 0 ∧ v = v0) ∨ (0 < i ∧ ∃ us : List Value, us.length = i ∧ wr.ownsRow b0 64 1 v (N + i) (vs0 ++ us) ∧ ∀ (k : Nat) (x : Value), us[k]? = some x → ∃ g, x = .slice (some ⟨g, 0, none⟩) 1 1 ∧ wr.ownsRow b0 52 3 x 1 [.int .i64 t, .int .i64 0, .string e0])
theorem Cd.keep {b0 : Nat} {wr w' : World} {N : Nat} {v0 : Value} {vs0 : List Value} {t : Int} {i : Nat} {v : Value} (h : Cd b0 wr N v0 vs0 t i v) (hk : ∀ g, g < wr.heap.size → ((0 < i ∧ v.ownBlock = some g) ∨ ∃ n, Blk wr g 52 n) → w'.heap[g]? = wr.heap[g]?) : Cd b0 w' N v0 vs0 t i v := by
  rcases h with h | ⟨h0, us, h1, h2, h3⟩
  · exact .inl h
  · refine .inr ⟨h0, us, h1, own_same h2 fun g hg => hk g (h2.lt g hg).2 (.inl ⟨h0, hg⟩), fun k x hx => ?_⟩
    obtain ⟨g, e1, e2⟩ := h3 k x hx
    exact ⟨g, e1, own_same e2 fun g' hg' => hk g' (e2.lt g' hg').2 (.inr ⟨_, own_blk e2 g' hg'⟩)⟩
theorem Cd.next {b0 : Nat} {wr w' : World} {N : Nat} {v0 : Value} {vs0 : List Value} {t : Int} {i : Nat} {v : Value} (h : Cd b0 wr N v0 vs0 t i v) (k : Below wr.heap.size wr w') : Cd b0 w' N v0 vs0 t i v := h.keep fun g hg _ => k.block g hg

theorem Cd.step {b0 : Nat} {wr : World} {N : Nat} {q : Option Addr} {vs0 : List Value} {t : Int} {i : Nat} {v : Value} (h : Cd b0 wr N (.slice q N N) vs0 t i v) (b' : Nat) (hv0 : wr.ownsRow b' 64 1 (.slice q N N) N vs0) (hb' : b' ≤ wr.heap.size) (hb0 : b0 ≤ wr.heap.size) (hN : N ≤ 200000) (hi : i ≤ 70) :
    ∃ v' w', (Builtin.append_ #[44, 44] 44 #[v, .slice (some ⟨wr.heap.size + 1, 0, none⟩) 1 1]).run Tryz.prog ((wr.alloc (.cells #[.int .i64 t, .int .i64 0, .string e0] 52)).alloc (.cells #[.slice (some ⟨wr.heap.size, 0, none⟩) 1 1] 64)) = .ok v' w' ∧
      Cd b0 w' N (.slice q N N) vs0 t (i + 1) v' ∧ Below b0 wr w' ∧ (∀ g, g < wr.heap.size → (0 < i → v.ownBlock ≠ some g) → w'.heap[g]? = wr.heap[g]?) ∧ ((0 < i ∧ v'.ownBlock = v.ownBlock) ∨ ∃ g, v'.ownBlock = some g ∧ wr.heap.size ≤ g) := by
  obtain ⟨wA, hwA⟩ : ∃ wA, (wr.alloc (.cells #[.int .i64 t, .int .i64 0, .string e0] 52)).alloc (.cells #[.slice (some ⟨wr.heap.size, 0, none⟩) 1 1] 64) = wA := ⟨_, rfl⟩
  have nb : Below wr.heap.size wr wA := by rw [← hwA]; exact ((Below.refl _ wr).alloc (Nat.le_refl _) _).alloc (by simp) _
  have hz : wA.heap.size = wr.heap.size + 2 := by rw [← hwA]; simp
  have e1 : wA.heap[wr.heap.size + 1]? = some (.cells #[.slice (some ⟨wr.heap.size, 0, none⟩) 1 1] 64) := by
    rw [← hwA]
    have := World.alloc_heap_new (wr.alloc (.cells #[.int .i64 t, .int .i64 0, .string e0] 52)) (.cells #[.slice (some ⟨wr.heap.size, 0, none⟩) 1 1] 64)
    rw [World.size_alloc] at this
    exact this
  have e0' : wA.heap[wr.heap.size]? = some (.cells #[.int .i64 t, .int .i64 0, .string e0] 52) := by
    rw [← hwA, Below.heap_alloc _ _ _ (by simp)]
    exact World.alloc_heap_new wr _
  have hnew : wA.ownsRow b0 52 3 (.slice (some ⟨wr.heap.size, 0, none⟩) 1 1) 1 [.int .i64 t, .int .i64 0, .string e0] := ⟨rfl, .inr ⟨wr.heap.size, 1, _, rfl, hb0, e0', Nat.le_refl _, by decide, rfl, rfl⟩⟩
  have hr : wA.rangeAt (wr.heap.size + 1) 0 [.slice (some ⟨wr.heap.size, 0, none⟩) 1 1] := fun j u hj => by
    rw [Nat.zero_add]
    simp only [World.cell?, e1]
    simpa using hj
  rw [hwA]
  have hbA : b0 ≤ wA.heap.size := by omega
  rcases h with ⟨rfl, rfl⟩ | ⟨h0, us, h1, h2, h3⟩
  · obtain ⟨v', w', a1, a2, a3⟩ := app_new (P := Tryz.prog) (w := wA) 44 44 (.slice none 0 0) 24 Tryz.underlying44 info59 rfl (by decide) (by decide) q N vs0 (own_next hv0 nb) (wr.heap.size + 1) [.slice (some ⟨wr.heap.size, 0, none⟩) 1 1] rfl (one_slice _ _ _) hr (by omega) (by omega)
    refine ⟨v', w', a1, .inr ⟨by omega, [.slice (some ⟨wr.heap.size, 0, none⟩) 1 1], rfl, own_down a2 hbA, fun k x hx => ?_⟩, (nb.mono hb0).trans (a3.mono hbA), fun g hg _ => (a3.block g (by omega)).trans (nb.block g hg), .inr ?_⟩
    · rcases k with _ | k
      · cases hx
        exact ⟨wr.heap.size, rfl, own_next hnew a3⟩
      · simp at hx
    · obtain ⟨p, c, e, _, hp⟩ := own_slice a2
      obtain ⟨g, rfl, _⟩ := hp (by omega)
      subst e
      exact ⟨g, rfl, by have := (a2.lt g rfl).1; omega⟩
  · obtain ⟨ii, hi', hz0, hz1, hz2⟩ := info_parts info59
    have h2A := own_next h2 nb
    obtain ⟨v', w', a1, a2, a3, _, a4⟩ := run_append_own_at (P := Tryz.prog) wA b0 44 44 64 ii _ 1 24 Tryz.underlying44 hi' hz0 hz1 hz2 rfl (by decide) v (N + i) (vs0 ++ us) h2A ⟨wr.heap.size + 1, 0, none⟩ 1 1 [.slice (some ⟨wr.heap.size, 0, none⟩) 1 1] rfl
      (fun j u hu => by rw [Addr.add_mid]; exact hr j u hu) (one_slice _ _ _) (by unfold maxLen; omega) (by omega) hbA
    have hkeep : ∀ {x : Value} {n : Nat} {xs : List Value}, wA.ownsRow b0 52 3 x n xs → w'.ownsRow b0 52 3 x n xs := fun {x n xs} hx => own_same hx fun g hg' => a3.block g (hx.lt g hg').2 (fun e => own_ne h2A (own_blk hx g hg') (by decide) e.symm)
    refine ⟨v', w', a1, .inr ⟨by omega, us ++ [.slice (some ⟨wr.heap.size, 0, none⟩) 1 1], by simp [h1], by rw [← List.append_assoc]; exact a2, fun k x hx => ?_⟩, (nb.mono hb0).grown a3 hbA (fun k hk => (h2A.lt k hk).1), fun g hg hne => (a3.block g (by omega) (fun e => hne h0 e.symm)).trans (nb.block g hg), ?_⟩
    · by_cases hk : k < us.length
      · rw [List.getElem?_append_left hk] at hx
        obtain ⟨g, r1, r2⟩ := h3 k x hx
        exact ⟨g, r1, hkeep (own_next r2 nb)⟩
      · rw [List.getElem?_append_right (by omega)] at hx
        have hk2 : k - us.length = 0 := by
          have := (List.getElem?_eq_some_iff.1 hx).1
          simp at this
          omega
        rw [hk2] at hx
        cases hx
        exact ⟨wr.heap.size, rfl, hkeep hnew⟩
    · rcases a4 with a4 | a4
      · exact .inl ⟨h0, a4⟩
      · exact .inr ⟨_, a4, by omega⟩
theorem Cd.blk59 {b0 : Nat} {wr : World} {N : Nat} {v0 : Value} {vs0 : List Value} {t : Int} {i : Nat} {v : Value} (h : Cd b0 wr N v0 vs0 t i v) (hi : 0 < i) {g : Nat} (hg : v.ownBlock = some g) : (b0 ≤ g ∧ g < wr.heap.size) ∧ ∃ n, Blk wr g 64 n := by
  rcases h with ⟨h0, _⟩ | ⟨_, us, _, h2, _⟩
  · omega
  · exact ⟨h2.lt g hg, _, own_blk h2 g hg⟩
/-- A round: both rows get a list more. -/
theorem cd_round {b0 N ga gb i : Nat} {wr : World} {qa qb : Option Addr} {vsa vsb : List Value} {t u : Int} {vc vd : Value} (hc : Cd b0 wr N (.slice qa N N) vsa t i vc) (hd : Cd b0 wr N (.slice qb N N) vsb u i vd) (hs : 0 < i → ∀ g, vc.ownBlock = some g → vd.ownBlock ≠ some g)
    (ha : ∀ W, Below b0 wr W → W.ownsRow ga 64 1 (.slice qa N N) N vsa) (hb : ∀ W, Below b0 wr W → W.ownsRow gb 64 1 (.slice qb N N) N vsb) (hga : ga ≤ b0) (hgb : gb ≤ b0) (hb0 : b0 ≤ wr.heap.size) (hN : N ≤ 200000) (hi : i ≤ 70) :
    ∃ vc' wC, (Builtin.append_ #[44, 44] 44 #[vc, .slice (some ⟨wr.heap.size + 1, 0, none⟩) 1 1]).run Tryz.prog ((wr.alloc (.cells #[.int .i64 t, .int .i64 0, .string e0] 52)).alloc (.cells #[.slice (some ⟨wr.heap.size, 0, none⟩) 1 1] 64)) = .ok vc' wC ∧
      ∃ vd' wD, (Builtin.append_ #[44, 44] 44 #[vd, .slice (some ⟨wC.heap.size + 1, 0, none⟩) 1 1]).run Tryz.prog ((wC.alloc (.cells #[.int .i64 u, .int .i64 0, .string e0] 52)).alloc (.cells #[.slice (some ⟨wC.heap.size, 0, none⟩) 1 1] 64)) = .ok vd' wD ∧
      (Cd b0 wD N (.slice qa N N) vsa t (i + 1) vc' ∧ Cd b0 wD N (.slice qb N N) vsb u (i + 1) vd' ∧ (0 < i + 1 → ∀ g, vc'.ownBlock = some g → vd'.ownBlock ≠ some g)) ∧ Below b0 wr wD := by
  obtain ⟨vc', wC, r1, c1, b1, k1, e1⟩ := hc.step ga (ha wr (Below.refl _ _)) (by omega) hb0 hN hi
  have hd1 : Cd b0 wC N (.slice qb N N) vsb u i vd := hd.keep fun g hg hh => k1 g hg fun h0 e => by
    rcases hh with ⟨_, q⟩ | ⟨n, q⟩
    · exact hs h0 g e q
    · obtain ⟨_, m, q2⟩ := hc.blk59 h0 e
      exact q.ne q2 (by decide) rfl
  obtain ⟨vd', wD, r2, d2, b2, k2, e2⟩ := hd1.step gb (hb wC b1) (by have := b1.size; omega) (by have := b1.size; omega) hN hi
  have hlt : ∀ g, 0 < i → vd.ownBlock = some g → g < wr.heap.size := fun g h0 e => (hd.blk59 h0 e).1.2
  refine ⟨vc', wC, r1, vd', wD, r2, ⟨c1.keep fun g hg hh => k2 g hg fun h0 e => ?_, d2, fun _ g hg e => ?_⟩, b1.trans b2⟩
  · rcases hh with ⟨_, q⟩ | ⟨n, q⟩
    · rcases e1 with ⟨_, e1⟩ | ⟨g', e1, e3⟩
      · rw [e1] at q
        exact hs h0 g q e
      · rw [e1] at q
        cases q
        have := hlt g h0 e
        omega
    · obtain ⟨_, m, q2⟩ := hd1.blk59 h0 e
      exact q.ne q2 (by decide) rfl
  · have hgC := (c1.blk59 (by omega) hg).1.2
    rcases e2 with ⟨h0, e2⟩ | ⟨g', e2, e3⟩
    · rw [e2] at e
      rcases e1 with ⟨_, e1⟩ | ⟨g'', e1, e4⟩
      · rw [e1] at hg
        exact hs h0 g hg e
      · rw [e1] at hg
        cases hg
        have := hlt g h0 e
        omega
    · rw [e2] at e
      cases e
      omega
/-- The element of a list behind the row. -/
theorem Cd.get {b0 : Nat} {wr : World} {N : Nat} {v0 : Value} {vs0 : List Value} {t : Int} {v : Value} (h : Cd b0 wr N v0 vs0 t 70 v) (hl : vs0.length = N) (k : Nat) (hk : k < 70) : ∃ g c gx, v = .slice (some ⟨g, 0, none⟩) (N + 70) c ∧ wr.cell? ⟨g, N + k, none⟩ = some (.slice (some ⟨gx, 0, none⟩) 1 1) ∧ wr.cell? ⟨gx, 0, none⟩ = some (.int .i64 t) := by
  rcases h with ⟨h0, _⟩ | ⟨_, us, h1, h2, h3⟩
  · omega
  · have hx := List.getElem?_eq_getElem (show k < us.length by omega)
    obtain ⟨gx, e1, e2⟩ := h3 k _ hx
    obtain ⟨q, c, e, _, hp⟩ := own_slice h2
    obtain ⟨g, rfl, hr⟩ := hp (by omega)
    subst e
    refine ⟨g, c, gx, rfl, ?_, ?_⟩
    · have := hr (N + k) us[k] (by rw [List.getElem?_append_right (by omega), hl, Nat.add_sub_cancel_left]; exact hx)
      rw [Nat.zero_add, e1] at this
      exact this
    · rw [e1] at e2
      obtain ⟨q, c, e, _, hp⟩ := own_slice e2
      cases e
      obtain ⟨g', e', hr⟩ := hp (by omega)
      cases e'
      have := hr 0 (.int .i64 t) rfl
      rw [Nat.zero_add] at this
      exact this
end Go.Proofs.YtahdkffijlfmnaaGreatDoor.Hp
