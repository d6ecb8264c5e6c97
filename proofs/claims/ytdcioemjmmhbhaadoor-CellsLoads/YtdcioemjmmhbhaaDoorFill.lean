import Derived.Test.YtdcioemjmmhbhaaDoorMake
import Derived.WalkMore
namespace Go.Proofs.YtdcioemjmmhbhaaDoor
open Go.RowKit

/-- A piece of a block was written full; nothing else has turned. -/
structure Filled (w w' : World) (g o n : Nat) (l : List V) : Prop where
  kp : Kp (fun b => b = g) w w'
  blk : ∀ m, Blk w g 37 m → Blk w' g 37 m
  out : ∀ i, i < o ∨ o + n * 3 ≤ i → w'.cell? ⟨g, i, none⟩ = w.cell? ⟨g, i, none⟩
  inn : w'.rangeAt g o (vcs l)
theorem HeapG.filled {w w' : World} {p lim : Nat} {As : List Ar} {rq : Option Addr} {rn rg ro : Nat} {av : Value} {F : Nat → Prop} {u : Nat × Nat} (h : HeapG w p lim As rq rn rg ro av F u) (g o n : Nat) (l : List V) (hn : 0 < n) (f : Filled w w' g o n l) (hb : Blk w g 37 (o + n * 3)) (hs : ∀ a ∈ As, a.els ≠ [] → 0 < n → a.g ≠ g ∨ a.o + a.els.length * 3 ≤ o) : HeapG w' p lim As rq rn rg ro av F u := by
  have hk : ∀ k, k < w.heap.size → k ≠ g → w'.heap[k]? = w.heap[k]? := fun k hk hne => f.kp.block k hk hne
  have hp : p ≠ g := h.blk.ne hb (by decide)
  have hc := fun o' => World.cell?_of_block (w := w) (w' := w') (a := ⟨p, o', none⟩) (hk p h.blk.lt hp)
  have hbl : ∀ {b m}, Blk w b 37 m → Blk w' b 37 m := fun {b m} q => by
    by_cases e : b = g
    · subst e
      exact f.blk m q
    · exact q.same (hk b q.lt e)
  exact {
    blk := h.blk.same (hk p h.blk.lt hp)
    c0 := (hc 0).trans h.c0
    c1 := (hc 1).trans h.c1
    c2 := (hc 2).trans h.c2
    c3 := (hc 3).trans h.c3
    arrs := own_same h.arrs fun g' hg => hk g' (own_blk h.arrs g' hg).lt (fun e => own_ne h.arrs hb (by decide) (e ▸ hg))
    els := fun a ha hne => by
      obtain ⟨h1, h2, h3, h4⟩ := h.els a ha hne
      refine ⟨h1, hbl h2, ?_, h4⟩
      rcases hs a ha hne hn with q | q
      · exact range_same h3 (hk _ h2.lt q)
      · by_cases e : a.g = g
        · intro j v hv
          have hj : j < a.els.length * 3 := by rw [← vcs_len]; exact (List.getElem?_eq_some_iff.1 hv).1
          have h3' := h3 j v hv
          rw [e] at h3' ⊢
          rw [f.out _ (.inl (by omega))]
          exact h3'
        · exact range_same h3 (hk _ h2.lt e)
    room := fun hn => by obtain ⟨h1, h2, h3⟩ := h.room hn; exact ⟨h1, hbl h2, h3⟩
    sep := h.sep
    sepr := h.sepr
    fp := h.fp
    fa := h.fa
    flt := fun b hb => Nat.lt_of_lt_of_le (h.flt b hb) f.kp.size
    le := h.le
    top := h.top
    small := h.small
    ok := h.ok }

set_option maxRecDepth 100000 in
set_option maxHeartbeats 2000000 in
theorem fill_any (w : World) (tq fq : Option Addr) (tc fc tg tO fg fo : Nat) (l : List V) (hl : l.length ≤ 100000) (hx : ∀ v ∈ l, v.2.2.size ≤ 256) (ht : 0 < l.length → tq = some ⟨tg, tO, none⟩ ∧ Blk w tg 37 (tO + l.length * 3)) (hf : 0 < l.length → fq = some ⟨fg, fo, none⟩ ∧ w.rangeAt fg fo (vcs l) ∧ fg ≠ tg) :
    Calls Tryd.prog 39 #[.slice tq l.length tc, .slice fq l.length fc] w fun e w' => e = .returned (.tuple #[]) ∧ Hid ((0 < l.length → Filled w w' tg tO l.length l) ∧ (l.length = 0 → w' = w)) := by
  rcases Nat.eq_zero_or_pos l.length with h0 | h0
  · rw [h0]
    clear ht hf
    go_enter Tryd.func39, Tryd.ntmps39
    go_wp2_with fail
    go_loopw [8] (fun v wr => v = .int .i64 0 ∧ wr = w) (fun _ _ => 0)
    case atStart => exact ⟨rfl, rfl⟩
    case round =>
      obtain ⟨rfl, rfl⟩ := hrel
      go_wp2
      go_end0
      exact ⟨rfl, fun q => by omega, fun _ => rfl⟩
  · obtain ⟨rfl, hb⟩ := ht h0
    obtain ⟨rfl, hr, hne⟩ := hf h0
    have HBLK : Hid (Blk w tg 37 (tO + l.length * 3)) := hb
    have HRNG : Hid (w.rangeAt fg fo (vcs l)) := hr
    have hfl : fg < w.heap.size := block_lt_of_cell (hr 0 (.int .i64 l[0].1) ((flat_at vc 3 (fun _ => rfl) l 0 0 h0 (by decide)).trans rfl))
    have htl : tg < w.heap.size := hb.lt
    clear hb hr ht hf
    go_enter Tryd.func39, Tryd.ntmps39
    go_wp2_with fail
    go_loopw [8] (fun v wr => ∃ j : Nat, j ≤ l.length ∧ v = .int .i64 (j : Int) ∧ Hid (Filled w wr tg tO j (l.take j))) (fun v _ => l.length - (intOf v).toNat)
    case atStart => exact ⟨0, Nat.zero_le _, rfl, ⟨Kp.refl _ _, fun _ q => q, fun _ _ => rfl, fun j v hv => by simp [vcs] at hv⟩⟩
    case round =>
      obtain ⟨j, hj, rfl, hF⟩ := hrel
      by_cases hlt : j < l.length
      case neg =>
        obtain rfl : j = l.length := by omega
        rw [List.take_length] at hF
        go_wp2
        go_end0
        exact ⟨rfl, fun _ => hF, fun q => by omega⟩
      have hv := hx l[j] (List.getElem_mem hlt)
      have er := vcs_get (range_same HRNG.out (hF.out.kp.block fg hfl hne)) j hlt
      have htk : l.take (j + 1) = l.take j ++ [l[j]] := List.take_succ_eq_append_getElem hlt
      generalize l[j] = y at hv er htk
      obtain ⟨vk, vn, vs⟩ := y
      simp only at hv
      have a0 : wr.cell? ⟨fg, fo + j * 3, none⟩ = some (.int .i64 vk) := er 0 _ rfl
      have a1 : wr.cell? ⟨fg, fo + j * 3 + 1, none⟩ = some (.int .i64 vn) := er 1 _ rfl
      have a2 : wr.cell? ⟨fg, fo + j * 3 + 2, none⟩ = some (.string vs) := er 2 _ rfl
      have j0 : (0 : Int) ≤ (j : Int) := by omega
      have j1 : (j : Int) < (l.length : Int) := by omega
      obtain ⟨⟨⟨p0, -⟩, ⟨p1, -⟩⟩, p2, -⟩ := Box3.new wr vk vn vs 37
      have nb : Below wr.heap.size wr (wr.alloc (.cells #[.int .i64 vk, .int .i64 vn, .string vs] 37)) := (Below.refl _ wr).alloc (Nat.le_refl _) _
      have hcp := copied_any vk vn vs (wr.alloc (.cells #[.int .i64 vk, .int .i64 vn, .string vs] 37)) (by omega)
      have HBW : Hid (Blk wr tg 37 (tO + l.length * 3)) := hF.out.blk _ HBLK.out
      have HST : Hid (∀ W, Below wr.heap.size wr W → W.there tg (tO + j * 3) 3 ∧ Filled w (W.setCells tg (tO + j * 3) (vc (vk, vn, vs))) tg tO (j + 1) (l.take (j + 1))) := fun W hW => by
        have hbW := HBW.out.next hW
        have hth := hbW.there (tO + j * 3) 3 (by omega)
        refine ⟨hth, Kp.setCells (F := fun b => b = tg) (.inl rfl) _ _ (hF.out.kp.next hW), fun m hm => ((hF.out.blk m hm).next hW).setCells _ _ _, fun i hi => ?_, ?_⟩
        · rw [World.cell?_setCells_out _ _ _ _ _ (fun _ _ => by show i < tO + j * 3 ∨ tO + j * 3 + 3 ≤ i; omega)]
          rw [hW.cell (p := ⟨tg, i, none⟩) (HBW.out.lt)]
          exact hF.out.out i (by omega)
        · rw [htk, vcs_app]
          have r1 : (W.setCells tg (tO + j * 3) (vc (vk, vn, vs))).rangeAt tg tO (vcs (l.take j)) := World.rangeAt_setCells_apart (range_same hF.out.inn (hW.block tg HBW.out.lt)) _ _ _ (.inr (.inl (by rw [vcs_len, List.length_take]; omega)))
          have r2 := World.rangeAt_setCells_same W tg (tO + j * 3) (vc (vk, vn, vs)) hth
          intro i v hv'
          have hlj : (vcs (l.take j)).length = j * 3 := by rw [vcs_len, List.length_take]; omega
          by_cases hi : i < j * 3
          · rw [List.getElem?_append_left (by omega)] at hv'
            exact r1 i v hv'
          · rw [List.getElem?_append_right (by omega), hlj] at hv'
            have e : (vcs [(vk, vn, vs)])[i - j * 3]? = (vc (vk, vn, vs))[i - j * 3]? := by simp [vcs]
            rw [e] at hv'
            have := r2 (i - j * 3) v hv'
            rwa [show tO + j * 3 + (i - j * 3) = tO + i by omega] at this
      clear er htk hF HBW
      have H1 : Hid ((#[.int .i64 vk, .int .i64 vn, .string vs] : Array Value).all (·.oneCell') = true) := one3 _ _ _
      go_wp2_with (first
        | (go_at_call 33; refine hcp.mono ?_; rintro e w3 ⟨rfl, hb3⟩; obtain ⟨hth3, hF3⟩ := HST.out w3 (below2 nb hb3); have HTH3 : Hid (w3.there tg (tO + j * 3) (#[.int .i64 vk, .int .i64 vn, .string vs] : Array Value).size) := hth3; clear hth3)
        | (refine wpList_store_mid (by rfl) 37 (.tmp 17) (.tmp 16) (by rfl) tg (tO + j * 3) #[.int .i64 vk, .int .i64 vn, .string vs] (by rfl) (by rfl) HTH3.out size37 H1.out ?_)
        | go_in)
      exact ⟨⟨j + 1, by omega, by go_num, hF3⟩, by simp [intOf]; omega⟩
end Go.Proofs.YtdcioemjmmhbhaaDoor
