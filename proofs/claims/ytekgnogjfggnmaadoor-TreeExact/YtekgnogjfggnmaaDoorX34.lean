import Derived.Deep.RegionWith
import Derived.Lib.QuietBelow
import Derived.BigQuiet
import Derived.Test.YtekgnogjfggnmaaDoorX33
import Derived.Test.YtekgnogjfggnmaaDoorX32
import Derived.Test.YtekgnogjfggnmaaDoorX17
namespace Go.Proofs.YtekgnogjfggnmaaDoor.ApN
open Go.RowKit

/-- The node that the list i is marked with. -/
def mkN (i : Nat) : Nd := ⟨0, 0, ⟨#[]⟩, ⟨#[]⟩, ⟨#[]⟩, 0, -10 - (i : Int), ⟨#[]⟩, 0⟩
def one9 (i : Nat) : List Value := (ndV (mkN i)).toList
theorem one9_len (i : Nat) : (one9 i).length = 9 := rfl
theorem one9_one (i : Nat) : ∀ u ∈ one9 i, u.oneCell' = true := by
  intro u hu
  have := flat_one [mkN i] u (by unfold flat; simpa [one9] using hu)
  exact this
theorem flat_app (A B : List Nd) : flat (A ++ B) = flat A ++ flat B := List.flatMap_append
/-- The marks of the first q places of the list i. -/
def sgs (i q : Nat) : List Value := flat (List.replicate q (mkN i))
theorem sgs_len (i q : Nat) : (sgs i q).length = q * 9 := by unfold sgs; rw [flat_len, List.length_replicate]
theorem sgs_at (i q j r : Nat) (h : j < q) (hr : r < 9) : (sgs i q)[j * 9 + r]? = (one9 i)[r]? := by
  unfold sgs
  rw [flat_at _ j r (by rw [List.length_replicate]; exact h) hr]
  have : nd (List.replicate q (mkN i)) j = mkN i := by simp [nd, h]
  rw [this]
  simp [one9]
theorem sgs_succ (i q : Nat) : sgs i (q + 1) = sgs i q ++ one9 i := by
  unfold sgs
  rw [List.replicate_succ', flat_app]
  congr 1
theorem sgs_take (i q p : Nat) (h : p ≤ q) : sgs i p = (sgs i q).take (p * 9) := by
  have e : List.replicate q (mkN i) = List.replicate p (mkN i) ++ List.replicate (q - p) (mkN i) := by rw [List.replicate_append_replicate]; congr 1; omega
  unfold sgs
  rw [e, flat_app, List.take_left' (by rw [flat_len, List.length_replicate])]

/-- The block of the lists themselves. -/
def OutB (W : World) (O m : Nat) (v : Nat → Value) : Prop := ∃ cur, W.heap[O]? = some (.cells cur 22 (0, 0)) ∧ ∀ k, k < m → cur[k]? = some (v k)
theorem OutB.cell {W : World} {O m : Nat} {v : Nat → Value} (h : OutB W O m v) (k : Nat) (hk : k < m) : W.cell? ⟨O, k, none⟩ = some (v k) := by
  obtain ⟨cur, hh, hc⟩ := h
  simp [World.cell?, hh, hc k hk]
theorem OutB.lt {W : World} {O m : Nat} {v : Nat → Value} (h : OutB W O m v) : O < W.heap.size := by
  obtain ⟨cur, hh, _⟩ := h
  exact (Array.getElem?_eq_some_iff.1 hh).1
theorem OutB.ne {W : World} {O m base n : Nat} {v : Nat → Value} {u : Value} {xs : List Value} (h : OutB W O m v) (k : W.ownsRow base 36 9 u n xs) : u.ownBlock ≠ some O := by
  obtain ⟨cur, hh, _⟩ := h
  rcases k.2 with ⟨rfl, _⟩ | ⟨g, cap, cur', rfl, _, hg, _⟩
  · simp [Value.ownBlock]
  · intro e
    have : g = O := by simpa [Value.ownBlock] using e
    subst this
    rw [hg] at hh
    simp at hh
theorem OutB.kept {W W' : World} {O m : Nat} {v : Nat → Value} {row : Option Nat} (h : OutB W O m v) (hg : W.grownBy W' row) (hne : row ≠ some O) : OutB W' O m v := by
  have hlt := h.lt
  obtain ⟨cur, hh, hc⟩ := h
  exact ⟨cur, (hg.block O hlt (fun e => hne e.symm)).trans hh, hc⟩
theorem OutB.stays {W W' : World} {O m : Nat} {v : Nat → Value} (h : OutB W O m v) (hb : Below W.heap.size W W') : OutB W' O m v :=
  h.kept (row := none) ⟨hb.os, hb.tape, hb.output, hb.size, fun k hk _ => hb.block k hk⟩ (by simp)

/-- The lists: each its own row; what each holds. -/
def Lists (W : World) (base O m : Nat) (v : Nat → Value) (n : Nat → Nat) (f : Nat → List Value) : Prop :=
  OutB W O m v ∧ ∀ k, k < m → W.ownsRow base 36 9 (v k) (n k) (f k)
theorem Lists.stays {W W' : World} {base O m : Nat} {v : Nat → Value} {n : Nat → Nat} {f : Nat → List Value} (h : Lists W base O m v n f) (hb : Below W.heap.size W W') : Lists W' base O m v n f :=
  ⟨h.1.stays hb, fun k hk => own_stays (h.2 k hk) hb⟩

/-- What the lists hold when the first i are marked, and j places of the next. -/
def Fm (n : Nat → Nat) (f0 : Nat → List Value) (i j k : Nat) : List Value := if k < i then sgs k (n k) else if k = i then sgs i j ++ (f0 i).drop (j * 9) else f0 k

theorem Lists.store {W : World} {base O m : Nat} {v : Nat → Value} {n : Nat → Nat} {f0 : Nat → List Value} {i j g cap : Nat} (h : Lists W base O m v n (Fm n f0 i j)) (hi : i < m) (hj : j < n i) (hlen : (f0 i).length = n i * 9)
    (hv : v i = .slice (some ⟨g, 0, none⟩) (n i) cap) (hd : ∀ a b, a < m → b < m → a ≠ b → (v a).ownBlock = none ∨ (v a).ownBlock ≠ (v b).ownBlock) :
    Lists (W.setCells g (j * 9) (one9 i)) base O m v n (Fm n f0 i (j + 1)) := by
  have hoi := h.2 i hi
  have hbi : (v i).ownBlock = some g := by rw [hv]; rfl
  have hoi' := hoi
  rw [hv] at hoi'
  obtain ⟨hst, hg⟩ := storedL (one9 i) _ (j * 9) hoi'
  refine ⟨h.1.kept hg (by have := h.1.ne hoi; rw [hbi] at this; exact this), fun k hk => ?_⟩
  by_cases hki : k = i
  · subst hki
    have e : putL (Fm n f0 k j k) (j * 9) (one9 k) = Fm n f0 k (j + 1) k := by
      unfold Fm
      simp only [Nat.lt_irrefl, if_false, if_true]
      have := putL_at (sgs k j) (one9 k) ((f0 k).drop (j * 9)) (by rw [one9_len, List.length_drop, hlen]; omega)
      rw [sgs_len] at this
      rw [this, sgs_succ, one9_len, List.drop_drop]
      congr 2
      omega
    rw [e] at hst
    rw [hv]
    exact hst
  · have e : Fm n f0 i (j + 1) k = Fm n f0 i j k := by
      unfold Fm
      by_cases h1 : k < i
      · rw [if_pos h1, if_pos h1]
      · rw [if_neg h1, if_neg h1, if_neg hki, if_neg hki]
    rw [e]
    refine own_kept (h.2 k hk) hg ?_
    rcases hd k i hk hi hki with h0 | h0
    · exact Or.inr h0
    · rw [hbi] at h0; exact Or.inl h0

theorem Fm_next {n : Nat → Nat} {f0 : Nat → List Value} {i : Nat} (hlen : (f0 i).length = n i * 9) (k : Nat) : Fm n f0 i (n i) k = Fm n f0 (i + 1) 0 k := by
  unfold Fm
  by_cases h1 : k < i
  · rw [if_pos h1, if_pos (by omega)]
  · rw [if_neg h1]
    by_cases h2 : k = i
    · subst h2
      rw [if_pos rfl, if_pos (by omega), List.drop_of_length_le (by omega), List.append_nil]
    · rw [if_neg h2, if_neg (by omega)]
      by_cases h3 : k = i + 1
      · subst h3
        rw [if_pos rfl]
        simp [sgs, flat]
      · rw [if_neg h3]

theorem own_form {W : World} {base n : Nat} {u : Value} {xs : List Value} (h : W.ownsRow base 36 9 u n xs) : ∃ ov cap, u = .slice ov n cap ∧ (0 < n → ∃ g, ov = some ⟨g, 0, none⟩) := by
  rcases h.2 with ⟨rfl, rfl⟩ | ⟨g, cap, _, rfl, _⟩
  · exact ⟨none, 0, rfl, fun h => absurd h (Nat.lt_irrefl _)⟩
  · exact ⟨_, cap, rfl, fun _ => ⟨g, rfl⟩⟩

theorem own_there {W : World} {base n g cap : Nat} {xs : List Value} (h : W.ownsRow base 36 9 (.slice (some ⟨g, 0, none⟩) n cap) n xs) (j : Nat) (hj : j < n) : W.there g (j * 9) 9 := fun r hr => by
  refine ⟨?_, h.frozenAt _⟩
  have hc := h.cellAt (j * 9 + r) (by omega)
  have hl : j * 9 + r < xs.length := by rw [h.1]; omega
  rw [List.getElem?_eq_getElem hl] at hc
  rw [hc]
  rfl

/-- The lengthened lists, as far as they are made. -/
def Longs (W : World) (base : Nat) (n : Nat → Nat) (us : List Value) : Prop := ∀ k u, us[k]? = some u → W.ownsRow base 36 9 u (n k + 70) (sgs k (n k + 70))
theorem Longs.stays {W W' : World} {base : Nat} {n : Nat → Nat} {us : List Value} (h : Longs W base n us) (hb : Below W.heap.size W W') : Longs W' base n us := fun k u hk => own_stays (h k u hk) hb

theorem own_types {W : World} {base b26 n m : Nat} {a u : Value} {xs ys : List Value} (h : W.ownsRow b26 22 1 a n xs) (k : W.ownsRow base 36 9 u m ys) : a.ownBlock ≠ u.ownBlock ∨ a.ownBlock = none := by
  rcases h.2 with ⟨rfl, _⟩ | ⟨g, cap, cur, rfl, _, hg, _⟩
  · exact Or.inr rfl
  · rcases k.2 with ⟨rfl, _⟩ | ⟨g', cap', cur', rfl, _, hg', _⟩
    · exact Or.inl (by simp [Value.ownBlock])
    · refine Or.inl (fun e => ?_)
      have : g = g' := by simpa [Value.ownBlock] using e
      subst this
      rw [hg] at hg'
      simp at hg'

theorem sg_head {i k p q : Nat} (_hi : i < 256) (_hk : k < 256) (hne : i ≠ k) (hp : 0 < p) (hq : 0 < q) : (sgs i p)[6]? ≠ (sgs k q)[6]? := by
  have h1 := sgs_at i p 0 6 hp (by omega)
  have h2 := sgs_at k q 0 6 hq (by omega)
  rw [Nat.zero_mul, Nat.zero_add] at h1 h2
  rw [h1, h2]
  intro e
  have e' : some (Value.int .i64 (-10 - (i : Int))) = some (Value.int .i64 (-10 - (k : Int))) := e
  simp only [Option.some.injEq, Value.int.injEq, true_and] at e'
  omega

/-- One element more on the list that is being lengthened: all others are as they were, and so is its own head. -/
theorem more_step {W W' : World} {base b26 O m i q : Nat} {v : Nat → Value} {n : Nat → Nat} {us : List Value} {s5 u u' : Value} (hm : m ≤ 200) (hi : i < m)
    (hL : Lists W base O m v n (fun k => sgs k (n k))) (hz : ∀ k, k < m → n k = 0 → v k = .slice none 0 0) (hG : Longs W base n us) (hus : us.length = i) (h26 : W.ownsRow b26 22 1 s5 i us)
    (hu : W.ownsRow base 36 9 u q (sgs i q)) (hq : n i ≤ q) (hq0 : q = 0 → u = .slice none 0 0)
    (hu' : W'.ownsRow base 36 9 u' (q + 1) (sgs i (q + 1))) (hg : W.grownBy W' u.ownBlock)
    (hcase : (∃ g cap, u = .slice (some ⟨g, 0, none⟩) q cap ∧ u' = .slice (some ⟨g, 0, none⟩) (q + 1) cap) ∨ (u'.ownBlock = some W.heap.size ∧ Below W.heap.size W W')) :
    Lists W' base O m v n (fun k => sgs k (n k)) ∧ Longs W' base n us ∧ W'.ownsRow b26 22 1 s5 i us := by
  rcases hcase with ⟨g, cap, rfl, rfl⟩ | ⟨_, hb⟩
  · have hq1 : 0 < q := by
      rcases Nat.eq_zero_or_pos q with h | h
      · have := hq0 h; simp at this
      · exact h
    refine ⟨⟨hL.1.kept hg (hL.1.ne hu), fun k hk => ?_⟩, fun k x hx => ?_, h26.kept hg ?_⟩
    · by_cases hki : k = i
      · subst hki
        rcases Nat.eq_zero_or_pos (n k) with h0 | h0
        · show W'.ownsRow base 36 9 (v k) (n k) (sgs k (n k))
          rw [hz k hk h0, h0]
          exact World.ownsRow_nil _ _ _ _
        · by_cases hbk : (v k).ownBlock = some g
          · have hv := hL.2 k hk
            obtain ⟨ov, cp, hvk, hgx⟩ := own_form hv
            obtain ⟨g', rfl⟩ := hgx h0
            rw [hvk] at hv hbk ⊢
            have : g' = g := by simpa [Value.ownBlock] using hbk
            subst this
            have hc := own_cap (by omega) hv hu
            subst hc
            exact own_head hu' (by omega) (sgs_take k (q + 1) (n k) (by omega)) (sgs_len _ _)
          · exact own_kept (hL.2 k hk) hg (Or.inl hbk)
      · rcases Nat.eq_zero_or_pos (n k) with h0 | h0
        · show W'.ownsRow base 36 9 (v k) (n k) (sgs k (n k))
          rw [hz k hk h0, h0]
          exact World.ownsRow_nil _ _ _ _
        · exact own_kept (hL.2 k hk) hg (Or.inl (own_ne (r := 6) (hL.2 k hk) hu (by omega) (by omega) (sg_head (by omega) (by omega) hki h0 hq1)))
    · have hkl : k < us.length := (List.getElem?_eq_some_iff.1 hx).1
      exact own_kept (hG k x hx) hg (Or.inl (own_ne (r := 6) (hG k x hx) hu (by omega) (by omega) (sg_head (by omega) (by omega) (by omega) (by omega) hq1)))
    · rcases own_types h26 hu with h | h
      · exact Or.inr h
      · exact Or.inl h
  · exact ⟨hL.stays hb, hG.stays hb, own_stays h26 hb⟩

/-- The list of the lengthened lists is lengthened itself: they all are as they were. -/
theorem long_step {W W' : World} {base b26 O m c : Nat} {v : Nat → Value} {n : Nat → Nat} {us : List Value} {s5 u : Value} {q : Nat} {xs : List Value} (hL : Lists W base O m v n (fun k => sgs k (n k))) (hG : Longs W base n us) (h26 : W.ownsRow b26 22 1 s5 c us) (hO : O < b26)
    (hu : W.ownsRow base 36 9 u q xs) (hg : W.grownBy W' s5.ownBlock) : Lists W' base O m v n (fun k => sgs k (n k)) ∧ Longs W' base n us ∧ W'.ownsRow base 36 9 u q xs := by
  have hk : ∀ {x : Value} {p : Nat} {ys : List Value}, W.ownsRow base 36 9 x p ys → W'.ownsRow base 36 9 x p ys := by
    intro x p ys h
    refine own_kept h hg ?_
    rcases own_types h26 h with e | e
    · exact Or.inl (Ne.symm e)
    · rw [e]
      cases hx : x.ownBlock with
      | none => exact Or.inr rfl
      | some b => exact Or.inl (by simp)
  refine ⟨⟨hL.1.kept hg (fun e => ?_), fun k h => hk (hL.2 k h)⟩, fun k x hx => hk (hG k x hx), hk hu⟩
  have := (h26.lt O e).1
  omega

theorem Longs.push {W : World} {base : Nat} {n : Nat → Nat} {us : List Value} {u : Value} (h : Longs W base n us) (hu : W.ownsRow base 36 9 u (n us.length + 70) (sgs us.length (n us.length + 70))) : Longs W base n (us ++ [u]) := by
  intro k x hx
  by_cases hk : k < us.length
  · rw [List.getElem?_append_left hk] at hx
    exact h k x hx
  · rw [List.getElem?_append_right (by omega)] at hx
    have hk2 : k - us.length = 0 := by
      have := (List.getElem?_eq_some_iff.1 hx).1
      simp at this
      omega
    rw [hk2] at hx
    simp only [List.getElem?_cons_zero, Option.some.injEq] at hx
    subst hx
    have : k = us.length := by omega
    subst this
    exact hu

end Go.Proofs.YtekgnogjfggnmaaDoor.ApN

namespace Go.Proofs.YtekgnogjfggnmaaDoor.ApN
open Go.RowKit
theorem grown_cell (W : World) (g j : Nat) (u : Value) : W.grownBy (W.setCell ⟨g, j, none⟩ u) (some g) :=
  ⟨rfl, rfl, rfl, by simp, fun k _ hne => Below.heap_setCell W ⟨g, j, none⟩ u k (fun e => hne (by rw [e]))⟩
end Go.Proofs.YtekgnogjfggnmaaDoor.ApN
namespace Go.Proofs.YtekgnogjfggnmaaDoor
open Go.RowKit

theorem own_low {w : World} {b b' size n : Nat} {e : TypeId} {v : Value} {xs : List Value} (h : w.ownsRow b e size v n xs) (hb : b' ≤ b) : w.ownsRow b' e size v n xs := by
  refine ⟨h.1, ?_⟩
  rcases h.2 with h0 | ⟨g, cap, cur, hv, hg, rest⟩
  · exact .inl h0
  · exact .inr ⟨g, cap, cur, hv, by omega, rest⟩

set_option maxRecDepth 100000 in
set_option maxHeartbeats 1000000 in
/-- slices.Clone of nodes that lie there. -/
theorem cloneO_any (w : World) (a : Addr) (cap : Nat) (L : List Nd) (hL : L.length ≤ 1353245080300) (hne : 0 < L.length) (hs : ∀ j v, (flat L)[j]? = some v → w.cell? (a.add j) = some v ∧ (a.add j).block < w.heap.size) :
    Calls Tryd.prog 36 #[.slice (some a) L.length cap] w fun e w' => (∃ B cap', e = .returned (.slice (some ⟨B, 0, none⟩) L.length cap') ∧ Hid (w'.ownsRow w.heap.size 36 9 (.slice (some ⟨B, 0, none⟩) L.length cap') L.length (flat L))) ∧ Below w.heap.size w w' := by
  have he : ∀ w : World, (binOp BinOp.eql 22 (.slice (some a) L.length cap) (.slice none 0 0)).run Tryd.prog w = .ok (.bool false) w := nil_eq (some a) L.length cap
  obtain ⟨i0, hi, hz0, hz1, hz2⟩ := info_parts info36
  obtain ⟨w1, hw1⟩ : ∃ w1, w.alloc (.cells #[] 36) = w1 := ⟨_, rfl⟩
  have B1 : Below w.heap.size w w1 := by rw [← hw1]; exact (Below.refl _ w).alloc (Nat.le_refl _) _
  have hown : w1.ownsRow w.heap.size 36 9 (.slice (some ⟨w.heap.size, 0, none⟩) 0 0) 0 [] := by
    refine ⟨rfl, .inr ⟨w.heap.size, 0, #[], rfl, Nat.le_refl _, ?_, Nat.le_refl _, Nat.zero_le _, rfl, rfl⟩⟩
    rw [← hw1]
    exact heap_alloc_new w _
  obtain ⟨v', w2, hr, h2, h3, _⟩ := run_append_own (P := Tryd.prog) w1 w.heap.size 22 22 36 i0 _ 9 104 Tryd.underlying22 hi hz0 hz1 hz2 rfl (by decide) _ 0 [] hown a L.length cap (flat L) (flat_len L)
    (fun j v hv => by obtain ⟨q1, q2⟩ := hs j v hv; exact (B1.cell q2).trans q1) (flat_one L) (by unfold maxLen; omega) (by omega) B1.size
  rw [Nat.zero_add, List.nil_append] at h2
  have hb2 : Below w.heap.size w w2 := B1.grown h3 B1.size (own_ge hown)
  obtain ⟨g', cap', rfl⟩ : ∃ g cap, v' = .slice (some ⟨g, 0, none⟩) L.length cap := by
    rcases h2.2 with ⟨_, h0⟩ | ⟨g, c, _, rfl, _⟩
    · omega
    · exact ⟨g, c, rfl⟩
  have HR : Hid ((Builtin.append_ #[22, 22] 22 #[.slice (some ⟨w.heap.size, 0, none⟩) 0 0, .slice (some a) L.length cap]).run Tryd.prog w1 = .ok (.slice (some ⟨g', 0, none⟩) L.length cap') w2) := hr
  have HF : Hid (w2.ownsRow w.heap.size 36 9 (.slice (some ⟨g', 0, none⟩) L.length cap') L.length (flat L)) := h2
  clear hs hown hr h2 h3
  go_enter Tryd.func36, Tryd.ntmps36
  go_wp2_with (first
    | (at_builtin; refine wpList_app9 rfl (.tmp 5) (.tmp 6) rfl HR.out ?_)
    | go_in)
  go_ret
  exact ⟨⟨g', cap', rfl, HF⟩, hb2⟩


/-- Nodes of its own, with their room. -/
structure OwnO (w W : World) (B cap : Nat) (S : List Nd) : Prop where
  own : W.ownsRow w.heap.size 36 9 (.slice (some ⟨B, 0, none⟩) S.length cap) S.length (flat S)
  bel : Below w.heap.size w W
theorem OwnO.le {w W : World} {B cap : Nat} {S : List Nd} (h : OwnO w W B cap S) : w.heap.size ≤ B := (lay_of_own h.own).1
theorem OwnO.call {w W W' : World} {B cap : Nat} {S : List Nd} (h : OwnO w W B cap S) (hb : Below W.heap.size W W') : OwnO w W' B cap S :=
  ⟨ApN.own_stays h.own hb, h.bel.trans (hb.mono h.bel.size)⟩
theorem OwnO.put {w W : World} {B cap : Nat} {S : List Nd} (h : OwnO w W B cap S) (i j : Nat) (v : Value) (hi : i < S.length) (hj : j < 9) (hv : (ndV (nd S i))[j]? = some v) : OwnO w (W.setCell ⟨B, i * 9 + j, none⟩ v) B cap S := by
  have h1 := (h.own.stored (i * 9 + j) v).1
  have e : (flat S).set (i * 9 + j) v = flat S := by
    apply List.ext_getElem?
    intro k
    rw [List.getElem?_set]
    split
    · rename_i hk
      subst hk
      split
      · rw [flat_at S i j hi hj, hv]
      · rename_i hn
        rw [flat_len] at hn
        omega
    · rfl
  rw [e] at h1
  exact ⟨h1, h.bel.setCell (p := ⟨B, i * 9 + j, none⟩) h.le _⟩
theorem OwnO.cell {w W : World} {B cap : Nat} {S : List Nd} (h : OwnO w W B cap S) (i j : Nat) (v : Value) (hi : i < S.length) (hj : j < 9) (hv : (ndV (nd S i))[j]? = some v) : W.cell? ⟨B, i * 9 + j, none⟩ = some v ∧ W.frozen? ⟨B, i * 9 + j, none⟩ = false := by
  obtain ⟨_, hl, ht⟩ := lay_of_own h.own
  have h1 := hl.c i hi j v hv
  have h2 := (ht (i * 9 + j) (by omega)).2
  rw [Nat.zero_add] at h1 h2
  exact ⟨h1, h2⟩

set_option maxRecDepth 100000 in
set_option maxHeartbeats 1000000 in
theorem subO_any (w : World) (p : Option Addr) (n cap : Nat) (L : List Nd) (N : Int) (h : Reads w p n L) (hcap : n ≤ cap) (hk : KwAt w) :
    Calls Tryd.prog 16 #[.agg #[.slice p n cap], .int .i64 N] w fun e w' => (∃ u, e = .returned (.agg #[u]) ∧ Hid (w'.ownsRow w.heap.size 36 9 u (subA L N).length (flat (subA L N)) ∧ ((subA L N).length = 0 → u = .slice none 0 0))) ∧ Below w.heap.size w w' := by
  obtain ⟨w1, hw1⟩ : ∃ w1, (w.alloc (.cells #[.slice p n cap] 24)).alloc (.cells #[.slice none 0 0] 24) = w1 := ⟨_, rfl⟩
  have z1 : w1.heap.size = w.heap.size + 2 := by rw [← hw1]; simp
  have B1 : Hid (Below w.heap.size w w1) := by rw [← hw1]; exact ((Below.refl _ w).alloc (Nat.le_refl _) _).alloc (by simp) _
  have c1 : w1.cell? ⟨w.heap.size, 0, none⟩ = some (.slice p n cap) := by rw [← hw1]; exact cell_old _ (cell_new _ _ _ _ _ rfl)
  have c2 : w1.cell? ⟨w.heap.size + 1, 0, none⟩ = some (.slice none 0 0) ∧ w1.frozen? ⟨w.heap.size + 1, 0, none⟩ = false := by rw [← hw1]; have := new_cell (w.alloc (.cells #[.slice p n cap] 24)) (.slice none 0 0) 24; rwa [World.size_alloc] at this
  have RD : Hid (Reads w1 p n L) := h.next B1.out
  have H : Hid (Calls Tryd.prog 33 #[.agg #[.slice p n cap], .int .i64 N] w1 fun e w' => e = .returned (.bool (hasS L N)) ∧ Below w1.heap.size w1 w') := hasNode_any w1 p n cap L N RD.out (hk.next B1.out)
  clear h hk
  cases hh : hasS L N with
  | false =>
    have HK : Hid (subA L N = []) := by show _ = _; unfold subA; rw [hh]; rfl
    rw [hh] at H
    clear hh
    go_enter Tryd.func16, Tryd.ntmps16
    go_wp2_with (first
      | (go_at_call 33; refine H.out.mono ?_; rintro e w2 ⟨rfl, hb2⟩; have d2 := (hb2.cell (p := ⟨w.heap.size + 1, 0, none⟩) (show w.heap.size + 1 < _ by omega)).trans c2.1; have f2 := (hb2.frozen (p := ⟨w.heap.size + 1, 0, none⟩) (show w.heap.size + 1 < _ by omega)).trans c2.2)
      | go_in)
    have hq : (w2.setCell ⟨w.heap.size + 1, 0, none⟩ (.slice none 0 0)).cell? ⟨w.heap.size + 1, 0, none⟩ = some (.slice none 0 0) := World.cell?_setCell_same' _ _ _ (by rw [d2]; rfl)
    rw [HK.out]
    exact bodyPost_ret (v := .agg #[.slice none 0 0]) (by simp [results, Tryd.results16, go_sem, hq]) rfl ⟨⟨.slice none 0 0, rfl, World.ownsRow_nil _ _ _ _, fun _ => rfl⟩, (B1.out.trans (hb2.mono B1.out.size)).setCell (p := ⟨w.heap.size + 1, 0, none⟩) (by show w.heap.size ≤ w.heap.size + 1; omega) _⟩
  | true =>
    obtain ⟨k, rfl, hkl, ht⟩ := has_tree hh
    have HK : subA L (k : Int) = subL L k (sz L k).toNat := by unfold subA; rw [hh, Int.toNat_natCast]; rfl
    rw [hh] at H
    obtain ⟨g1, g2⟩ := (tr_of ht).good k hkl
    obtain ⟨hf, hlen, hrd⟩ := RD.out
    have hLb := hf.len
    obtain ⟨g, o, rfl, hl⟩ := hrd (fun e => by rw [e] at hkl; simp at hkl)
    have d := hl.size hkl
    rw [HK]
    unfold sz at *
    generalize (nd L k).size = s at *
    obtain ⟨m, rfl⟩ : ∃ m : Nat, s = (m : Int) := ⟨s.toNat, by omega⟩
    rw [Int.toNat_natCast]
    have hm : k + m ≤ L.length := by omega
    have hml := len_sub L k m hm
    have HS : Hid (Lay w1 g (o + k * 9) (subL L k m)) := hl.sub k m hm
    obtain ⟨S, hS⟩ : ∃ S, subL L k m = S := ⟨_, rfl⟩
    rw [hS] at HS hml ⊢
    have HF : Hid (Fine S) := by rw [← hS]; exact fine_sub hf k m hm
    have HL : Hid (Lay w1 g o L) := hl
    have i0 : (0 : Int) ≤ (k : Int) := by omega
    have i1 : (k : Int) < (n : Int) := by omega
    have i2 : (k : Int) ≤ (k : Int) + (m : Int) := by omega
    have i3 : (k : Int) + (m : Int) ≤ (cap : Int) := by omega
    have i4 : IntKind.i64.wrap ((k : Int) + (m : Int)) = (k : Int) + (m : Int) := by rw [IntKind.wrap_i64]; omega
    clear hl hh ht hrd HK hS hf
    subst hml
    go_enter Tryd.func16, Tryd.ntmps16
    go_upto_region 3 with (first
      | (go_at_call 33; refine H.out.mono ?_; rintro e w2 ⟨rfl, hb2⟩; have d2 := (hb2.cell (p := ⟨w.heap.size + 1, 0, none⟩) (show w.heap.size + 1 < _ by omega)).trans c2.1; have f2 := (hb2.frozen (p := ⟨w.heap.size + 1, 0, none⟩) (show w.heap.size + 1 < _ by omega)).trans c2.2; have a2 := (hb2.cell (p := ⟨w.heap.size, 0, none⟩) (show w.heap.size < _ by omega)).trans c1; have s2 := (hb2.cell (p := ⟨g, o + k * 9 + 8, none⟩) HL.out.lt).trans d)
      | go_in)
    have SV : Hid (∀ w' : World, Below w1.heap.size w1 w' → w'.cell? ⟨w.heap.size, 0, none⟩ = some (.slice (some ⟨g, o, none⟩) n cap) ∧ w'.cell? ⟨g, o + k * 9 + 8, none⟩ = some (.int .i64 (S.length : Int)) ∧ Below w1.heap.size w1 w') := fun w' hb => ⟨(hb.cell (p := ⟨w.heap.size, 0, none⟩) (show w.heap.size < _ by omega)).trans c1, (hb.cell (p := ⟨g, o + k * 9 + 8, none⟩) HL.out.lt).trans d, hb⟩
    have HC : Hid (∀ w' : World, Below w1.heap.size w1 w' → Calls Tryd.prog 36 #[.slice (if cap = k then some ⟨g, o, none⟩ else some ⟨g, o + k * 9, none⟩) (((k : Int) + (S.length : Int)).toNat - k) (cap - k)] w' fun e w'' => (∃ B cap', e = .returned (.slice (some ⟨B, 0, none⟩) S.length cap') ∧ Hid (w''.ownsRow w'.heap.size 36 9 (.slice (some ⟨B, 0, none⟩) S.length cap') S.length (flat S))) ∧ Below w'.heap.size w' w'') := fun w' hb => by
      rw [if_neg (by omega), show ((k : Int) + (S.length : Int)).toNat - k = S.length by omega]
      exact cloneO_any w' ⟨g, o + k * 9, none⟩ _ S (by omega) (by omega) (flat_src (HS.out.next hb))
    clear c1 d hw1
    have hcd : Below w1.heap.size w1 w2.drew := hb2.drew
    go_region_held3 (fun w' => w'.cell? ⟨w.heap.size, 0, none⟩ = some (.slice (some ⟨g, o, none⟩) n cap) ∧ w'.cell? ⟨g, o + k * 9 + 8, none⟩ = some (.int .i64 (S.length : Int)) ∧ Below w1.heap.size w1 w') (exact SV.out _ (by assumption))
      (first | (go_at_call 36; refine (HC.out _ hcd).mono ?_; rintro e w3 ⟨⟨B, cap', rfl, h3⟩, hb3⟩; replace hcd := hcd.trans (hb3.mono hcd.size)))
    have HO : Hid (OwnO w1 w3 B cap' S) := ⟨own_low h3.out (by have := hb2.size; simpa using this), hcd⟩
    clear h3 hb3 hcd SV HC d2 f2 a2 s2 H RD i2 i3 i4
    go_wp2
    go_loopw [28] (fun v wr => ∃ i : Nat, i ≤ S.length ∧ v = .int .i64 (i : Int) ∧ Hid (OwnO w1 wr B cap' S)) (fun v _ => S.length - (intOf v).toNat)
    case atStart => exact ⟨0, by omega, rfl, HO⟩
    case round =>
      obtain ⟨i, hi, rfl, ho⟩ := hrel
      clear HO
      by_cases hlt : i < S.length
      · have j0 : (0 : Int) ≤ (i : Int) := by omega
        have j1 : (i : Int) < (S.length : Int) := by omega
        obtain ⟨t1, t2, t3, t4⟩ := HF.out.txt i hlt
        obtain ⟨x, hx⟩ : ∃ x, nd S i = x := ⟨_, rfl⟩
        have HX : Hid (nd S i = x) := hx
        rw [hx] at t1 t2 t3 t4
        clear hx
        obtain ⟨kd, ps, nm, lb, ty, op, it, tx, zz⟩ := x
        have HV : Hid (∀ (j : Nat) (v : Value), (ndV ⟨kd, ps, nm, lb, ty, op, it, tx, zz⟩)[j]? = some v → (ndV (nd S i))[j]? = some v) := fun j v hv => by rw [HX.out]; exact hv
        clear HX
        replace t1 : nm.size ≤ 281474976710656 := Nat.le_trans t1 (by decide)
        replace t2 : lb.size ≤ 281474976710656 := Nat.le_trans t2 (by decide)
        replace t3 : ty.size ≤ 281474976710656 := Nat.le_trans t3 (by decide)
        replace t4 : tx.size ≤ 281474976710656 := Nat.le_trans t4 (by decide)
        have q0 := (ho.out.cell i 2 (.string nm) hlt (by omega) (HV.out 2 _ rfl)).1
        go_upto_region 9 with (first
          | (go_at_call 37; refine (clone_any nm _ t1).mono ?_; rintro e wa0 ⟨rfl, hba0⟩; obtain ⟨qa0, fa0⟩ := (ho.out.call hba0).cell i 2 (.string nm) hlt (by omega) (HV.out 2 _ rfl))
          | go_in)
        have ho0 : Hid (OwnO w1 (wa0.setCell ⟨B, i * 9 + 2, none⟩ (.string nm)) B cap' S) := (ho.out.call hba0).put i 2 _ hlt (by omega) (HV.out 2 _ rfl)
        obtain ⟨wb0, hwb0⟩ : ∃ wb, wa0.setCell ⟨B, i * 9 + 2, none⟩ (.string nm) = wb := ⟨_, rfl⟩
        rw [hwb0] at ho0 ⊢
        clear q0 qa0 fa0 hwb0 hba0 ho
        have q1 := (ho0.out.cell i 3 (.string lb) hlt (by omega) (HV.out 3 _ rfl)).1
        go_upto_region 10 with (first
          | (go_at_call 37; refine (clone_any lb _ t2).mono ?_; rintro e wa1 ⟨rfl, hba1⟩; obtain ⟨qa1, fa1⟩ := (ho0.out.call hba1).cell i 3 (.string lb) hlt (by omega) (HV.out 3 _ rfl))
          | go_in)
        have ho1 : Hid (OwnO w1 (wa1.setCell ⟨B, i * 9 + 3, none⟩ (.string lb)) B cap' S) := (ho0.out.call hba1).put i 3 _ hlt (by omega) (HV.out 3 _ rfl)
        obtain ⟨wb1, hwb1⟩ : ∃ wb, wa1.setCell ⟨B, i * 9 + 3, none⟩ (.string lb) = wb := ⟨_, rfl⟩
        rw [hwb1] at ho1 ⊢
        clear q1 qa1 fa1 hwb1 hba1 ho0
        have q2 := (ho1.out.cell i 4 (.string ty) hlt (by omega) (HV.out 4 _ rfl)).1
        go_upto_region 11 with (first
          | (go_at_call 37; refine (clone_any ty _ t3).mono ?_; rintro e wa2 ⟨rfl, hba2⟩; obtain ⟨qa2, fa2⟩ := (ho1.out.call hba2).cell i 4 (.string ty) hlt (by omega) (HV.out 4 _ rfl))
          | go_in)
        have ho2 : Hid (OwnO w1 (wa2.setCell ⟨B, i * 9 + 4, none⟩ (.string ty)) B cap' S) := (ho1.out.call hba2).put i 4 _ hlt (by omega) (HV.out 4 _ rfl)
        obtain ⟨wb2, hwb2⟩ : ∃ wb, wa2.setCell ⟨B, i * 9 + 4, none⟩ (.string ty) = wb := ⟨_, rfl⟩
        rw [hwb2] at ho2 ⊢
        clear q2 qa2 fa2 hwb2 hba2 ho1
        have q3 := (ho2.out.cell i 7 (.string tx) hlt (by omega) (HV.out 7 _ rfl)).1
        go_upto_region 12 with (first
          | (go_at_call 37; refine (clone_any tx _ t4).mono ?_; rintro e wa3 ⟨rfl, hba3⟩; obtain ⟨qa3, fa3⟩ := (ho2.out.call hba3).cell i 7 (.string tx) hlt (by omega) (HV.out 7 _ rfl))
          | go_in)
        have ho3 : Hid (OwnO w1 (wa3.setCell ⟨B, i * 9 + 7, none⟩ (.string tx)) B cap' S) := (ho2.out.call hba3).put i 7 _ hlt (by omega) (HV.out 7 _ rfl)
        obtain ⟨wb3, hwb3⟩ : ∃ wb, wa3.setCell ⟨B, i * 9 + 7, none⟩ (.string tx) = wb := ⟨_, rfl⟩
        rw [hwb3] at ho3 ⊢
        clear q3 qa3 fa3 hwb3 hba3 ho2
        go_wp2
        exact ⟨⟨i + 1, by omega, by go_num, ho3⟩, by simp [intOf]; omega⟩
      · obtain rfl : i = S.length := by omega
        have dr := (ho.out.bel.cell (p := ⟨w.heap.size + 1, 0, none⟩) (show w.heap.size + 1 < _ by omega)).trans c2.1
        have fr := (ho.out.bel.frozen (p := ⟨w.heap.size + 1, 0, none⟩) (show w.heap.size + 1 < _ by omega)).trans c2.2
        go_wp2
        have hq : (wr.setCell ⟨w.heap.size + 1, 0, none⟩ (.slice (some ⟨B, 0, none⟩) S.length cap')).cell? ⟨w.heap.size + 1, 0, none⟩ = some (.slice (some ⟨B, 0, none⟩) S.length cap') := World.cell?_setCell_same' _ _ _ (by rw [dr]; rfl)
        have hBle := ho.out.le
        have hgs := ApN.own_kept (ho.out.own) (ApN.grown_cell wr (w.heap.size + 1) 0 (.slice (some ⟨B, 0, none⟩) S.length cap')) (Or.inl (by show some B ≠ some _; intro e; have := Option.some.inj e; omega))
        have HGS : Hid ((wr.setCell ⟨w.heap.size + 1, 0, none⟩ (.slice (some ⟨B, 0, none⟩) S.length cap')).ownsRow w.heap.size 36 9 (.slice (some ⟨B, 0, none⟩) S.length cap') S.length (flat S)) := own_low hgs (by omega)
        clear hgs
        exact bodyPost_ret (v := .agg #[.slice (some ⟨B, 0, none⟩) S.length cap']) (by simp [results, Tryd.results16, go_sem, hq]) rfl ⟨⟨_, rfl, HGS.out, fun h0 => by omega⟩, (B1.out.trans (ho.out.bel.mono (by omega))).setCell (p := ⟨w.heap.size + 1, 0, none⟩) (by show w.heap.size ≤ w.heap.size + 1; omega) _⟩

end Go.Proofs.YtekgnogjfggnmaaDoor

namespace Go.Proofs.YtekgnogjfggnmaaDoor.ApN
open Go.RowKit

theorem info22 : (Tryd.prog.info? 22).map (fun i => (i.zero, i.size, i.bytes)) = some (some (.slice none 0 0), 1, 24) := by kernel_rfl

theorem below_cells (w : World) (g : Nat) : ∀ (o : Nat) (vs : List Value) {base : Nat}, base ≤ g → Below base w (w.setCells g o vs)
  | o, [], base, _ => Below.refl _ _
  | o, v :: r, base, h => by
    have h1 : Below base w (w.setCell ⟨g, o, none⟩ v) := (Below.refl base w).setCell (p := ⟨g, o, none⟩) h v
    exact h1.trans (below_cells _ g (o + 1) r h)
theorem neq_same (x : Int) : ∀ w : World, (binOp BinOp.neq 36 (.agg #[.int .i64 0, .int .i64 0, .string ⟨#[]⟩, .string ⟨#[]⟩, .string ⟨#[]⟩, .int .i64 0, .int .i64 x, .string ⟨#[]⟩, .int .i64 0]) (.agg #[.int .i64 0, .int .i64 0, .string ⟨#[]⟩, .string ⟨#[]⟩, .string ⟨#[]⟩, .int .i64 0, .int .i64 x, .string ⟨#[]⟩, .int .i64 0])).run Tryd.prog w = .ok (.bool false) w := by
  intro w
  have h := neqA 0 0 0 ⟨#[]⟩ ⟨#[]⟩ ⟨#[]⟩ 0 x ⟨#[]⟩ 0 0 ⟨#[]⟩ ⟨#[]⟩ ⟨#[]⟩ 0 x ⟨#[]⟩ 0 w
  rw [h]
  simp only [alikeB, beq_self_eq_true, Bool.and_self, Bool.not_true]

theorem own_form26 {W : World} {base n : Nat} {u : Value} {xs : List Value} (h : W.ownsRow base 22 1 u n xs) : ∃ ov cap, u = .slice ov n cap ∧ (0 < n → ∃ g, ov = some ⟨g, 0, none⟩) := by
  rcases h.2 with ⟨rfl, rfl⟩ | ⟨g, cap, _, rfl, _⟩
  · exact ⟨none, 0, rfl, fun h => absurd h (Nat.lt_irrefl _)⟩
  · exact ⟨_, cap, rfl, fun _ => ⟨g, rfl⟩⟩

set_option maxRecDepth 100000 in
set_option maxHeartbeats 4000000 in
theorem apart_walk (w : World) (base O m : Nat) (v : Nat → Value) (n : Nat → Nat) (f0 : Nat → List Value) (hm : m ≤ 200) (hL : Lists w base O m v n f0) (hlen : ∀ k, k < m → (f0 k).length = n k * 9) (hz : ∀ k, k < m → n k = 0 → v k = .slice none 0 0)
    (hd : ∀ a b, a < m → b < m → a ≠ b → (v a).ownBlock = none ∨ (v a).ownBlock ≠ (v b).ownBlock) (hn : ∀ k, k < m → n k ≤ 1353245080300) (hbase : base ≤ w.heap.size) :
    Calls Tryd.prog 27 #[.slice (some ⟨O, 0, none⟩) m m] w fun e w' => e = .returned (.bool true) ∧ Below base w w' := by
  have HL : Hid (Lists w base O m v n f0) := hL
  have HLen : Hid (∀ k, k < m → (f0 k).length = n k * 9) := hlen
  have HZ : Hid (∀ k, k < m → n k = 0 → v k = .slice none 0 0) := hz
  have HD : Hid (∀ a b, a < m → b < m → a ≠ b → (v a).ownBlock = none ∨ (v a).ownBlock ≠ (v b).ownBlock) := hd
  have HN : Hid (∀ k, k < m → n k ≤ 1353245080300) := hn
  have HO0 := hL.1.lt
  clear hL hlen hz hd hn
  obtain ⟨i9, hi9, hz9, hs9, hb9⟩ := info_parts info36
  obtain ⟨i26, hi26, hz26, hs26, hb26⟩ := info_parts info22
  go_enter Tryd.func27, Tryd.ntmps27
  go_wp2
  go_loopw [3] (fun s3 wr => ∃ i : Nat, i ≤ m ∧ s3 = .int .i64 (i : Int) ∧ Hid (Lists wr base O m v n (Fm n f0 i 0)) ∧ Below base w wr) (fun s3 _ => m - (intOf s3).toNat)
  case atStart =>
    refine ⟨0, Nat.zero_le _, rfl, ?_, Below.refl _ _⟩
    refine ⟨HL.out.1, fun k hk => ?_⟩
    have e : Fm n f0 0 0 k = f0 k := by
      unfold Fm
      rw [if_neg (Nat.not_lt_zero _)]
      by_cases h0 : k = 0
      · subst h0; simp [sgs, flat]
      · rw [if_neg h0]
    rw [e]
    exact HL.out.2 k hk
  case round =>
    obtain ⟨i, hi, rfl, hS, hB⟩ := hrel
    by_cases hlt : i < m
    · have hni := HN.out i hlt
      have hlt1 : (i : Int) < (m : Int) := by omega
      have ho := hS.out.1.cell i hlt
      obtain ⟨ov, cap, hvi, hg0⟩ := own_form (hS.out.2 i hlt)
      have HV : Hid (v i = .slice ov (n i) cap) := hvi
      rw [hvi] at ho
      clear hvi ho
      obtain ⟨q, hq⟩ : ∃ q, n i = q := ⟨_, rfl⟩
      have HQ : Hid (n i = q) := hq
      rw [hq] at hni hg0 HV
      clear hq
      go_wp2_with fail
      go_loopw [4] (fun s4 wr => ∃ j : Nat, j ≤ q ∧ s4 = .int .i64 (j : Int) ∧ Hid (Lists wr base O m v n (Fm n f0 i j)) ∧ Below base w wr) (fun s4 _ => q - (intOf s4).toNat)
      case atStart => exact ⟨0, Nat.zero_le _, rfl, hS, hB⟩
      case round =>
        clear hS hB
        obtain ⟨j, hj, rfl, hT, hC⟩ := hrel
        have ho := hT.out.1.cell i hlt
        rw [HV.out] at ho
        by_cases hjq : j < q
        · obtain ⟨g, rfl⟩ := hg0 (by omega)
          clear hg0
          have hoi := hT.out.2 i hlt
          rw [HV.out, HQ.out] at hoi
          have TH : Hid (wr.there g (j * 9) 9) := own_there hoi j hjq
          have hO := hT.out.1.lt
          have hgl := (hoi.lt g rfl).2
          have hgb := (hoi.lt g rfl).1
          have hCs : base ≤ wr.heap.size := Nat.le_trans hbase hC.size
          have hjq1 : (j : Int) < (q : Int) := by omega
          clear hoi
          have hwr : IntKind.i64.wrap (-10 - (i : Int)) = -10 - (i : Int) := by rw [IntKind.wrap_i64]; omega
          have hT1 : Hid (Lists (wr.setCells g (j * 9) (one9 i)) base O m v n (Fm n f0 i (j + 1))) := hT.out.store hlt (by rw [HQ.out]; exact hjq) (HLen.out i hlt) (by rw [HQ.out]; exact HV.out) HD.out
          have hbg : base ≤ g := hgb
          have hC1 : Below base w (wr.setCells g (j * 9) (one9 i)) := hC.trans (below_cells wr g (j * 9) (one9 i) hbg)
          have HW : Hid (∀ wz, wr.setCells g (j * 9) (ndV (mkN i)).toList = wz → Lists wz base O m v n (Fm n f0 i (j + 1)) ∧ Below base w wz) := fun wz e => by rw [← e]; exact ⟨hT1.out, hC1⟩
          obtain ⟨wz, hwz⟩ : ∃ wz, wr.setCells g (j * 9) (ndV (mkN i)).toList = wz := ⟨_, rfl⟩
          have HWZ := HW.out wz hwz
          have HWE : Hid (wr.setCells g (j * 9) (ndV (mkN i)).toList = wz) := hwz
          have hT2 : Hid (Lists wz base O m v n (Fm n f0 i (j + 1))) := HWZ.1
          have hC2 : Below base w wz := HWZ.2
          have H1C : Hid ((ndV (mkN i)).all (·.oneCell') = true) := all_oneCell_toArray (one9_one i)
          clear hT1 hC1 HW HWZ hwz
          clear hT
          go_wp2_with (first
            | (refine wpList_store_mid (by rfl) 36 (.tmp 34) (.tmp 33) (by rfl) g (j * 9) (ndV (mkN i)) (by rfl) (by rfl) TH.out size36 H1C.out ?_; rw [HWE.out])
            | fail)
          go_roundw
          case rel => exact ⟨j + 1, by omega, by go_num, hT2, hC2⟩
          case measure => simp [intOf]; omega
        · have hj2 : j = q := by omega
          subst hj2
          have hT2 : Lists wr base O m v n (Fm n f0 (i + 1) 0) := ⟨hT.out.1, fun k hk => by
            have h := hT.out.2 k hk
            have e := Fm_next (f0 := f0) (HLen.out i hlt) k
            rw [HQ.out] at e
            rw [e] at h
            exact h⟩
          have HT2 : Hid (Lists wr base O m v n (Fm n f0 (i + 1) 0)) := hT2
          clear hT2
          go_wp2
          go_roundw
          case rel => exact ⟨i + 1, by omega, by go_num, HT2, hC⟩
          case measure => simp [intOf]; omega
    · have hi2 : i = m := by omega
      subst hi2
      have hL2 : Lists wr base O i v n (fun k => sgs k (n k)) := ⟨hS.out.1, fun k hk => by
        have h := hS.out.2 k hk
        have e : Fm n f0 i 0 k = sgs k (n k) := if_pos hk
        rw [e] at h
        exact h⟩
      have HL2 : Hid (Lists wr base O i v n (fun k => sgs k (n k))) := hL2
      clear hL2 hS HL HD HLen
      go_wp2_with fail
      go_loopw [5, 6] (fun s5 s6 wr => ∃ (c : Nat) (us : List Value), c ≤ i ∧ us.length = c ∧ s6 = .int .i64 (c : Int) ∧ Hid (wr.ownsRow w.heap.size 22 1 s5 c us) ∧ Hid (Lists wr base O i v n (fun k => sgs k (n k))) ∧ Hid (Longs wr base n us) ∧ Below base w wr) (fun _ s6 _ => i - (intOf s6).toNat)
      case atStart => exact ⟨0, [], Nat.zero_le _, rfl, rfl, World.ownsRow_nil _ _ _ _, HL2, fun k u h => by simp at h, hB⟩
      case round =>
        clear hB HL2 hlt
        obtain ⟨c, us, hc, hus, rfl, h26, hL, hG, hB⟩ := hrel
        have HUS : Hid (us.length = c) := hus
        clear hus
        by_cases hci : c < i
        · have hnc := HN.out c hci
          have hci1 : (c : Int) < (i : Int) := by omega
          have ho := hL.out.1.cell c hci
          have how := hL.out.2 c hci
          have HOW : Hid (wr.ownsRow base 36 9 (v c) (n c) (sgs c (n c))) := how
          obtain ⟨ov, cap, hvc, _⟩ := own_form how
          have HV : Hid (v c = .slice ov (n c) cap) := hvc
          rw [hvc] at ho
          obtain ⟨q, hq⟩ : ∃ q, n c = q := ⟨_, rfl⟩
          have HQ : Hid (n c = q) := hq
          have HZ2 : Hid (q = 0 → v c = .slice none 0 0) := fun h => HZ.out c hci (hq.trans h)
          rw [hq] at hnc ho HV HOW
          clear hvc how hq
          go_wp2_with fail
          go_loopw [7, 8] (fun s7 s8 wr => ∃ (t : Nat) (u : Value), t ≤ 70 ∧ s7 = u ∧ s8 = .int .i64 (t : Int) ∧ Hid (wr.ownsRow base 36 9 u (q + t) (sgs c (q + t))) ∧ Hid (q + t = 0 → u = .slice none 0 0) ∧ Hid (wr.ownsRow w.heap.size 22 1 u5 c us) ∧ Hid (Lists wr base O i v n (fun k => sgs k (n k))) ∧ Hid (Longs wr base n us) ∧ Below base w wr) (fun _ s8 _ => 70 - (intOf s8).toNat)
          case atStart => exact ⟨0, _, by omega, rfl, rfl, by rw [← HV.out]; exact HOW, fun h => by rw [← HV.out]; exact HZ2.out h, h26, hL, hG, hB⟩
          case round =>
            clear h26 hL hG hB HOW
            obtain ⟨t, u, ht, rfl, rfl, hu, hu0, h26, hL, hG, hB⟩ := hrel
            have ho := hL.out.1.cell c hci
            rw [HV.out] at ho
            by_cases h70 : t < 70
            · have hO := hL.out.1.lt
              have hBs := hB.size
              have hwr : IntKind.i64.wrap (-10 - (c : Int)) = -10 - (c : Int) := by rw [IntKind.wrap_i64]; omega
              have hal : Below wr.heap.size wr (wr.alloc (.cells (ndV (mkN c)) 36)) := (Below.refl _ wr).alloc (Nat.le_refl _) _
              obtain ⟨u', w2, hrun, hown2, hgr2, hcs⟩ := app_one (P := Tryd.prog) (w := wr.alloc (.cells (ndV (mkN c)) 36)) (base := base) 22 22 i9 _ 104 Tryd.underlying22 hi9 hz9 hs9 hb9 rfl (by decide) u7 (q + t) (sgs c (q + t)) (hu.out.alloc _) ⟨wr.heap.size, 0, none⟩ 1 (one9 c) (one9_len c) (World.news_of_block (heap_alloc_new wr _)) (one9_one c) (by unfold maxLen; omega) (by omega) (by simp; omega)
              rw [← sgs_succ] at hown2
              have hst := more_step (by omega) hci (hL.out.stays hal) HZ.out (hG.out.stays hal) HUS.out (own_stays h26.out hal) (hu.out.alloc _) (by rw [HQ.out]; omega) hu0.out hown2 hgr2 hcs
              have HS1 : Hid (Lists w2 base O i v n (fun k => sgs k (n k))) := hst.1
              have HS2 : Hid (Longs w2 base n us) := hst.2.1
              have HS3 : Hid (w2.ownsRow w.heap.size 22 1 u5 c us) := hst.2.2
              have HS4 : Hid (w2.ownsRow base 36 9 u' (q + t + 1) (sgs c (q + t + 1))) := hown2
              have hB2 : Below base w w2 := (hB.alloc (by omega) (.cells (ndV (mkN c)) 36)).grown hgr2 (by simp; omega) (fun k e => (hu.out.lt k e).1)
              have HR : Hid ((Builtin.append_ #[22, 22] 22 #[u7, .slice (some ⟨wr.heap.size, 0, none⟩) 1 1]).run Tryd.prog (wr.alloc (.cells (ndV (mkN c)) 36)) = .ok u' w2) := hrun
              clear hst hcs hgr2 hown2 hal hrun
              unfold ndV mkN at HR
              go_wp2_with (at_builtin; refine wpList_app rfl (.tmp 49) (.tmp 53) 22 rfl HR.out ?_)
              go_roundw
              case rel => exact ⟨t + 1, u', by omega, rfl, by go_num, HS4, fun h => by omega, HS3, HS1, HS2, hB2⟩
              case measure => simp [intOf]; omega
            · have ht2 : t = 70 := by omega
              subst ht2
              obtain ⟨ov7, cap7, hu7, hg7⟩ := own_form hu.out
              subst hu7
              have hBs := hB.size
              have hal : Below wr.heap.size wr (wr.alloc (.cells #[.slice ov7 (q + 70) cap7] 22)) := (Below.refl _ wr).alloc (Nat.le_refl _) _
              obtain ⟨u', w2, hrun, hown2, hgr2, hcs⟩ := app_one (P := Tryd.prog) (w := wr.alloc (.cells #[.slice ov7 (q + 70) cap7] 22)) (base := w.heap.size) 49 49 i26 (.slice none 0 0) 24 Tryd.underlying49 hi26 hz26 hs26 hb26 rfl (by decide) u5 c us (h26.out.alloc _) ⟨wr.heap.size, 0, none⟩ 1 [.slice ov7 (q + 70) cap7] rfl (World.news_of_block (heap_alloc_new wr _)) (by intro x hx; rw [List.mem_singleton.1 hx]; rfl) (by unfold maxLen; omega) (by omega) (by simp; omega)
              have hst := long_step (hL.out.stays hal) (hG.out.stays hal) (h26.out.alloc _) HO0 (hu.out.alloc _) hgr2
              have hus := HUS.out
              have HS1 : Hid (Lists w2 base O i v n (fun k => sgs k (n k))) := hst.1
              have HS2 : Hid (Longs w2 base n (us ++ [.slice ov7 (q + 70) cap7])) := hst.2.1.push (by rw [hus, HQ.out]; exact hst.2.2)
              have HS3 : Hid (w2.ownsRow w.heap.size 22 1 u' (c + 1) (us ++ [.slice ov7 (q + 70) cap7])) := hown2
              have hB2 : Below base w w2 := (hB.alloc (by omega) (.cells #[.slice ov7 (q + 70) cap7] 22)).grown hgr2 (by simp; omega) (fun k e => Nat.le_trans hbase (h26.out.lt k e).1)
              have HUS2 : Hid ((us ++ [Value.slice ov7 (q + 70) cap7]).length = c + 1) := by show (us ++ [Value.slice ov7 (q + 70) cap7]).length = c + 1; rw [List.length_append, hus]; rfl
              have HR : Hid ((Builtin.append_ #[49, 49] 49 #[u5, .slice (some ⟨wr.heap.size, 0, none⟩) 1 1]).run Tryd.prog (wr.alloc (.cells #[.slice ov7 (q + 70) cap7] 22)) = .ok u' w2) := hrun
              clear hst hcs hgr2 hown2 hal hrun hus hg7 ho
              go_wp2_with (at_builtin; refine wpList_app rfl (.tmp 55) (.tmp 57) 49 rfl HR.out ?_)
              go_roundw
              case rel => exact ⟨c + 1, us ++ [.slice ov7 (q + 70) cap7], by omega, HUS2.out, by go_num, HS3, HS1, HS2, hB2⟩
              case measure => simp [intOf]; omega
        · have hc2 : c = i := by omega
          subst hc2
          obtain ⟨o5, cap5, hu5, hg5⟩ := own_form26 h26.out
          subst hu5
          go_wp2_with fail
          go_loopw [9] (fun s9 wr => ∃ d : Nat, d ≤ c ∧ s9 = .int .i64 (d : Int) ∧ Hid (wr.ownsRow w.heap.size 22 1 (.slice o5 c cap5) c us) ∧ Hid (Lists wr base O c v n (fun k => sgs k (n k))) ∧ Hid (Longs wr base n us) ∧ Below base w wr) (fun s9 _ => c - (intOf s9).toNat)
          case atStart => exact ⟨0, Nat.zero_le _, rfl, h26, hL, hG, hB⟩
          case round =>
            clear h26 hL hG hB
            obtain ⟨d, hd, rfl, h26, hL, hG, hB⟩ := hrel
            by_cases hdc : d < c
            · obtain ⟨h5, rfl⟩ := hg5 (by omega)
              clear hg5
              have hdc1 : (d : Int) < (c : Int) := by omega
              have hnd := HN.out d hdc
              have hdl : d < us.length := by rw [HUS.out]; exact hdc
              obtain ⟨x, hx⟩ : ∃ x, us[d]? = some x := ⟨_, List.getElem?_eq_getElem hdl⟩
              obtain ⟨ox, capx, hxf, hgx⟩ := own_form (hG.out d x hx)
              obtain ⟨gx, rfl⟩ := hgx (by omega)
              subst hxf
              have HX : Hid (us[d]? = some (.slice (some ⟨gx, 0, none⟩) (n d + 70) capx)) := hx
              obtain ⟨ov, cap, hvd, hgd⟩ := own_form (hL.out.2 d hdc)
              have HV : Hid (v d = .slice ov (n d) cap) := hvd
              obtain ⟨q, hq⟩ : ∃ q, n d = q := ⟨_, rfl⟩
              have HQ : Hid (n d = q) := hq
              rw [hq] at hnd HX HV hgd
              clear hx hgx hvd hq hdl
              have c5 : wr.cell? ⟨h5, d, none⟩ = some (.slice (some ⟨gx, 0, none⟩) (q + 70) capx) := (h26.out.cellAt d (by omega)).trans HX.out
              go_wp2_with fail
              go_loopw [10] (fun s10 wr => ∃ j : Nat, j ≤ q + 70 ∧ s10 = .int .i64 (j : Int) ∧ Hid (wr.ownsRow w.heap.size 22 1 (.slice (some ⟨h5, 0, none⟩) c cap5) c us) ∧ Hid (Lists wr base O c v n (fun k => sgs k (n k))) ∧ Hid (Longs wr base n us) ∧ Below base w wr) (fun s10 _ => q + 70 - (intOf s10).toNat)
              case atStart => exact ⟨0, Nat.zero_le _, rfl, h26, hL, hG, hB⟩
              case round =>
                clear h26 hL hG hB c5
                obtain ⟨j, hj, rfl, h26, hL, hG, hB⟩ := hrel
                have c5 : wr.cell? ⟨h5, d, none⟩ = some (.slice (some ⟨gx, 0, none⟩) (q + 70) capx) := (h26.out.cellAt d (by omega)).trans HX.out
                by_cases hjq : j < q + 70
                · have hjq1 : (j : Int) < (q : Int) + 70 := by omega
                  have ho := hL.out.1.cell d hdc
                  rw [HV.out] at ho
                  have hgo := hG.out d _ HX.out
                  rw [HQ.out] at hgo
                  have hcx : ∀ r (hr : r < 9), wr.cell? ⟨gx, j * 9 + r, none⟩ = (one9 d)[r]? := fun r hr => (hgo.cellAt (j * 9 + r) (by omega)).trans (sgs_at d (q + 70) j r hjq hr)
                  have cx0 : wr.cell? ⟨gx, j * 9, none⟩ = some (.int .i64 0) := hcx 0 (by omega)
                  have cx1 : wr.cell? ⟨gx, j * 9 + 1, none⟩ = some (.int .i64 0) := hcx 1 (by omega)
                  have cx2 : wr.cell? ⟨gx, j * 9 + 2, none⟩ = some (.string ⟨#[]⟩) := hcx 2 (by omega)
                  have cx3 : wr.cell? ⟨gx, j * 9 + 3, none⟩ = some (.string ⟨#[]⟩) := hcx 3 (by omega)
                  have cx4 : wr.cell? ⟨gx, j * 9 + 4, none⟩ = some (.string ⟨#[]⟩) := hcx 4 (by omega)
                  have cx5 : wr.cell? ⟨gx, j * 9 + 5, none⟩ = some (.int .i64 0) := hcx 5 (by omega)
                  have cx6 : wr.cell? ⟨gx, j * 9 + 6, none⟩ = some (.int .i64 (-10 - (d : Int))) := hcx 6 (by omega)
                  have cx7 : wr.cell? ⟨gx, j * 9 + 7, none⟩ = some (.string ⟨#[]⟩) := hcx 7 (by omega)
                  have cx8 : wr.cell? ⟨gx, j * 9 + 8, none⟩ = some (.int .i64 0) := hcx 8 (by omega)
                  clear hcx
                  have hneq := neq_same (-10 - (d : Int))
                  have hwr : IntKind.i64.wrap (-10 - (d : Int)) = -10 - (d : Int) := by rw [IntKind.wrap_i64]; omega
                  by_cases hjn : j < q
                  · obtain ⟨g, rfl⟩ := hgd (by omega)
                    have hv := hL.out.2 d hdc
                    rw [HV.out, HQ.out] at hv
                    have hcg : ∀ r (hr : r < 9), wr.cell? ⟨g, j * 9 + r, none⟩ = (one9 d)[r]? := fun r hr => (hv.cellAt (j * 9 + r) (by omega)).trans (by show (sgs d (n d))[j * 9 + r]? = _; rw [HQ.out]; exact sgs_at d q j r hjn hr)
                    have cg0 : wr.cell? ⟨g, j * 9, none⟩ = some (.int .i64 0) := hcg 0 (by omega)
                    have cg1 : wr.cell? ⟨g, j * 9 + 1, none⟩ = some (.int .i64 0) := hcg 1 (by omega)
                    have cg2 : wr.cell? ⟨g, j * 9 + 2, none⟩ = some (.string ⟨#[]⟩) := hcg 2 (by omega)
                    have cg3 : wr.cell? ⟨g, j * 9 + 3, none⟩ = some (.string ⟨#[]⟩) := hcg 3 (by omega)
                    have cg4 : wr.cell? ⟨g, j * 9 + 4, none⟩ = some (.string ⟨#[]⟩) := hcg 4 (by omega)
                    have cg5 : wr.cell? ⟨g, j * 9 + 5, none⟩ = some (.int .i64 0) := hcg 5 (by omega)
                    have cg6 : wr.cell? ⟨g, j * 9 + 6, none⟩ = some (.int .i64 (-10 - (d : Int))) := hcg 6 (by omega)
                    have cg7 : wr.cell? ⟨g, j * 9 + 7, none⟩ = some (.string ⟨#[]⟩) := hcg 7 (by omega)
                    have cg8 : wr.cell? ⟨g, j * 9 + 8, none⟩ = some (.int .i64 0) := hcg 8 (by omega)
                    clear hcg
                    have hjn1 : (j : Int) < (q : Int) := by omega
                    clear hv hgd hgo
                    go_wp2
                    go_roundw
                    case rel => exact ⟨j + 1, by omega, by go_num, h26, hL, hG, hB⟩
                    case measure => simp [intOf]; omega
                  · have hjn1 : ¬ (j : Int) < (q : Int) := by omega
                    clear hgd hgo
                    go_wp2
                    go_roundw
                    case rel => exact ⟨j + 1, by omega, by go_num, h26, hL, hG, hB⟩
                    case measure => simp [intOf]; omega
                · have hj2 : j = q + 70 := by omega
                  subst hj2
                  go_wp2
                  go_roundw
                  case rel => exact ⟨d + 1, by omega, by go_num, h26, hL, hG, hB⟩
                  case measure => simp [intOf]; omega
            · go_wp2
              go_ret
              exact ⟨rfl, hB⟩

end Go.Proofs.YtekgnogjfggnmaaDoor.ApN
