import Derived.Lib.QuietBelow
import Derived.Test.YtekgnogjfggnmaaGreatDoorN31
namespace Go.Proofs.YtekgnogjfggnmaaGreatDoor.ApN
open Go.RowKit
def mkN (i : Nat) : Nd := ⟨0, 0, ⟨#[]⟩, ⟨#[]⟩, ⟨#[]⟩, 0, -10 - (i : Int), ⟨#[]⟩, 0⟩
def one9 (i : Nat) : List Value := (ndV (mkN i)).toList
theorem one9_len (i : Nat) : (one9 i).length = 9 := rfl
theorem one9_one (i : Nat) : ∀ u ∈ one9 i, u.oneCell' = true := by
 intro u hu
 have := flat_one [mkN i] u (by unfold flat; simpa [one9] using hu)
 exact this
theorem flat_app (A B : List Nd) : flat (A ++ B) = flat A ++ flat B := List.flatMap_append
def sgs (i q : Nat) : List Value := flat (List.replicate q (mkN i))
theorem sgs_len (i q : Nat) : (sgs i q).length = q * 9 := by unfold sgs; rw [flat_len, List.length_replicate]
theorem sgs_at (i q j r : Nat) (h : j < q) (hr : r < 9) : (sgs i q)[j * 9 + r]? = (one9 i)[r]? := by
 unfold sgs
 rw [flat_at _ j r (by rw [List.length_replicate]; exact h) hr]
 have : nd (List.replicate q (mkN i)) j = mkN i := by simp [nd, h]
 rw [this]
 simp [one9]
theorem sgs_succ (i q : Nat) : sgs i (q + 1) = sgs i q ++ one9 i := by
 unfold sgs
 rw [List.replicate_succ', flat_app]
 congr 1
theorem sgs_take (i q p : Nat) (h : p ≤ q) : sgs i p = (sgs i q).take (p * 9) := by
 have e : List.replicate q (mkN i) = List.replicate p (mkN i) ++ List.replicate (q - p) (mkN i) := by rw [List.replicate_append_replicate]; congr 1; omega
 unfold sgs
 rw [e, flat_app, List.take_left' (by rw [flat_len, List.length_replicate])]
def OutB (W : World) (O m : Nat) (v : Nat → Value) : Prop := ∃ cur, W.heap[O]? = some (.cells cur 22 (0, 0)) ∧ ∀ k, k < m → cur[k]? = some (v k)
theorem OutB.cell {W : World} {O m : Nat} {v : Nat → Value} (h : OutB W O m v) (k : Nat) (hk : k < m) : W.cell? ⟨O, k, none⟩ = some (v k) := by
 obtain ⟨cur, hh, hc⟩ := h
 simp [World.cell?, hh, hc k hk]
theorem OutB.lt {W : World} {O m : Nat} {v : Nat → Value} (h : OutB W O m v) : O < W.heap.size := by
 obtain ⟨cur, hh, _⟩ := h
 exact (Array.getElem?_eq_some_iff.1 hh).1
theorem OutB.ne {W : World} {O m base n : Nat} {v : Nat → Value} {u : Value} {xs : List Value} (h : OutB W O m v) (k : W.ownsRow base 42 9 u n xs) : u.ownBlock ≠ some O := by
 obtain ⟨cur, hh, _⟩ := h
 rcases k.2 with ⟨rfl, _⟩ | ⟨g, cap, cur', rfl, _, hg, _⟩
 ·simp [Value.ownBlock]
 ·intro e
  have : g = O := by simpa [Value.ownBlock] using e
  subst this
  rw [hg] at hh
  simp at hh
theorem OutB.kept {W W' : World} {O m : Nat} {v : Nat → Value} {row : Option Nat} (h : OutB W O m v) (hg : W.grownBy W' row) (hne : row ≠ some O) : OutB W' O m v := by
 have hlt := h.lt
 obtain ⟨cur, hh, hc⟩ := h
 exact ⟨cur, (hg.block O hlt (fun e => hne e.symm)).trans hh, hc⟩
theorem OutB.stays {W W' : World} {O m : Nat} {v : Nat → Value} (h : OutB W O m v) (hb : Below W.heap.size W W') : OutB W' O m v :=
 h.kept (row := none) ⟨hb.os, hb.tape, hb.output, hb.size, fun k hk _ => hb.block k hk⟩ (by simp)
def Lists (W : World) (base O m : Nat) (v : Nat → Value) (n : Nat → Nat) (f : Nat → List Value) : Prop :=
 OutB W O m v ∧ ∀ k, k < m → W.ownsRow base 42 9 (v k) (n k) (f k)
theorem Lists.stays {W W' : World} {base O m : Nat} {v : Nat → Value} {n : Nat → Nat} {f : Nat → List Value} (h : Lists W base O m v n f) (hb : Below W.heap.size W W') : Lists W' base O m v n f :=
 ⟨h.1.stays hb, fun k hk => own_stays (h.2 k hk) hb⟩
def Fm (n : Nat → Nat) (f0 : Nat → List Value) (i j k : Nat) : List Value := if k < i then sgs k (n k) else if k = i then sgs i j ++ (f0 i).drop (j * 9) else f0 k
theorem Lists.store {W : World} {base O m : Nat} {v : Nat → Value} {n : Nat → Nat} {f0 : Nat → List Value} {i j g cap : Nat} (h : Lists W base O m v n (Fm n f0 i j)) (hi : i < m) (hj : j < n i) (hlen : (f0 i).length = n i * 9)
 (hv : v i = .slice (some ⟨g, 0, none⟩) (n i) cap) (hd : ∀ a b, a < m → b < m → a ≠ b → (v a).ownBlock = none ∨ (v a).ownBlock ≠ (v b).ownBlock) :
 Lists (W.setCells g (j * 9) (one9 i)) base O m v n (Fm n f0 i (j + 1)) := by
 have hoi := h.2 i hi
 have hbi : (v i).ownBlock = some g := by rw [hv]; rfl
 have hoi' := hoi
 rw [hv] at hoi'
 obtain ⟨hst, hg⟩ := storedL (one9 i) _ (j * 9) hoi'
 refine ⟨h.1.kept hg (by have := h.1.ne hoi; rw [hbi] at this; exact this), fun k hk => ?_⟩
 by_cases hki : k = i
 ·subst hki
  have e : putL (Fm n f0 k j k) (j * 9) (one9 k) = Fm n f0 k (j + 1) k := by
   unfold Fm
   simp only [Nat.lt_irrefl, if_false, if_true]
   have := putL_at (sgs k j) (one9 k) ((f0 k).drop (j * 9)) (by rw [one9_len, List.length_drop, hlen]; omega)
   rw [sgs_len] at this
   rw [this, sgs_succ, one9_len, List.drop_drop]
   congr 2
   omega
  rw [e] at hst
  rw [hv]
  exact hst
 ·have e : Fm n f0 i (j + 1) k = Fm n f0 i j k := by
   unfold Fm
   by_cases h1 : k < i
   ·rw [if_pos h1, if_pos h1]
   ·rw [if_neg h1, if_neg h1, if_neg hki, if_neg hki]
  rw [e]
  refine own_kept (h.2 k hk) hg ?_
  rcases hd k i hk hi hki with h0 | h0
  ·exact Or.inr h0
  ·rw [hbi] at h0; exact Or.inl h0
theorem Fm_next {n : Nat → Nat} {f0 : Nat → List Value} {i : Nat} (hlen : (f0 i).length = n i * 9) (k : Nat) : Fm n f0 i (n i) k = Fm n f0 (i + 1) 0 k := by
 unfold Fm
 by_cases h1 : k < i
 ·rw [if_pos h1, if_pos (by omega)]
 ·rw [if_neg h1]
  by_cases h2 : k = i
  ·subst h2
   rw [if_pos rfl, if_pos (by omega), List.drop_of_length_le (by omega), List.append_nil]
  ·rw [if_neg h2, if_neg (by omega)]
   by_cases h3 : k = i + 1
   ·subst h3
    rw [if_pos rfl]
    simp [sgs, flat]
   ·rw [if_neg h3]
theorem own_form {W : World} {base n : Nat} {u : Value} {xs : List Value} (h : W.ownsRow base 42 9 u n xs) : ∃ ov cap, u = .slice ov n cap ∧ (0 < n → ∃ g, ov = some ⟨g, 0, none⟩) := by
 rcases h.2 with ⟨rfl, rfl⟩ | ⟨g, cap, _, rfl, _⟩
 ·exact ⟨none, 0, rfl, fun h => absurd h (Nat.lt_irrefl _)⟩
 ·exact ⟨_, cap, rfl, fun _ => ⟨g, rfl⟩⟩
theorem own_there {W : World} {base n g cap : Nat} {xs : List Value} (h : W.ownsRow base 42 9 (.slice (some ⟨g, 0, none⟩) n cap) n xs) (j : Nat) (hj : j < n) : W.there g (j * 9) 9 := fun r hr => by
 refine ⟨?_, h.frozenAt _⟩
 have hc := h.cellAt (j * 9 + r) (by omega)
 have hl : j * 9 + r < xs.length := by rw [h.1]; omega
 rw [List.getElem?_eq_getElem hl] at hc
 rw [hc]
 rfl
def Longs (W : World) (base : Nat) (n : Nat → Nat) (us : List Value) : Prop := ∀ k u, us[k]? = some u → W.ownsRow base 42 9 u (n k + 70) (sgs k (n k + 70))
theorem Longs.stays {W W' : World} {base : Nat} {n : Nat → Nat} {us : List Value} (h : Longs W base n us) (hb : Below W.heap.size W W') : Longs W' base n us := fun k u hk => own_stays (h k u hk) hb
theorem own_types {W : World} {base b26 n m : Nat} {a u : Value} {xs ys : List Value} (h : W.ownsRow b26 22 1 a n xs) (k : W.ownsRow base 42 9 u m ys) : a.ownBlock ≠ u.ownBlock ∨ a.ownBlock = none := by
 rcases h.2 with ⟨rfl, _⟩ | ⟨g, cap, cur, rfl, _, hg, _⟩
 ·exact Or.inr rfl
 ·rcases k.2 with ⟨rfl, _⟩ | ⟨g', cap', cur', rfl, _, hg', _⟩
  ·exact Or.inl (by simp [Value.ownBlock])
  ·refine Or.inl (fun e => ?_)
   have : g = g' := by simpa [Value.ownBlock] using e
   subst this
   rw [hg] at hg'
   simp at hg'
theorem sg_head {i k p q : Nat} (_hi : i < 256) (_hk : k < 256) (hne : i ≠ k) (hp : 0 < p) (hq : 0 < q) : (sgs i p)[6]? ≠ (sgs k q)[6]? := by
 have h1 := sgs_at i p 0 6 hp (by omega)
 have h2 := sgs_at k q 0 6 hq (by omega)
 rw [Nat.zero_mul, Nat.zero_add] at h1 h2
 rw [h1, h2]
 intro e
 have e' : some (Value.int .i64 (-10 - (i : Int))) = some (Value.int .i64 (-10 - (k : Int))) := e
 simp only [Option.some.injEq, Value.int.injEq, true_and] at e'
 omega
theorem more_step {W W' : World} {base b26 O m i q : Nat} {v : Nat → Value} {n : Nat → Nat} {us : List Value} {s5 u u' : Value} (hm : m ≤ 200) (hi : i < m)
 (hL : Lists W base O m v n (fun k => sgs k (n k))) (hz : ∀ k, k < m → n k = 0 → v k = .slice none 0 0) (hG : Longs W base n us) (hus : us.length = i) (h26 : W.ownsRow b26 22 1 s5 i us)
 (hu : W.ownsRow base 42 9 u q (sgs i q)) (hq : n i ≤ q) (hq0 : q = 0 → u = .slice none 0 0)
 (hu' : W'.ownsRow base 42 9 u' (q + 1) (sgs i (q + 1))) (hg : W.grownBy W' u.ownBlock)
 (hcase : (∃ g cap, u = .slice (some ⟨g, 0, none⟩) q cap ∧ u' = .slice (some ⟨g, 0, none⟩) (q + 1) cap) ∨ (u'.ownBlock = some W.heap.size ∧ Below W.heap.size W W')) :
 Lists W' base O m v n (fun k => sgs k (n k)) ∧ Longs W' base n us ∧ W'.ownsRow b26 22 1 s5 i us := by
 rcases hcase with ⟨g, cap, rfl, rfl⟩ | ⟨_, hb⟩
 ·have hq1 : 0 < q := by
   rcases Nat.eq_zero_or_pos q with h | h
   ·have := hq0 h; simp at this
   ·exact h
  refine ⟨⟨hL.1.kept hg (hL.1.ne hu), fun k hk => ?_⟩, fun k x hx => ?_, h26.kept hg ?_⟩
  ·by_cases hki : k = i
   ·subst hki
    rcases Nat.eq_zero_or_pos (n k) with h0 | h0
    ·show W'.ownsRow base 42 9 (v k) (n k) (sgs k (n k))
     rw [hz k hk h0, h0]
     exact World.ownsRow_nil _ _ _ _
    ·by_cases hbk : (v k).ownBlock = some g
     ·have hv := hL.2 k hk
      obtain ⟨ov, cp, hvk, hgx⟩ := own_form hv
      obtain ⟨g', rfl⟩ := hgx h0
      rw [hvk] at hv hbk ⊢
      have : g' = g := by simpa [Value.ownBlock] using hbk
      subst this
      have hc := own_cap (by omega) hv hu
      subst hc
      exact own_head hu' (by omega) (sgs_take k (q + 1) (n k) (by omega)) (sgs_len _ _)
     ·exact own_kept (hL.2 k hk) hg (Or.inl hbk)
   ·rcases Nat.eq_zero_or_pos (n k) with h0 | h0
    ·show W'.ownsRow base 42 9 (v k) (n k) (sgs k (n k))
     rw [hz k hk h0, h0]
     exact World.ownsRow_nil _ _ _ _
    ·exact own_kept (hL.2 k hk) hg (Or.inl (own_ne (r := 6) (hL.2 k hk) hu (by omega) (by omega) (sg_head (by omega) (by omega) hki h0 hq1)))
  ·have hkl : k < us.length := (List.getElem?_eq_some_iff.1 hx).1
   exact own_kept (hG k x hx) hg (Or.inl (own_ne (r := 6) (hG k x hx) hu (by omega) (by omega) (sg_head (by omega) (by omega) (by omega) (by omega) hq1)))
  ·rcases own_types h26 hu with h | h
   ·exact Or.inr h
   ·exact Or.inl h
 ·exact ⟨hL.stays hb, hG.stays hb, own_stays h26 hb⟩
theorem long_step {W W' : World} {base b26 O m c : Nat} {v : Nat → Value} {n : Nat → Nat} {us : List Value} {s5 u : Value} {q : Nat} {xs : List Value} (hL : Lists W base O m v n (fun k => sgs k (n k))) (hG : Longs W base n us) (h26 : W.ownsRow b26 22 1 s5 c us) (hO : O < b26)
 (hu : W.ownsRow base 42 9 u q xs) (hg : W.grownBy W' s5.ownBlock) : Lists W' base O m v n (fun k => sgs k (n k)) ∧ Longs W' base n us ∧ W'.ownsRow base 42 9 u q xs := by
 have hk : ∀ {x : Value} {p : Nat} {ys : List Value}, W.ownsRow base 42 9 x p ys → W'.ownsRow base 42 9 x p ys := by
  intro x p ys h
  refine own_kept h hg ?_
  rcases own_types h26 h with e | e
  ·exact Or.inl (Ne.symm e)
  ·rw [e]
   cases hx : x.ownBlock with
   | none => exact Or.inr rfl
   | some b => exact Or.inl (by simp)
 refine ⟨⟨hL.1.kept hg (fun e => ?_), fun k h => hk (hL.2 k h)⟩, fun k x hx => hk (hG k x hx), hk hu⟩
 have := (h26.lt O e).1
 omega
theorem Longs.push {W : World} {base : Nat} {n : Nat → Nat} {us : List Value} {u : Value} (h : Longs W base n us) (hu : W.ownsRow base 42 9 u (n us.length + 70) (sgs us.length (n us.length + 70))) : Longs W base n (us ++ [u]) := by
 intro k x hx
 by_cases hk : k < us.length
 ·rw [List.getElem?_append_left hk] at hx
  exact h k x hx
 ·rw [List.getElem?_append_right (by omega)] at hx
  have hk2 : k - us.length = 0 := by
   have := (List.getElem?_eq_some_iff.1 hx).1
   simp at this
   omega
  rw [hk2] at hx
  simp only [List.getElem?_cons_zero, Option.some.injEq] at hx
  subst hx
  have : k = us.length := by omega
  subst this
  exact hu
end Go.Proofs.YtekgnogjfggnmaaGreatDoor.ApN

namespace Go.Proofs.YtekgnogjfggnmaaGreatDoor.ApN
open Go.RowKit
set_option maxRecDepth 100000
set_option maxHeartbeats 4000000
theorem info22 : (Tryz.prog.info? 22).map (fun i => (i.zero, i.size, i.bytes)) = some (some (.slice none 0 0), 1, 24) := by kernel_rfl
theorem below_cells (w : World) (g : Nat) : ∀ (o : Nat) (vs : List Value) {base : Nat}, base ≤ g → Below base w (w.setCells g o vs)
 | o, [], base, _ => Below.refl _ _
 | o, v :: r, base, h => by
  have h1 : Below base w (w.setCell ⟨g, o, none⟩ v) := (Below.refl base w).setCell (p := ⟨g, o, none⟩) h v
  exact h1.trans (below_cells _ g (o + 1) r h)
theorem neq_same (x : Int) : ∀ w : World, (binOp BinOp.neq 42 (.agg #[.int .i64 0, .int .i64 0, .string ⟨#[]⟩, .string ⟨#[]⟩, .string ⟨#[]⟩, .int .i64 0, .int .i64 x, .string ⟨#[]⟩, .int .i64 0]) (.agg #[.int .i64 0, .int .i64 0, .string ⟨#[]⟩, .string ⟨#[]⟩, .string ⟨#[]⟩, .int .i64 0, .int .i64 x, .string ⟨#[]⟩, .int .i64 0])).run Tryz.prog w = .ok (.bool false) w := by
 intro w
 have h := neqA 0 0 0 ⟨#[]⟩ ⟨#[]⟩ ⟨#[]⟩ 0 x ⟨#[]⟩ 0 0 ⟨#[]⟩ ⟨#[]⟩ ⟨#[]⟩ 0 x ⟨#[]⟩ 0 w
 rw [h]
 simp only [alikeB, beq_self_eq_true, Bool.and_self, Bool.not_true]
theorem own_form26 {W : World} {base n : Nat} {u : Value} {xs : List Value} (h : W.ownsRow base 22 1 u n xs) : ∃ ov cap, u = .slice ov n cap ∧ (0 < n → ∃ g, ov = some ⟨g, 0, none⟩) := by
 rcases h.2 with ⟨rfl, rfl⟩ | ⟨g, cap, _, rfl, _⟩
 ·exact ⟨none, 0, rfl, fun h => absurd h (Nat.lt_irrefl _)⟩
 ·exact ⟨_, cap, rfl, fun _ => ⟨g, rfl⟩⟩
theorem apart_walk (w : World) (base O m : Nat) (v : Nat → Value) (n : Nat → Nat) (f0 : Nat → List Value) (hm : m ≤ 200) (hL : Lists w base O m v n f0) (hlen : ∀ k, k < m → (f0 k).length = n k * 9) (hz : ∀ k, k < m → n k = 0 → v k = .slice none 0 0)
 (hd : ∀ a b, a < m → b < m → a ≠ b → (v a).ownBlock = none ∨ (v a).ownBlock ≠ (v b).ownBlock) (hn : ∀ k, k < m → n k ≤ 1353245080300) (hbase : base ≤ w.heap.size) :
 Calls Tryz.prog 15 #[.slice (some ⟨O, 0, none⟩) m m] w fun e w' => e = .returned (.bool true) ∧ Below base w w' := by
 have HL : Hid (Lists w base O m v n f0) := hL
 have HLen : Hid (∀ k, k < m → (f0 k).length = n k * 9) := hlen
 have HZ : Hid (∀ k, k < m → n k = 0 → v k = .slice none 0 0) := hz
 have HD : Hid (∀ a b, a < m → b < m → a ≠ b → (v a).ownBlock = none ∨ (v a).ownBlock ≠ (v b).ownBlock) := hd
 have HN : Hid (∀ k, k < m → n k ≤ 1353245080300) := hn
 have HO0 := hL.1.lt
 clear hL hlen hz hd hn
 obtain ⟨i9, hi9, hz9, hs9, hb9⟩ := info_parts info36
 obtain ⟨i26, hi26, hz26, hs26, hb26⟩ := info_parts info22
 go_enter Tryz.func15, Tryz.ntmps15
 go_wp2
 go_loopw [3] (fun s3 wr => ∃ i : Nat, i ≤ m ∧ s3 = .int .i64 (i : Int) ∧ Hid (Lists wr base O m v n (Fm n f0 i 0)) ∧ Below base w wr) (fun s3 _ => m - (intOf s3).toNat)
 case atStart =>
  refine ⟨0, Nat.zero_le _, rfl, ?_, Below.refl _ _⟩
  refine ⟨HL.out.1, fun k hk => ?_⟩
  have e : Fm n f0 0 0 k = f0 k := by
   unfold Fm
   rw [if_neg (Nat.not_lt_zero _)]
   by_cases h0 : k = 0
   ·subst h0; simp [sgs, flat]
   ·rw [if_neg h0]
  rw [e]
  exact HL.out.2 k hk
 case round =>
  obtain ⟨i, hi, rfl, hS, hB⟩ := hrel
  by_cases hlt : i < m
  ·have hni := HN.out i hlt
   have hlt1 : (i : Int) < (m : Int) := by omega
   have ho := hS.out.1.cell i hlt
   obtain ⟨ov, cap, hvi, hg0⟩ := own_form (hS.out.2 i hlt)
   have HV : Hid (v i = .slice ov (n i) cap) := hvi
   rw [hvi] at ho
   clear hvi ho
   obtain ⟨q, hq⟩ : ∃ q, n i = q := ⟨_, rfl⟩
   have HQ : Hid (n i = q) := hq
   rw [hq] at hni hg0 HV
   clear hq
   go_wp2_with fail
   go_loopw [4] (fun s4 wr => ∃ j : Nat, j ≤ q ∧ s4 = .int .i64 (j : Int) ∧ Hid (Lists wr base O m v n (Fm n f0 i j)) ∧ Below base w wr) (fun s4 _ => q - (intOf s4).toNat)
   case atStart => exact ⟨0, Nat.zero_le _, rfl, hS, hB⟩
   case round =>
    clear hS hB
    obtain ⟨j, hj, rfl, hT, hC⟩ := hrel
    have ho := hT.out.1.cell i hlt
    rw [HV.out] at ho
    by_cases hjq : j < q
    ·obtain ⟨g, rfl⟩ := hg0 (by omega)
     clear hg0
     have hoi := hT.out.2 i hlt
     rw [HV.out, HQ.out] at hoi
     have TH : Hid (wr.there g (j * 9) 9) := own_there hoi j hjq
     have hO := hT.out.1.lt
     have hgl := (hoi.lt g rfl).2
     have hgb := (hoi.lt g rfl).1
     have hCs : base ≤ wr.heap.size := Nat.le_trans hbase hC.size
     have hjq1 : (j : Int) < (q : Int) := by omega
     clear hoi
     have hwr : IntKind.i64.wrap (-10 - (i : Int)) = -10 - (i : Int) := by rw [IntKind.wrap_i64]; omega
     have hT1 : Hid (Lists (wr.setCells g (j * 9) (one9 i)) base O m v n (Fm n f0 i (j + 1))) := hT.out.store hlt (by rw [HQ.out]; exact hjq) (HLen.out i hlt) (by rw [HQ.out]; exact HV.out) HD.out
     have hbg : base ≤ g := hgb
     have hC1 : Below base w (wr.setCells g (j * 9) (one9 i)) := hC.trans (below_cells wr g (j * 9) (one9 i) hbg)
     have HW : Hid (∀ wz, wr.setCells g (j * 9) (ndV (mkN i)).toList = wz → Lists wz base O m v n (Fm n f0 i (j + 1)) ∧ Below base w wz) := fun wz e => by rw [← e]; exact ⟨hT1.out, hC1⟩
     obtain ⟨wz, hwz⟩ : ∃ wz, wr.setCells g (j * 9) (ndV (mkN i)).toList = wz := ⟨_, rfl⟩
     have HWZ := HW.out wz hwz
     have HWE : Hid (wr.setCells g (j * 9) (ndV (mkN i)).toList = wz) := hwz
     have hT2 : Hid (Lists wz base O m v n (Fm n f0 i (j + 1))) := HWZ.1
     have hC2 : Below base w wz := HWZ.2
     have H1C : Hid ((ndV (mkN i)).all (·.oneCell') = true) := all_oneCell_toArray (one9_one i)
     clear hT1 hC1 HW HWZ hwz
     clear hT
     go_wp2_with (first
      | (refine wpList_store_mid (by rfl) 42 (.tmp 34) (.tmp 33) (by rfl) g (j * 9) (ndV (mkN i)) (by rfl) (by rfl) TH.out size36 H1C.out ?_; rw [HWE.out])
      | fail)
     go_roundw
     case rel => exact ⟨j + 1, by omega, by go_num, hT2, hC2⟩
     case measure => simp [intOf]; omega
    ·have hj2 : j = q := by omega
     subst hj2
     have hT2 : Lists wr base O m v n (Fm n f0 (i + 1) 0) := ⟨hT.out.1, fun k hk => by
      have h := hT.out.2 k hk
      have e := Fm_next (f0 := f0) (HLen.out i hlt) k
      rw [HQ.out] at e
      rw [e] at h
      exact h⟩
     have HT2 : Hid (Lists wr base O m v n (Fm n f0 (i + 1) 0)) := hT2
     clear hT2
     go_wp2
     go_roundw
     case rel => exact ⟨i + 1, by omega, by go_num, HT2, hC⟩
     case measure => simp [intOf]; omega
  ·have hi2 : i = m := by omega
   subst hi2
   have hL2 : Lists wr base O i v n (fun k => sgs k (n k)) := ⟨hS.out.1, fun k hk => by
    have h := hS.out.2 k hk
    have e : Fm n f0 i 0 k = sgs k (n k) := if_pos hk
    rw [e] at h
    exact h⟩
   have HL2 : Hid (Lists wr base O i v n (fun k => sgs k (n k))) := hL2
   clear hL2 hS HL HD HLen
   go_wp2_with fail
   go_loopw [5, 6] (fun s5 s6 wr => ∃ (c : Nat) (us : List Value), c ≤ i ∧ us.length = c ∧ s6 = .int .i64 (c : Int) ∧ Hid (wr.ownsRow w.heap.size 22 1 s5 c us) ∧ Hid (Lists wr base O i v n (fun k => sgs k (n k))) ∧ Hid (Longs wr base n us) ∧ Below base w wr) (fun _ s6 _ => i - (intOf s6).toNat)
   case atStart => exact ⟨0, [], Nat.zero_le _, rfl, rfl, World.ownsRow_nil _ _ _ _, HL2, fun k u h => by simp at h, hB⟩
   case round =>
    clear hB HL2 hlt
    obtain ⟨c, us, hc, hus, rfl, h26, hL, hG, hB⟩ := hrel
    have HUS : Hid (us.length = c) := hus
    clear hus
    by_cases hci : c < i
    ·have hnc := HN.out c hci
     have hci1 : (c : Int) < (i : Int) := by omega
     have ho := hL.out.1.cell c hci
     have how := hL.out.2 c hci
     have HOW : Hid (wr.ownsRow base 42 9 (v c) (n c) (sgs c (n c))) := how
     obtain ⟨ov, cap, hvc, _⟩ := own_form how
     have HV : Hid (v c = .slice ov (n c) cap) := hvc
     rw [hvc] at ho
     obtain ⟨q, hq⟩ : ∃ q, n c = q := ⟨_, rfl⟩
     have HQ : Hid (n c = q) := hq
     have HZ2 : Hid (q = 0 → v c = .slice none 0 0) := fun h => HZ.out c hci (hq.trans h)
     rw [hq] at hnc ho HV HOW
     clear hvc how hq
     go_wp2_with fail
     go_loopw [7, 8] (fun s7 s8 wr => ∃ (t : Nat) (u : Value), t ≤ 70 ∧ s7 = u ∧ s8 = .int .i64 (t : Int) ∧ Hid (wr.ownsRow base 42 9 u (q + t) (sgs c (q + t))) ∧ Hid (q + t = 0 → u = .slice none 0 0) ∧ Hid (wr.ownsRow w.heap.size 22 1 u5 c us) ∧ Hid (Lists wr base O i v n (fun k => sgs k (n k))) ∧ Hid (Longs wr base n us) ∧ Below base w wr) (fun _ s8 _ => 70 - (intOf s8).toNat)
     case atStart => exact ⟨0, _, by omega, rfl, rfl, by rw [← HV.out]; exact HOW, fun h => by rw [← HV.out]; exact HZ2.out h, h26, hL, hG, hB⟩
     case round =>
      clear h26 hL hG hB HOW
      obtain ⟨t, u, ht, rfl, rfl, hu, hu0, h26, hL, hG, hB⟩ := hrel
      have ho := hL.out.1.cell c hci
      rw [HV.out] at ho
      by_cases h70 : t < 70
      ·have hO := hL.out.1.lt
       have hBs := hB.size
       have hwr : IntKind.i64.wrap (-10 - (c : Int)) = -10 - (c : Int) := by rw [IntKind.wrap_i64]; omega
       have hal : Below wr.heap.size wr (wr.alloc (.cells (ndV (mkN c)) 42)) := (Below.refl _ wr).alloc (Nat.le_refl _) _
       obtain ⟨u', w2, hrun, hown2, hgr2, hcs⟩ := app_one (P := Tryz.prog) (w := wr.alloc (.cells (ndV (mkN c)) 42)) (base := base) 22 22 i9 _ 104 Tryz.underlying22 hi9 hz9 hs9 hb9 rfl (by decide) u7 (q + t) (sgs c (q + t)) (hu.out.alloc _) ⟨wr.heap.size, 0, none⟩ 1 (one9 c) (one9_len c) (World.news_of_block (heap_alloc_new wr _)) (one9_one c) (by unfold maxLen; omega) (by omega) (by simp; omega)
       rw [← sgs_succ] at hown2
       have hst := more_step (by omega) hci (hL.out.stays hal) HZ.out (hG.out.stays hal) HUS.out (own_stays h26.out hal) (hu.out.alloc _) (by rw [HQ.out]; omega) hu0.out hown2 hgr2 hcs
       have HS1 : Hid (Lists w2 base O i v n (fun k => sgs k (n k))) := hst.1
       have HS2 : Hid (Longs w2 base n us) := hst.2.1
       have HS3 : Hid (w2.ownsRow w.heap.size 22 1 u5 c us) := hst.2.2
       have HS4 : Hid (w2.ownsRow base 42 9 u' (q + t + 1) (sgs c (q + t + 1))) := hown2
       have hB2 : Below base w w2 := (hB.alloc (by omega) (.cells (ndV (mkN c)) 42)).grown hgr2 (by simp; omega) (fun k e => (hu.out.lt k e).1)
       have HR : Hid ((Builtin.append_ #[22, 22] 22 #[u7, .slice (some ⟨wr.heap.size, 0, none⟩) 1 1]).run Tryz.prog (wr.alloc (.cells (ndV (mkN c)) 42)) = .ok u' w2) := hrun
       clear hst hcs hgr2 hown2 hal hrun
       unfold ndV mkN at HR
       go_wp2_with (at_builtin; refine wpList_app rfl (.tmp 49) (.tmp 53) 22 rfl HR.out ?_)
       go_roundw
       case rel => exact ⟨t + 1, u', by omega, rfl, by go_num, HS4, fun h => by omega, HS3, HS1, HS2, hB2⟩
       case measure => simp [intOf]; omega
      ·have ht2 : t = 70 := by omega
       subst ht2
       obtain ⟨ov7, cap7, hu7, hg7⟩ := own_form hu.out
       subst hu7
       have hBs := hB.size
       have hal : Below wr.heap.size wr (wr.alloc (.cells #[.slice ov7 (q + 70) cap7] 22)) := (Below.refl _ wr).alloc (Nat.le_refl _) _
       obtain ⟨u', w2, hrun, hown2, hgr2, hcs⟩ := app_one (P := Tryz.prog) (w := wr.alloc (.cells #[.slice ov7 (q + 70) cap7] 22)) (base := w.heap.size) 43 43 i26 (.slice none 0 0) 24 Tryz.underlying43 hi26 hz26 hs26 hb26 rfl (by decide) u5 c us (h26.out.alloc _) ⟨wr.heap.size, 0, none⟩ 1 [.slice ov7 (q + 70) cap7] rfl (World.news_of_block (heap_alloc_new wr _)) (by intro x hx; rw [List.mem_singleton.1 hx]; rfl) (by unfold maxLen; omega) (by omega) (by simp; omega)
       have hst := long_step (hL.out.stays hal) (hG.out.stays hal) (h26.out.alloc _) HO0 (hu.out.alloc _) hgr2
       have hus := HUS.out
       have HS1 : Hid (Lists w2 base O i v n (fun k => sgs k (n k))) := hst.1
       have HS2 : Hid (Longs w2 base n (us ++ [.slice ov7 (q + 70) cap7])) := hst.2.1.push (by rw [hus, HQ.out]; exact hst.2.2)
       have HS3 : Hid (w2.ownsRow w.heap.size 22 1 u' (c + 1) (us ++ [.slice ov7 (q + 70) cap7])) := hown2
       have hB2 : Below base w w2 := (hB.alloc (by omega) (.cells #[.slice ov7 (q + 70) cap7] 22)).grown hgr2 (by simp; omega) (fun k e => Nat.le_trans hbase (h26.out.lt k e).1)
       have HUS2 : Hid ((us ++ [Value.slice ov7 (q + 70) cap7]).length = c + 1) := by show (us ++ [Value.slice ov7 (q + 70) cap7]).length = c + 1; rw [List.length_append, hus]; rfl
       have HR : Hid ((Builtin.append_ #[43, 43] 43 #[u5, .slice (some ⟨wr.heap.size, 0, none⟩) 1 1]).run Tryz.prog (wr.alloc (.cells #[.slice ov7 (q + 70) cap7] 22)) = .ok u' w2) := hrun
       clear hst hcs hgr2 hown2 hal hrun hus hg7 ho
       go_wp2_with (at_builtin; refine wpList_app rfl (.tmp 55) (.tmp 57) 43 rfl HR.out ?_)
       go_roundw
       case rel => exact ⟨c + 1, us ++ [.slice ov7 (q + 70) cap7], by omega, HUS2.out, by go_num, HS3, HS1, HS2, hB2⟩
       case measure => simp [intOf]; omega
    ·have hc2 : c = i := by omega
     subst hc2
     obtain ⟨o5, cap5, hu5, hg5⟩ := own_form26 h26.out
     subst hu5
     go_wp2_with fail
     go_loopw [9] (fun s9 wr => ∃ d : Nat, d ≤ c ∧ s9 = .int .i64 (d : Int) ∧ Hid (wr.ownsRow w.heap.size 22 1 (.slice o5 c cap5) c us) ∧ Hid (Lists wr base O c v n (fun k => sgs k (n k))) ∧ Hid (Longs wr base n us) ∧ Below base w wr) (fun s9 _ => c - (intOf s9).toNat)
     case atStart => exact ⟨0, Nat.zero_le _, rfl, h26, hL, hG, hB⟩
     case round =>
      clear h26 hL hG hB
      obtain ⟨d, hd, rfl, h26, hL, hG, hB⟩ := hrel
      by_cases hdc : d < c
      ·obtain ⟨h5, rfl⟩ := hg5 (by omega)
       clear hg5
       have hdc1 : (d : Int) < (c : Int) := by omega
       have hnd := HN.out d hdc
       have hdl : d < us.length := by rw [HUS.out]; exact hdc
       obtain ⟨x, hx⟩ : ∃ x, us[d]? = some x := ⟨_, List.getElem?_eq_getElem hdl⟩
       obtain ⟨ox, capx, hxf, hgx⟩ := own_form (hG.out d x hx)
       obtain ⟨gx, rfl⟩ := hgx (by omega)
       subst hxf
       have HX : Hid (us[d]? = some (.slice (some ⟨gx, 0, none⟩) (n d + 70) capx)) := hx
       obtain ⟨ov, cap, hvd, hgd⟩ := own_form (hL.out.2 d hdc)
       have HV : Hid (v d = .slice ov (n d) cap) := hvd
       obtain ⟨q, hq⟩ : ∃ q, n d = q := ⟨_, rfl⟩
       have HQ : Hid (n d = q) := hq
       rw [hq] at hnd HX HV hgd
       clear hx hgx hvd hq hdl
       have c5 : wr.cell? ⟨h5, d, none⟩ = some (.slice (some ⟨gx, 0, none⟩) (q + 70) capx) := (h26.out.cellAt d (by omega)).trans HX.out
       go_wp2_with fail
       go_loopw [10] (fun s10 wr => ∃ j : Nat, j ≤ q + 70 ∧ s10 = .int .i64 (j : Int) ∧ Hid (wr.ownsRow w.heap.size 22 1 (.slice (some ⟨h5, 0, none⟩) c cap5) c us) ∧ Hid (Lists wr base O c v n (fun k => sgs k (n k))) ∧ Hid (Longs wr base n us) ∧ Below base w wr) (fun s10 _ => q + 70 - (intOf s10).toNat)
       case atStart => exact ⟨0, Nat.zero_le _, rfl, h26, hL, hG, hB⟩
       case round =>
        clear h26 hL hG hB c5
        obtain ⟨j, hj, rfl, h26, hL, hG, hB⟩ := hrel
        have c5 : wr.cell? ⟨h5, d, none⟩ = some (.slice (some ⟨gx, 0, none⟩) (q + 70) capx) := (h26.out.cellAt d (by omega)).trans HX.out
        by_cases hjq : j < q + 70
        ·have hjq1 : (j : Int) < (q : Int) + 70 := by omega
         have ho := hL.out.1.cell d hdc
         rw [HV.out] at ho
         have hgo := hG.out d _ HX.out
         rw [HQ.out] at hgo
         have hcx : ∀ r (hr : r < 9), wr.cell? ⟨gx, j * 9 + r, none⟩ = (one9 d)[r]? := fun r hr => (hgo.cellAt (j * 9 + r) (by omega)).trans (sgs_at d (q + 70) j r hjq hr)
         have cx0 : wr.cell? ⟨gx, j * 9, none⟩ = some (.int .i64 0) := hcx 0 (by omega)
         have cx1 : wr.cell? ⟨gx, j * 9 + 1, none⟩ = some (.int .i64 0) := hcx 1 (by omega)
         have cx2 : wr.cell? ⟨gx, j * 9 + 2, none⟩ = some (.string ⟨#[]⟩) := hcx 2 (by omega)
         have cx3 : wr.cell? ⟨gx, j * 9 + 3, none⟩ = some (.string ⟨#[]⟩) := hcx 3 (by omega)
         have cx4 : wr.cell? ⟨gx, j * 9 + 4, none⟩ = some (.string ⟨#[]⟩) := hcx 4 (by omega)
         have cx5 : wr.cell? ⟨gx, j * 9 + 5, none⟩ = some (.int .i64 0) := hcx 5 (by omega)
         have cx6 : wr.cell? ⟨gx, j * 9 + 6, none⟩ = some (.int .i64 (-10 - (d : Int))) := hcx 6 (by omega)
         have cx7 : wr.cell? ⟨gx, j * 9 + 7, none⟩ = some (.string ⟨#[]⟩) := hcx 7 (by omega)
         have cx8 : wr.cell? ⟨gx, j * 9 + 8, none⟩ = some (.int .i64 0) := hcx 8 (by omega)
         clear hcx
         have hneq := neq_same (-10 - (d : Int))
         have hwr : IntKind.i64.wrap (-10 - (d : Int)) = -10 - (d : Int) := by rw [IntKind.wrap_i64]; omega
         by_cases hjn : j < q
         ·obtain ⟨g, rfl⟩ := hgd (by omega)
          have hv := hL.out.2 d hdc
          rw [HV.out, HQ.out] at hv
          have hcg : ∀ r (hr : r < 9), wr.cell? ⟨g, j * 9 + r, none⟩ = (one9 d)[r]? := fun r hr => (hv.cellAt (j * 9 + r) (by omega)).trans (by show (sgs d (n d))[j * 9 + r]? = _; rw [HQ.out]; exact sgs_at d q j r hjn hr)
          have cg0 : wr.cell? ⟨g, j * 9, none⟩ = some (.int .i64 0) := hcg 0 (by omega)
          have cg1 : wr.cell? ⟨g, j * 9 + 1, none⟩ = some (.int .i64 0) := hcg 1 (by omega)
          have cg2 : wr.cell? ⟨g, j * 9 + 2, none⟩ = some (.string ⟨#[]⟩) := hcg 2 (by omega)
          have cg3 : wr.cell? ⟨g, j * 9 + 3, none⟩ = some (.string ⟨#[]⟩) := hcg 3 (by omega)
          have cg4 : wr.cell? ⟨g, j * 9 + 4, none⟩ = some (.string ⟨#[]⟩) := hcg 4 (by omega)
          have cg5 : wr.cell? ⟨g, j * 9 + 5, none⟩ = some (.int .i64 0) := hcg 5 (by omega)
          have cg6 : wr.cell? ⟨g, j * 9 + 6, none⟩ = some (.int .i64 (-10 - (d : Int))) := hcg 6 (by omega)
          have cg7 : wr.cell? ⟨g, j * 9 + 7, none⟩ = some (.string ⟨#[]⟩) := hcg 7 (by omega)
          have cg8 : wr.cell? ⟨g, j * 9 + 8, none⟩ = some (.int .i64 0) := hcg 8 (by omega)
          clear hcg
          have hjn1 : (j : Int) < (q : Int) := by omega
          clear hv hgd hgo
          go_wp2
          go_roundw
          case rel => exact ⟨j + 1, by omega, by go_num, h26, hL, hG, hB⟩
          case measure => simp [intOf]; omega
         ·have hjn1 : ¬ (j : Int) < (q : Int) := by omega
          clear hgd hgo
          go_wp2
          go_roundw
          case rel => exact ⟨j + 1, by omega, by go_num, h26, hL, hG, hB⟩
          case measure => simp [intOf]; omega
        ·have hj2 : j = q + 70 := by omega
         subst hj2
         go_wp2
         go_roundw
         case rel => exact ⟨d + 1, by omega, by go_num, h26, hL, hG, hB⟩
         case measure => simp [intOf]; omega
      ·go_wp2
       go_ret
       exact ⟨rfl, hB⟩
end Go.Proofs.YtekgnogjfggnmaaGreatDoor.ApN
