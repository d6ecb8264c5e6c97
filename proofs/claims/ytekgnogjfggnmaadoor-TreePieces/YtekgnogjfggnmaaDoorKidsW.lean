import Derived.Test.YtekgnogjfggnmaaDoorKids
namespace Go.Proofs.YtekgnogjfggnmaaDoor
open Go.RowKit

theorem own_base {w : World} {b b' : Nat} {e : TypeId} {size : Nat} {v : Value} {n : Nat} {xs : List Value} (h : w.ownsRow b e size v n xs) (hb : b' ≤ b) : w.ownsRow b' e size v n xs := by
  refine ⟨h.1, ?_⟩
  rcases h.2 with h | ⟨g, cap, cur, hv, hbg, rest⟩
  · exact Or.inl h
  · exact Or.inr ⟨g, cap, cur, hv, Nat.le_trans hb hbg, rest⟩

/-- The kids that Kids answers. -/
def kidsA (L : List Nd) (N : Int) : List Nat := if hasS L N then kidsN L N.toNat else []

set_option maxHeartbeats 400000 in
theorem collect_any (w : World) (B g o cap n : Nat) (L : List Nd) (hL : L.length ≤ 1353245080300) (hn : n < L.length) (hT : Tr L) (h : KKeep B g o cap n L w) (hB : B + 1 < w.heap.size) :
    Calls Tryd.prog 34 #[.func (.func 53) #[] #[.pointer (some ⟨B + 1, 0, none⟩), .pointer (some ⟨B, 0, none⟩)]] w fun e W' => (∃ v, e = .returned v ∧ Hid (W'.ownsRow w.heap.size 3 1 v (kidsN L n).length (iv (nI (kidsN L n))))) ∧ Below w.heap.size w W' := by
  have H : Hid (Calls Tryd.prog 52 #[.slice none 0 0, .func (.func 53) #[] #[.pointer (some ⟨B + 1, 0, none⟩), .pointer (some ⟨B, 0, none⟩)]] w fun e W' => (∃ v, e = .returned v ∧ Hid (W'.ownsRow w.heap.size 3 1 v (kidsN L n).length (iv (nI (kidsN L n))))) ∧ Below w.heap.size w W') := appendSeq_any w B g o cap n L hL hn hT h hB
  clear h hT
  go_enter Tryd.func34, Tryd.ntmps34
  go_wp2_with (first
    | (go_at_call 52; refine H.out.mono ?_; rintro e w2 ⟨⟨v, rfl, hv⟩, hb2⟩)
    | go_in)
  go_ret
  exact ⟨⟨v, rfl, hv⟩, hb2⟩

set_option maxRecDepth 100000 in
set_option maxHeartbeats 1000000 in
theorem kids_any (w : World) (p : Option Addr) (n cap : Nat) (L : List Nd) (N : Int) (h : Reads w p n L) (hk : KwAt w) :
    Calls Tryd.prog 13 #[.agg #[.slice p n cap], .int .i64 N] w fun e W' => (∃ v, e = .returned v ∧ Hid (W'.ownsRow w.heap.size 3 1 v (kidsA L N).length (iv (nI (kidsA L N))))) ∧ Below w.heap.size w W' := by
  obtain ⟨w1, hw1⟩ : ∃ w1, w.alloc (.cells #[.slice p n cap] 24) = w1 := ⟨_, rfl⟩
  have B1 : Hid (Below w.heap.size w w1) := by rw [← hw1]; exact (Below.refl _ w).alloc (Nat.le_refl _) _
  have z1 : w.heap.size < w1.heap.size := by rw [← hw1]; simp
  have c1 : w1.cell? ⟨w.heap.size, 0, none⟩ = some (.slice p n cap) := by rw [← hw1]; exact cell_new _ _ _ _ _ rfl
  have RD : Hid (Reads w1 p n L) := h.next B1.out
  have H : Hid (Calls Tryd.prog 33 #[.agg #[.slice p n cap], .int .i64 N] w1 fun e w' => e = .returned (.bool (hasS L N)) ∧ Below w1.heap.size w1 w') := hasNode_any w1 p n cap L N RD.out (hk.next B1.out)
  clear h hk
  cases hh : hasS L N with
  | false =>
    have HK : Hid (kidsA L N = []) := by show _ = _; unfold kidsA; rw [hh]; rfl
    rw [hh] at H
    clear hh
    go_enter Tryd.func13, Tryd.ntmps13
    go_wp2_with (first
      | (go_at_call 33; refine H.out.mono ?_; rintro e w2 ⟨rfl, hb2⟩)
      | go_in)
    go_ret
    exact ⟨⟨_, rfl, by show World.ownsRow _ _ _ _ _ _ _; rw [HK.out]; exact World.ownsRow_nil _ _ _ _⟩, B1.out.trans (hb2.mono B1.out.size)⟩
  | true =>
    obtain ⟨k, rfl, hkl, ht⟩ := has_tree hh
    have HK : Hid (kidsA L (k : Int) = kidsN L k) := by show _ = _; unfold kidsA; rw [hh, Int.toNat_natCast]; rfl
    rw [hh] at H
    have HT : Hid (Tr L) := tr_of ht
    obtain ⟨hf, hlen, hrd⟩ := RD.out
    have hLb := hf.len
    obtain ⟨g, o, rfl, hl⟩ := hrd (fun e => by rw [e] at hkl; simp at hkl)
    subst hlen
    have HL : Hid (Lay w1 g o L) := hl
    clear hl ht hh hrd
    go_enter Tryd.func13, Tryd.ntmps13
    go_wp2_with (first
      | (go_at_call 33; refine H.out.mono ?_; rintro e w2 ⟨rfl, hb2⟩; have c2 := (hb2.cell (p := ⟨w.heap.size, 0, none⟩) z1).trans c1)
      | (go_at_call 35; refine (kidsOf_any _ _ _ _ _).mono ?_; rintro e w3 ⟨rfl, hw3⟩; have b3 : Below w2.heap.size w2 w3 := (by rw [hw3]; exact ((Below.refl _ w2).alloc (Nat.le_refl _) _).alloc (by simp) _); have kk : Hid (KKeep w2.heap.size g o cap k L w3) := (by rw [hw3]; rw [hw3] at b3; exact ⟨(HL.out.next hb2).next b3, cell_old _ (cell_new _ _ _ _ _ rfl), new_cells _ _ _ _ _ _ (by simp) rfl⟩); have z3 : w2.heap.size + 1 < w3.heap.size := (by rw [hw3]; simp); clear hw3)
      | (go_at_call 34; refine (collect_any w3 w2.heap.size g o cap k L hLb hkl HT.out kk.out z3).mono ?_; rintro e w4 ⟨⟨v, rfl, hv⟩, hb4⟩)
      | go_in)
    go_ret
    have hz : w.heap.size ≤ w3.heap.size := by have := hb2.size; omega
    refine ⟨⟨v, rfl, ?_⟩, ((B1.out.trans (hb2.mono B1.out.size)).trans (b3.mono (by have := hb2.size; omega))).trans (hb4.mono hz)⟩
    show World.ownsRow _ _ _ _ _ _ _
    rw [HK.out]
    exact own_base hv.out hz

end Go.Proofs.YtekgnogjfggnmaaDoor
