import Derived.Test.YtekgnogjfggnmaaDoorSpine
namespace Go.Proofs.YtekgnogjfggnmaaDoor
open Go.RowKit

/-- What Spine answers. -/
def SpineOk (L : List Nd) (N : Int) (l : List Nat) : Prop := if hasS L N then Way L l N.toNat else l = []

set_option maxRecDepth 100000 in
set_option maxHeartbeats 1000000 in
theorem spine_any (w : World) (p : Option Addr) (n cap : Nat) (L : List Nd) (N : Int) (h : Reads w p n L) (hk : KwAt w) :
    Calls Tryd.prog 14 #[.agg #[.slice p n cap], .int .i64 N] w fun e W' => (∃ v l, e = .returned v ∧ Hid (W'.ownsRow w.heap.size 3 1 v l.length (iv (nI l))) ∧ Hid (SpineOk L N l)) ∧ Below w.heap.size w W' := by
  cases hh : hasS L N with
  | false =>
    obtain ⟨w1, hw1⟩ : ∃ w1, (w.alloc (.cells #[.slice p n cap] 24)).alloc (.cells #[.int .i64 N] 3) = w1 := ⟨_, rfl⟩
    have z1 : w1.heap.size = w.heap.size + 2 := by rw [← hw1]; simp
    have b1 : Below w.heap.size w w1 := by rw [← hw1]; exact ((Below.refl _ w).alloc (Nat.le_refl _) _).alloc (by simp) _
    have c1 : w1.cell? ⟨w.heap.size, 0, none⟩ = some (.slice p n cap) := by rw [← hw1]; exact cell_old _ (cell_new _ _ _ _ _ rfl)
    have c2 : w1.cell? ⟨w.heap.size + 1, 0, none⟩ = some (.int .i64 N) := by rw [← hw1]; exact new_cells _ _ _ _ _ _ (by simp) rfl
    have B1 : Hid (Below w.heap.size w w1) := b1
    have H : Hid (Calls Tryd.prog 33 #[.agg #[.slice p n cap], .int .i64 N] w1 fun e w' => e = .returned (.bool (hasS L N)) ∧ Below w1.heap.size w1 w') := hasNode_any w1 p n cap L N (h.next b1) (hk.next b1)
    have HK : Hid (SpineOk L N []) := by show SpineOk _ _ _; unfold SpineOk; rw [hh]; rfl
    rw [hh] at H
    clear hh h hk b1
    go_enter Tryd.func14, Tryd.ntmps14
    go_wp2_with (first
      | (go_at_call 33; refine H.out.mono ?_; rintro e w2 ⟨rfl, hb2⟩)
      | go_in)
    go_ret
    exact ⟨⟨_, [], rfl, World.ownsRow_nil _ _ _ _, HK⟩, B1.out.trans (hb2.mono B1.out.size)⟩
  | true =>
    obtain ⟨k, rfl, hkl, ht⟩ := has_tree hh
    obtain ⟨hf, hlen, hrd⟩ := h
    obtain ⟨g, o, rfl, hl⟩ := hrd (fun e => by rw [e] at hkl; simp at hkl)
    subst hlen
    refine (spine_yes w g o cap L k hf.len hkl (tr_of ht) hl fun w1 hb => ?_).mono ?_
    · have := hasNode_any w1 (some ⟨g, o, none⟩) L.length cap L (k : Int) ⟨hf, rfl, fun _ => ⟨g, o, rfl, hl.next hb⟩⟩ (hk.next hb)
      rw [hh] at this
      exact this
    · rintro e W' ⟨⟨v, l, e1, e2, e3⟩, hb⟩
      exact ⟨⟨v, l, e1, e2, by show SpineOk _ _ _; unfold SpineOk; rw [hh, Int.toNat_natCast]; exact e3.out⟩, hb⟩

end Go.Proofs.YtekgnogjfggnmaaDoor
