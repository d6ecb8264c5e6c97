import Derived.Test.YtdcaonfnhdjibaaDoorVK1
import Derived.Test.YtdcaonfnhdjibaaDoorVPh
import Derived.Deep.RegionHeld3
namespace Go.Proofs.YtdcaonfnhdjibaaDoor
open Go.RowKit

/-! The document's look. -/
theorem RkM.fz {W : World} {g : Nat} {K : Kn} {Lk : List Bool} {R : List Rk} (h : RkM W g K Lk R) (j t : Nat) (hj : j < R.length) (ht : t < 3) : W.frozen? ⟨g, j * 3 + t, none⟩ = false := by
  have hlt : j * 3 + t < (R.flatMap rc).length := by rw [flat_lenF rc 3 (fun _ => rfl)]; omega
  exact (h.fl.cell (j * 3 + t) _ (List.getElem?_eq_getElem hlt)).2
def LkP (D : Nat) (w w' : World) (g n : Nat) (Lk : List Bool) (z : Ending) : Except Int Vst → Prop
  | .error k => z = .returned (.int .i64 k) ∧ Below D w w'
  | .ok st' => z = .returned (.int .i64 0) ∧ Below D w w' ∧ ∃ R', RkM w' g st'.1 Lk R' ∧ R'.length = n
/-- A follower's turn, told by what is known of its place. -/
structure LI (w wr : World) (D g gx gf ga ca n : Nat) (X : List Value) (L : List (Int × Int)) (s : List Int) (Lk : List Bool) (st : Vst) : Prop where
  b : Below D w wr
  x : Full wr gx 26 X
  f : Full wr gf 54 (L.flatMap fc)
  sq : StQ wr (some ⟨ga, 0, none⟩) ca s
  ne : ga ≠ g
  rk : ∃ R, RkM wr g st.1 Lk R ∧ R.length = n
  dg : D ≤ g
theorem LI.next {w wr W' : World} {D g gx gf ga ca n : Nat} {X : List Value} {L : List (Int × Int)} {s : List Int} {Lk : List Bool} {st : Vst} (h : LI w wr D g gx gf ga ca n X L s Lk st) (k : Below wr.heap.size wr W') : LI w W' D g gx gf ga ca n X L s Lk st := by
  obtain ⟨R, hR, hn⟩ := h.rk
  exact ⟨h.b.trans (k.mono (Nat.le_trans h.dg (Nat.le_of_lt hR.fl.lt))), h.x.next k, h.f.next k, h.sq.next k, h.ne, ⟨R, hR.next k, hn⟩, h.dg⟩
theorem LI.put {w wr : World} {D g gx gf ga ca n : Nat} {X : List Value} {L : List (Int × Int)} {s : List Int} {Lk : List Bool} {st : Vst} (h : LI w wr D g gx gf ga ca n X L s Lk st) (j : Nat) (hj : j < n) (H : List Int) : LI w ((wr.setCell ⟨g, j * 3, none⟩ (.bool true)).setCell ⟨g, j * 3 + 2, none⟩ (.slice (some ⟨ga, 0, none⟩) s.length ca)) D g gx gf ga ca n X L s Lk (st.1.set j (some s), H) := by
  obtain ⟨R, hR, hn⟩ := h.rk
  obtain ⟨R', hR', hn'⟩ := hR.put j (by rw [hn]; exact hj) h.sq (fun a e _ => by cases e; exact h.ne)
  have n1 : gx ≠ g := h.x.ne hR.fl (by decide)
  have n2 : gf ≠ g := h.f.ne hR.fl (by decide)
  refine ⟨(h.b.setCell (p := ⟨g, j * 3, none⟩) h.dg _).setCell (p := ⟨g, j * 3 + 2, none⟩) h.dg _, (h.x.other1 n1).other1 n1, (h.f.other1 n2).other1 n2, ?_, h.ne, ⟨R', hR', hn'.trans hn⟩, h.dg⟩
  exact (h.sq.other (fun a e _ => by cases e; exact h.ne)).other (fun a e _ => by cases e; exact h.ne)
end Go.Proofs.YtdcaonfnhdjibaaDoor
