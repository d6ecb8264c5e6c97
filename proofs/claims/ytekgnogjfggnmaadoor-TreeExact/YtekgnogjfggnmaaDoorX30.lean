import Derived.Test.YtekgnogjfggnmaaDoorX10
import Derived.Test.YtekgnogjfggnmaaDoorX18
import Derived.Test.YtekgnogjfggnmaaDoorX11
namespace Go.Proofs.YtekgnogjfggnmaaDoor
open Go.RowKit

set_option maxHeartbeats 400000 in
theorem clone_any (s : ByteArray) (w : World) (hs : s.size ≤ 281474976710656) : Calls Tryd.prog 37 #[.string s] w fun e w' => e = .returned (.string s) ∧ Below w.heap.size w w' := by
  go_enter Tryd.func37, Tryd.ntmps37
  go_wp2_with (go_at_call 54; refine (Tryd.stringslite_Clone s w hs).mono ?_; rintro e w1 ⟨rfl, hb1⟩)
  go_ret
  exact ⟨rfl, hb1⟩

/-- Nodes of its own, of nine cells each, as a list in memory. -/
theorem lay_of_own {w : World} {base B cap : Nat} {L : List Nd} (h : w.ownsRow base 36 9 (.slice (some ⟨B, 0, none⟩) L.length cap) L.length (flat L)) : base ≤ B ∧ Lay w B 0 L ∧ w.there B 0 (L.length * 9) := by
  rcases h.2 with ⟨h0, _⟩ | ⟨g, c, cur, hv, hb, hg, hnc, hcm, hcs, htake⟩
  · cases h0
  · cases hv
    have hlt : B < w.heap.size := (Array.getElem?_eq_some_iff.1 hg).1
    refine ⟨hb, lay_of_range hlt fun j v hv => ?_, fun j hj => ⟨?_, ?_⟩⟩
    · have := h.cells (g := B) rfl j v hv
      rw [show (⟨B, 0, none⟩ : Addr).add j = ⟨B, j, none⟩ by by_cases hj : j = 0 <;> simp [Addr.add, hj]] at this
      rw [Nat.zero_add]
      exact this
    · simp only [World.cell?, hg]
      have : 0 + j < cur.size := by rw [hcs]; have := Nat.mul_le_mul_right 9 hnc; omega
      simp only [Nat.zero_add] at this
      simp [this]
    · simp only [World.frozen?, hg]
      simp

/-- An append whose run is known, for the walk. -/
theorem wpList_app9 {w w' : World} {ops : Array Oper} {rest : List Oper} {o : Oper} {a : Act} {Q : Exit → Act → World → Prop} {v' : Value} (hgd : o.guard = none) (s x : Operand)
    (ho : o.op = .call { callee := .builtin .append, args := #[s, x], argTypes := #[22, 22] }) (hr : (Builtin.append_ #[22, 22] o.type #[a.eval s, a.eval x]).run Tryd.prog w = .ok v' w')
    (h : wpList Tryd.prog ops Q rest (a.put o.dst v') w') : wpList Tryd.prog ops Q (o :: rest) a w := by
  refine wpList_plain hgd fun K hK => ?_
  unfold Oper.wp execOp
  simp only [ho, resolve, invoke, builtin, Sem.run_bind, Sem.run_pure, Result.andThen_ok, List.map_toArray, List.map_cons, List.map_nil, hr]
  exact hK _ _ h

set_option maxRecDepth 100000 in
set_option maxHeartbeats 1000000 in
/-- slices.Clone of nodes that lie there. -/
theorem cloneN_any (w : World) (a : Addr) (cap : Nat) (L : List Nd) (hL : L.length ≤ 1353245080300) (hne : 0 < L.length) (hs : ∀ j v, (flat L)[j]? = some v → w.cell? (a.add j) = some v ∧ (a.add j).block < w.heap.size) :
    Calls Tryd.prog 36 #[.slice (some a) L.length cap] w fun e w' => (∃ B cap', e = .returned (.slice (some ⟨B, 0, none⟩) L.length cap') ∧ Hid (w.heap.size ≤ B ∧ Lay w' B 0 L ∧ w'.there B 0 (L.length * 9))) ∧ Below w.heap.size w w' := by
  have he : ∀ w : World, (binOp BinOp.eql 22 (.slice (some a) L.length cap) (.slice none 0 0)).run Tryd.prog w = .ok (.bool false) w := nil_eq (some a) L.length cap
  obtain ⟨i0, hi, hz0, hz1, hz2⟩ := info_parts info36
  obtain ⟨w1, hw1⟩ : ∃ w1, w.alloc (.cells #[] 36) = w1 := ⟨_, rfl⟩
  have B1 : Below w.heap.size w w1 := by rw [← hw1]; exact (Below.refl _ w).alloc (Nat.le_refl _) _
  have hown : w1.ownsRow w.heap.size 36 9 (.slice (some ⟨w.heap.size, 0, none⟩) 0 0) 0 [] := by
    refine ⟨rfl, .inr ⟨w.heap.size, 0, #[], rfl, Nat.le_refl _, ?_, Nat.le_refl _, Nat.zero_le _, rfl, rfl⟩⟩
    rw [← hw1]
    exact heap_alloc_new w _
  obtain ⟨v', w2, hr, h2, h3, _⟩ := run_append_own (P := Tryd.prog) w1 w.heap.size 22 22 36 i0 _ 9 104 Tryd.underlying22 hi hz0 hz1 hz2 rfl (by decide) _ 0 [] hown a L.length cap (flat L) (flat_len L)
    (fun j v hv => by obtain ⟨q1, q2⟩ := hs j v hv; exact (B1.cell q2).trans q1) (flat_one L) (by unfold maxLen; omega) (by omega) B1.size
  rw [Nat.zero_add, List.nil_append] at h2
  have hb2 : Below w.heap.size w w2 := B1.grown h3 B1.size (own_ge hown)
  obtain ⟨g', cap', rfl⟩ : ∃ g cap, v' = .slice (some ⟨g, 0, none⟩) L.length cap := by
    rcases h2.2 with ⟨_, h0⟩ | ⟨g, c, _, rfl, _⟩
    · omega
    · exact ⟨g, c, rfl⟩
  have HR : Hid ((Builtin.append_ #[22, 22] 22 #[.slice (some ⟨w.heap.size, 0, none⟩) 0 0, .slice (some a) L.length cap]).run Tryd.prog w1 = .ok (.slice (some ⟨g', 0, none⟩) L.length cap') w2) := hr
  have HF : Hid (w.heap.size ≤ g' ∧ Lay w2 g' 0 L ∧ w2.there g' 0 (L.length * 9)) := lay_of_own h2
  clear hs hown hr h2 h3
  go_enter Tryd.func36, Tryd.ntmps36
  go_wp2_with (first
    | (at_builtin; refine wpList_app9 rfl (.tmp 5) (.tmp 6) rfl HR.out ?_)
    | go_in)
  go_ret
  exact ⟨⟨g', cap', rfl, HF⟩, hb2⟩

end Go.Proofs.YtekgnogjfggnmaaDoor
