import Derived.Test.YtdcioemjmmhbhaaDoorMake
namespace Go.Proofs.YtdcioemjmmhbhaaDoor
open Go.RowKit

/-- A step of a script. -/
structure Sp where
  dop : Int
  on : Int
  kd : Int
  n : Int
  r : V
  x : V
def sc (s : Sp) : List Value := [.int .i64 s.dop, .int .i64 s.on, .int .i64 s.kd, .int .i64 s.n, .int .i64 s.r.1, .int .i64 s.r.2.1, .string s.r.2.2, .int .i64 s.x.1, .int .i64 s.x.2.1, .string s.x.2.2]
theorem sc_new (w : World) (s : Sp) (t : TypeId) : (w.alloc (.cells (sc s).toArray t)).rangeAt w.heap.size 0 (sc s) := fun j v hv => by
  rw [Nat.zero_add]
  simp only [World.cell?, World.alloc_heap_new w _]
  simpa using hv

/-- A script that was handed in. -/
structure StepsAt (w : World) (q : Option Addr) (S : List Sp) : Prop where
  at' : 0 < S.length → ∃ g o, q = some ⟨g, o, none⟩ ∧ w.rangeAt g o (S.flatMap sc)
  txt : ∀ s ∈ S, s.r.2.2.size ≤ 9223372036854775807 ∧ s.x.2.2.size ≤ 9223372036854775807 ∧ -9223372036854775808 ≤ s.x.2.1 ∧ s.x.2.1 ≤ 9223372036854775807
  len : S.length ≤ 4611686018427387904
theorem StepsAt.next {w w' : World} {q : Option Addr} {S : List Sp} (h : StepsAt w q S) (k : Below w.heap.size w w') : StepsAt w' q S := ⟨fun h0 => by
    obtain ⟨g, o, e, hr⟩ := h.at' h0
    exact ⟨g, o, e, fun j v hv => (k.cell (p := ⟨g, o + j, none⟩) (block_lt_of_cell (hr j v hv))).trans (hr j v hv)⟩, h.txt, h.len⟩
theorem StepsAt.get {w : World} {q : Option Addr} {S : List Sp} (h : StepsAt w q S) (i : Nat) (hi : i < S.length) : ∃ g o, q = some ⟨g, o, none⟩ ∧ w.rangeAt g (o + i * 10) (sc S[i]) := by
  obtain ⟨g, o, e, hr⟩ := h.at' (by omega)
  refine ⟨g, o, e, fun j v hv => ?_⟩
  have hj : j < 10 := (List.getElem?_eq_some_iff.1 hv).1
  have := flat_at sc 10 (fun _ => rfl) S i j hi hj
  rw [Nat.add_assoc]
  exact hr _ v (this.trans hv)

end Go.Proofs.YtdcioemjmmhbhaaDoor
