import Derived.Test.YtdmiciblfbkndaaDoorA23
import Derived.Test.YtdmiciblfbkndaaDoorA27
import Derived.Test.YtdmiciblfbkndaaDoorF03
import Derived.Test.YtdmiciblfbkndaaDoorF00
import Derived.Deep.DeepCutAuto
namespace Go.Proofs.YtdmiciblfbkndaaDoor
open Go.RowKit

/-- The records that the law lays by itself. -/
def evF2 : List Ev := [⟨1, 0, [], 0, 0, []⟩, ⟨2, 1, [], 0, 0, []⟩]
def rcF2 : Rc := ⟨0, 0, [], 0, evF2⟩
def evF1 : List Ev := [⟨2, 1, [], 0, 0, []⟩]
def rcF1 : Rc := ⟨0, 0, [], 0, evF1⟩
theorem encF2 : encS rcF2 = (fileL rcF2, 0) := enc_of (by decide) (by decide) (by decide) (by decide)
theorem encF1 : encS rcF1 = (fileL rcF1, 0) := enc_of (by decide) (by decide) (by decide) (by decide)
theorem rdF2 : ∀ e ∈ evF2, EvSz e ∧ (-9223372036854775808 ≤ e.vn ∧ e.vn ≤ 9223372036854775807) := by
  intro e he
  unfold EvSz
  simp only [evF2, List.mem_cons, List.not_mem_nil, or_false] at he
  rcases he with rfl | rfl <;> decide
theorem rdF1 : ∀ e ∈ evF1, EvSz e ∧ (-9223372036854775808 ≤ e.vn ∧ e.vn ≤ 9223372036854775807) := by
  intro e he
  unfold EvSz
  simp only [evF1, List.mem_cons, List.not_mem_nil, or_false] at he
  rcases he with rfl <;> decide
/-- A record whose file is known, in memory. -/
structure FrS (W : World) (A : Nat) (ph tr : Int) (ob : ByteArray) (inp : Int) (q : Option Addr) (c m : Nat) (L : List Ev) (D : ByteArray) (w : World) : Prop where
  bel : Below W.heap.size W w
  box : Full w A 28 [.int .i64 ph, .int .i64 tr, .string ob, .int .i64 inp, .slice q m c]
  row : Row w w.heap.size q m (L.flatMap ec)
  dec : decS D.data.toList = (⟨ph, tr, ob.data.toList, inp, L⟩, 0)
  sal : salS D.data.toList = (⟨ph, tr, ob.data.toList, inp, L⟩, D.data.toList.length, 0)
  n : L.length = m
  le : m ≤ 1048576
  sz : D.size ≤ 100000000000
theorem FrS.of {W : World} {A : Nat} {ph tr : Int} {ob : ByteArray} {inp : Int} {q : Option Addr} {c m : Nat} {L : List Ev} {w : World} {D : ByteArray} (hn : L.length = m) (bel : Below W.heap.size W w) (box : Full w A 28 [.int .i64 ph, .int .i64 tr, .string ob, .int .i64 inp, .slice q m c]) (row : Row w w.heap.size q m (L.flatMap ec)) (h0 : (encS ⟨ph, tr, ob.data.toList, inp, L⟩).2 = 0) (hD : D.data.toList = (encS ⟨ph, tr, ob.data.toList, inp, L⟩).1) (hv : ∀ e ∈ L, -9223372036854775808 ≤ e.vn ∧ e.vn ≤ 9223372036854775807) : FrS W A ph tr ob inp q c m L D w := by
  obtain ⟨h1, h2⟩ := enc_back _ h0 hv
  have h3 := (encS_ok h0).2.1
  have h4 := file_le h0 hv
  exact ⟨bel, box, row, by rw [hD]; exact h1, by rw [hD]; exact h2, hn, by rw [← hn]; exact h3, by rw [Lib.size_eq, hD]; exact h4⟩
/-- An answer in its box. -/
structure AnB (ph tr : Int) (ob : ByteArray) (inp : Int) (m : Nat) (L : List Ev) (P lo hi : Nat) (q : Option Addr) (c : Nat) (w : World) : Prop where
  box : Full w P 28 [.int .i64 ph, .int .i64 tr, .string ob, .int .i64 inp, .slice q m c]
  own : w.ownsRow lo 37 6 (.slice q m c) m (L.flatMap ec)
  hi : ∀ g, (Value.slice q m c).ownBlock = some g → g < hi
theorem AnB.next {ph tr : Int} {ob : ByteArray} {inp : Int} {m : Nat} {L : List Ev} {P lo hi : Nat} {q : Option Addr} {c : Nat} {w w' : World} (h : AnB ph tr ob inp m L P lo hi q c w) (k : Below w.heap.size w w') : AnB ph tr ob inp m L P lo hi q c w' := ⟨h.box.next k, own_next h.own k, h.hi⟩
/-- What was answered is laid into a box. -/
theorem AnB.lay {ph tr : Int} {ob : ByteArray} {inp : Int} {m : Nat} {L : List Ev} {lo : Nat} {q : Option Addr} {c : Nat} {w : World} (h : w.ownsRow lo 37 6 (.slice q m c) m (L.flatMap ec)) : AnB ph tr ob inp m L w.heap.size lo w.heap.size q c (w.alloc (.cells #[.int .i64 ph, .int .i64 tr, .string ob, .int .i64 inp, .slice q m c] 28)) :=
  ⟨Full.new w _ _, own_next h ((Below.refl _ _).alloc (Nat.le_refl _) _), fun g hg => (h.lt g hg).2⟩
theorem fr_dec (w : World) (ph tr : Int) (ob : ByteArray) (inp : Int) (m : Nat) (L : List Ev) (D : ByteArray) (hT : SumT w) (hn : L.length = m) (hs : D.size ≤ 100000000000) (hd : decS D.data.toList = (⟨ph, tr, ob.data.toList, inp, L⟩, 0)) :
    Calls Tryd.prog 6 #[.string D] w fun e w' => ∃ (q : Option Addr) (c : Nat), e = .returned (.tuple #[.agg #[.int .i64 ph, .int .i64 tr, .string ob, .int .i64 inp, .slice q m c], .int .i64 0]) ∧ Hid (w'.ownsRow w.heap.size 37 6 (.slice q m c) m (L.flatMap ec) ∧ Below w.heap.size w w') := by
  refine (decode_any w D hT (by omega)).mono ?_
  rintro e w' ⟨⟨v, rfl, hv⟩, hb⟩
  rw [hd] at hv ⊢
  obtain ⟨o2, q, c, rfl, ho, hw⟩ := hv.opn
  obtain rfl := ba_eq ho
  simp only at hw
  rw [hn] at hw
  exact ⟨q, c, by simp only [hn], hw, hb⟩
theorem fr_sal (w : World) (ph tr : Int) (ob : ByteArray) (inp : Int) (m : Nat) (L : List Ev) (D : ByteArray) (hT : SumT w) (hn : L.length = m) (hs : D.size ≤ 100000000000) (hd : salS D.data.toList = (⟨ph, tr, ob.data.toList, inp, L⟩, D.data.toList.length, 0)) :
    Calls Tryd.prog 7 #[.string D] w fun e w' => ∃ (q : Option Addr) (c : Nat), e = .returned (.tuple #[.agg #[.int .i64 ph, .int .i64 tr, .string ob, .int .i64 inp, .slice q m c], .int .i64 (D.size : Int), .int .i64 0]) ∧ Hid (w'.ownsRow w.heap.size 37 6 (.slice q m c) m (L.flatMap ec) ∧ Below w.heap.size w w') := by
  refine (salvage_any w D hT (by omega)).mono ?_
  rintro e w' ⟨⟨v, rfl, hv⟩, hb⟩
  rw [hd] at hv ⊢
  obtain ⟨o2, q, c, rfl, ho, hw⟩ := hv.opn
  obtain rfl := ba_eq ho
  simp only at hw
  rw [hn] at hw
  exact ⟨q, c, by simp only [hn, Lib.size_eq], hw, hb⟩
theorem fr_same (w : World) (ph tr : Int) (ob : ByteArray) (inp : Int) (m : Nat) (L : List Ev) (q1 q2 : Option Addr) (c1 c2 : Nat) (hn : L.length = m) (hl : m ≤ 1048576) (h1 : Row w w.heap.size q1 m (L.flatMap ec)) (h2 : Row w w.heap.size q2 m (L.flatMap ec)) :
    Calls Tryd.prog 8 #[.agg #[.int .i64 ph, .int .i64 tr, .string ob, .int .i64 inp, .slice q1 m c1], .agg #[.int .i64 ph, .int .i64 tr, .string ob, .int .i64 inp, .slice q2 m c2]] w fun e w' => e = .returned (.bool true) ∧ Below w.heap.size w w' := by
  have h := same_yes w ph tr ob inp L q1 q2 c1 c2 (by rw [hn]; exact h1) (by rw [hn]; exact h2) (by omega)
  unfold recC at h
  rw [hn] at h
  exact h
theorem Ans.low {T : Type} {c : T → List Value} {k : Nat} {E SE : TypeId} {w : World} {b : Nat} {Ls : List (List T)} {v : Value} {vs : List Value} (h : Ans c k E SE w b Ls v vs) (g : Nat) (hg : bkL vs g) : b ≤ g := by
  obtain ⟨i, x, h1, h2⟩ := hg
  have hi : i < Ls.length := by rw [← h.len]; exact (List.getElem?_eq_some_iff.1 h1).1
  obtain ⟨q, cp, e1, e2⟩ := h.own i hi
  rw [h1] at e1
  cases e1
  exact (e2.lt g h2).1
abbrev Bx := Nat × Nat × Nat × Option Addr × Nat
/-- The answers in their boxes. -/
structure Al (ph tr : Int) (ob : ByteArray) (inp : Int) (m : Nat) (L : List Ev) (wc : World) (bs : List Bx) (w : World) : Prop where
  bel : Below wc.heap.size wc w
  an : ∀ x ∈ bs, AnB ph tr ob inp m L x.1 x.2.1 x.2.2.1 x.2.2.2.1 x.2.2.2.2 w
theorem Al.next {ph tr : Int} {ob : ByteArray} {inp : Int} {m : Nat} {L : List Ev} {wc : World} {bs : List Bx} {w w' : World} (h : Al ph tr ob inp m L wc bs w) (k : Below w.heap.size w w') : Al ph tr ob inp m L wc bs w' := ⟨h.bel.trans (k.mono h.bel.size), fun x hx => (h.an x hx).next k⟩
theorem Al.add {ph tr : Int} {ob : ByteArray} {inp : Int} {m : Nat} {L : List Ev} {wc : World} {bs : List Bx} {w w' : World} (h : Al ph tr ob inp m L wc bs w) (k : Below w.heap.size w w') {P lo hi : Nat} {q : Option Addr} {c : Nat} (a : AnB ph tr ob inp m L P lo hi q c w') : Al ph tr ob inp m L wc ((P, lo, hi, q, c) :: bs) w' := ⟨(h.next k).bel, fun x hx => by
  rcases List.mem_cons.1 hx with rfl | hx
  · exact a
  · exact (h.next k).an x hx⟩
theorem ans5 (w : World) (O b : Nat) (L L5 : List Ev) (q1 q2 q3 q4 q5 : Option Addr) (c1 c2 c3 c4 c5 lo1 lo2 lo3 lo4 lo5 h1 h2 h3 h4 : Nat) (hO : w.heap[O]? = some (.cells #[.slice q1 L.length c1, .slice q2 L.length c2, .slice q3 L.length c3, .slice q4 L.length c4, .slice q5 L5.length c5] 26)) (hb : b ≤ O)
    (o1 : w.ownsRow lo1 37 6 (.slice q1 L.length c1) L.length (L.flatMap ec)) (o2 : w.ownsRow lo2 37 6 (.slice q2 L.length c2) L.length (L.flatMap ec)) (o3 : w.ownsRow lo3 37 6 (.slice q3 L.length c3) L.length (L.flatMap ec)) (o4 : w.ownsRow lo4 37 6 (.slice q4 L.length c4) L.length (L.flatMap ec)) (o5 : w.ownsRow lo5 37 6 (.slice q5 L5.length c5) L5.length (L5.flatMap ec))
    (g1 : ∀ g, (Value.slice q1 L.length c1).ownBlock = some g → g < h1) (g2 : ∀ g, (Value.slice q2 L.length c2).ownBlock = some g → g < h2) (g3 : ∀ g, (Value.slice q3 L.length c3).ownBlock = some g → g < h3) (g4 : ∀ g, (Value.slice q4 L.length c4).ownBlock = some g → g < h4)
    (hs : b ≤ lo1 ∧ h1 ≤ lo2 ∧ lo1 ≤ lo2 ∧ h2 ≤ lo3 ∧ lo2 ≤ lo3 ∧ h3 ≤ lo4 ∧ lo3 ≤ lo4 ∧ h4 ≤ lo5 ∧ lo4 ≤ lo5 ∧ h1 ≤ h2 ∧ h2 ≤ h3 ∧ h3 ≤ h4) :
    Ans ec 6 37 26 w b [L, L, L, L, L5] (.slice (some ⟨O, 0, none⟩) [L, L, L, L, L5].length 5) [.slice q1 L.length c1, .slice q2 L.length c2, .slice q3 L.length c3, .slice q4 L.length c4, .slice q5 L5.length c5] where
  len := rfl
  out := ⟨rfl, .inr ⟨O, 5, #[.slice q1 L.length c1, .slice q2 L.length c2, .slice q3 L.length c3, .slice q4 L.length c4, .slice q5 L5.length c5], rfl, hb, hO, Nat.le_refl _, by decide, rfl, rfl⟩⟩
  own i hi := by
    have hi5 : i < 5 := hi
    match i, hi5 with
    | 0, _ => exact ⟨q1, c1, rfl, own_down o1 (by omega)⟩
    | 1, _ => exact ⟨q2, c2, rfl, own_down o2 (by omega)⟩
    | 2, _ => exact ⟨q3, c3, rfl, own_down o3 (by omega)⟩
    | 3, _ => exact ⟨q4, c4, rfl, own_down o4 (by omega)⟩
    | 4, _ => exact ⟨q5, c5, rfl, own_down o5 (by omega)⟩
  sep := by
    have l2 := fun g hg => (o2.lt g hg).1
    have l3 := fun g hg => (o3.lt g hg).1
    have l4 := fun g hg => (o4.lt g hg).1
    have l5 := fun g hg => (o5.lt g hg).1
    simp only [List.pairwise_cons, List.mem_cons, List.not_mem_nil, or_false, List.Pairwise.nil, and_true]
    refine ⟨?_, ?_, ?_, ?_, ?_⟩
    all_goals
      rintro x hx g e1 e2
      first
        | exact absurd hx id
        | (rcases hx with rfl | rfl | rfl | rfl <;> (first | (have := g1 g e1; first | (have := l2 g e2; omega) | (have := l3 g e2; omega) | (have := l4 g e2; omega) | (have := l5 g e2; omega))))
        | (rcases hx with rfl | rfl | rfl <;> (first | (have := g2 g e1; first | (have := l3 g e2; omega) | (have := l4 g e2; omega) | (have := l5 g e2; omega))))
        | (rcases hx with rfl | rfl <;> (first | (have := g3 g e1; first | (have := l4 g e2; omega) | (have := l5 g e2; omega))))
        | (obtain rfl := hx; have := g4 g e1; have := l5 g e2; omega)
end Go.Proofs.YtdmiciblfbkndaaDoor
