import Derived.Test.YtnecnchdffmhbaaDoorO16
import Derived.Test.YtnecnchdffmhbaaDoorO14
import Derived.Test.YtnecnchdffmhbaaDoorO05
import Derived.Test.YtnecnchdffmhbaaDoorO11
import Derived.Test.YtnecnchdffmhbaaDoorO12
import Derived.Test.YtnecnchdffmhbaaDoorO02
namespace Go.Proofs.YtnecnchdffmhbaaDoor
open Go.RowKit

theorem evF_cons {M : List Ev} (h : M ≠ []) : evF M = chS (bodyL (M.take 64)) ++ evF (M.drop 64) := by
  unfold evF
  rw [cks_cons h]
  rfl
theorem part_ok {L : List Ev} (h1 : L.all evOk = true) (h2 : ∀ e ∈ L, -9223372036854775808 ≤ e.vn ∧ e.vn ≤ 9223372036854775807) (k : Nat) : EvsOk ((L.drop k).take 64) :=
  ⟨fun e he => by
    have hm : e ∈ L := List.mem_of_mem_drop (List.mem_of_mem_take he)
    exact ⟨List.all_eq_true.1 h1 e hm, h2 e hm⟩, by rw [List.length_take]; omega⟩
theorem body_le {p : List Ev} (h : EvsOk p) : (bodyL p).length ≤ 25601 := by
  obtain ⟨-, -, h3⟩ := body_mid p h p.length (Nat.le_refl _)
  rw [List.take_length] at h3
  have := h.2
  show (1 :: evsL 0 [] p).length ≤ _
  rw [List.length_cons]
  omega
theorem ec_flat (l : List Ev) : (l.flatMap ec).length = l.length * 6 := by
  induction l with
  | nil => rfl
  | cons e l ih => rw [List.flatMap_cons, List.length_append, ec_len, ih, List.length_cons]; omega
/-- A part of a row of events. -/
theorem row_part {w : World} {g o : Nat} {L : List Ev} (h : w.rangeAt g o (L.flatMap ec)) (k : Nat) (hk : k ≤ L.length) : w.rangeAt g (o + k * 6) (((L.drop k).take 64).flatMap ec) := by
  intro j v hv
  have hl : ((L.take k).flatMap ec).length = k * 6 := by
    rw [ec_flat, List.length_take, Nat.min_eq_left hk]
  have e : L.flatMap ec = (L.take k).flatMap ec ++ (((L.drop k).take 64).flatMap ec ++ ((L.drop k).drop 64).flatMap ec) := by
    rw [← List.flatMap_append, List.take_append_drop, ← List.flatMap_append, List.take_append_drop]
  have hv2 : (L.flatMap ec)[k * 6 + j]? = some v := by
    rw [e, List.getElem?_append_right (by omega), hl, Nat.add_sub_cancel_left, List.getElem?_append_left (List.getElem?_eq_some_iff.1 hv).1]
    exact hv
  have := h (k * 6 + j) v hv2
  rw [Nat.add_assoc]
  exact this
/-- Where Encode stands among the parts: what is written, and what is left. -/
structure EnD (L : List Ev) (k : Nat) (D : List UInt8) : Prop where
  cat : [82, 1] ++ evF L = D ++ evF (L.drop (64 * k))
  len : D.length ≤ 2 + 25609 * k
theorem EnD.zero (L : List Ev) : EnD L 0 [82, 1] := ⟨rfl, by decide⟩
theorem EnD.go {L : List Ev} {k : Nat} {D : List UInt8} (h : EnD L k D) (h1 : L.all evOk = true) (h2 : ∀ e ∈ L, -9223372036854775808 ≤ e.vn ∧ e.vn ≤ 9223372036854775807) (hk : 64 * k < L.length) : EnD L (k + 1) (D ++ chS (bodyL ((L.drop (64 * k)).take 64))) := by
  have hne : L.drop (64 * k) ≠ [] := fun e => by
    have := congrArg List.length e
    rw [List.length_drop] at this
    simp at this
    omega
  refine ⟨?_, ?_⟩
  · rw [h.cat, evF_cons hne, List.drop_drop, List.append_assoc]
    rfl
  · have := h.len
    have := body_le (part_ok h1 h2 (64 * k))
    rw [List.length_append, chS_len]
    omega
theorem EnD.end_ {L : List Ev} {k : Nat} {D : List UInt8} (h : EnD L k D) (hk : L.length ≤ 64 * k) : D = [82, 1] ++ evF L := by
  have := h.cat
  rw [List.drop_of_length_le hk, evF_nil, List.append_nil] at this
  exact this.symm
/-! The builder of bytes. -/
theorem strCells_bytes (s : ByteArray) : Lib.strCells s = Lib.byteCells s.data.toList := by
  simp [Lib.strCells, Lib.byteCells]
theorem IsB.of {B b : Nat} {l r : List UInt8} {bs : List Value} {w : World} (h : BAt B b bs w) (e : bs = Lib.byteCells (l ++ r)) : IsB B b (l ++ r) w := by
  subst e
  exact .inr h
theorem bw_any {B b : Nat} {l : List UInt8} (s : ByteArray) {w : World} (h : IsB B b l w) (hlen : l.length + s.size ≤ 140737488355328) (hBw : B ≤ w.heap.size) :
    Calls Tryd.prog 24 #[.pointer (some ⟨b, 0, none⟩), .string s] w fun e w' => (∃ v, e = .returned v) ∧ Hid (IsB B b (l ++ s.data.toList) w' ∧ Below B w w' ∧ OthB b w w') :=
  (wrS_any B b _ s w h (by rw [Lib.byteCells_length]; exact hlen) hBw).mono fun _ _ q => ⟨q.1, IsB.of q.2.1 (by rw [strCells_bytes]; simp [Lib.byteCells]), q.2.2⟩
theorem bat_same {B b : Nat} {p : Value} {bs : List Value} {w w' : World} (h : Lib.BuilderAt 64 5 B b p bs w) (hb : w'.heap[b]? = w.heap[b]?) (hk : ∀ v g, w.heap[b]? = some (.cells #[p, v] 64 (0, 0)) → v.ownBlock = some g → w.ownsRow B 5 1 v bs.length bs → w'.heap[g]? = w.heap[g]?) : Lib.BuilderAt 64 5 B b p bs w' := by
  obtain ⟨hB, v, hbk, hown, hne⟩ := h
  exact ⟨hB, v, hb.trans hbk, own_same hown fun g hg => hk v g hbk hg hown, hne⟩
theorem bat_lt {B b : Nat} {p : Value} {bs : List Value} {w : World} (h : Lib.BuilderAt 64 5 B b p bs w) : b < w.heap.size := by
  obtain ⟨-, v, hbk, -⟩ := h
  exact (Array.getElem?_eq_some_iff.1 hbk).1
theorem IsB.next {B b : Nat} {l : List UInt8} {w w' : World} (h : IsB B b l w) (hb : Below w.heap.size w w') : IsB B b l w' := by
  rcases h with h | h
  · exact .inl (bat_same h (hb.block b (bat_lt h)) fun v g _ hg ho => hb.block g (own_blk ho g hg).lt)
  · exact .inr (bat_same h (hb.block b (bat_lt h)) fun v g _ hg ho => hb.block g (own_blk ho g hg).lt)
theorem not_row {W W' : World} {row : Option Nat} {g : Nat} {t : TypeId} {cur : Array Value} {fz : Nat × Nat} (hg : W.grownBy W' row) (hr : ∀ r, row = some r → ∃ o : Obj, W.heap[r]? = some o ∧ o.isCells = false) (h : W.heap[g]? = some (.cells cur t fz)) : W'.heap[g]? = W.heap[g]? :=
  hg.block g (Array.getElem?_eq_some_iff.1 h).1 fun e => by
    obtain ⟨o, h1, h2⟩ := hr g e.symm
    rw [h] at h1
    rw [← Option.some.inj h1] at h2
    cases h2
theorem IsB.grown {B b : Nat} {l : List UInt8} {W W' : World} {row : Option Nat} (h : IsB B b l W) (hg : W.grownBy W' row) (hr : ∀ r, row = some r → ∃ o : Obj, W.heap[r]? = some o ∧ o.isCells = false) : IsB B b l W' := by
  have key : ∀ {p : Value} {bs : List Value}, Lib.BuilderAt 64 5 B b p bs W → Lib.BuilderAt 64 5 B b p bs W' := fun h => by
    have hb : W'.heap[b]? = W.heap[b]? := by
      obtain ⟨-, v, hbk, -⟩ := h
      exact not_row hg hr hbk
    exact bat_same h hb fun v g _ hgb ho => by
      obtain ⟨cur, hv, -⟩ := own_blk ho g hgb
      exact not_row hg hr hv
  rcases h with h | h
  · exact .inl (key h)
  · exact .inr (key h)
/-- What a write at a builder keeps. -/
theorem keeps_othB {B b : Nat} {l : List UInt8} {W W' : World} (hi : IsB B b l W) (h : OthB b W W') (hs : W.heap.size ≤ W'.heap.size) : KeepsOthers W W' :=
  ⟨hs, fun k o hk ho => h k o hk (fun e => by
    cases e
    rcases hi with hi | hi
    all_goals
      obtain ⟨-, v, hbk, -⟩ := hi
      rw [hbk] at hk
      rw [← Option.some.inj hk] at ho
      cases ho) (fun c fz e => by rw [e] at ho; cases ho)⟩
/-- .. and a block of another type. -/
theorem OthB.full {b : Nat} {W W' : World} {g : Nat} {t : TypeId} {vs : List Value} (h : OthB b W W') (f : Full W g t vs) (hg : g ≠ b) (ht : t ≠ 5) : Full W' g t vs :=
  h g _ f (fun e => hg (Option.some.inj e)) (fun c fz e => ht (by cases e; rfl))
end Go.Proofs.YtnecnchdffmhbaaDoor
