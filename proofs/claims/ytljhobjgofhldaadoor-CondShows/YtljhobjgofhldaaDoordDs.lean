import Derived.Test.YtljhobjgofhldaaDoordDp
import Derived.Test.YtljhobjgofhldaaDoordSMath
namespace Go.Proofs.YtljhobjgofhldaaDoor
open Go.RowKit
theorem Tab10.nextB {W W' : World} {B : Nat} (h : Tab10 W) (hb : Below B W W') (hB : 3 ≤ B) : Tab10 W' := by
  unfold Tab10 Lib.TabIs at h ⊢
  have hg : Tryd.prog.globalNamed "internal/strconv.uint64pow10" = some 0 := by kernel_rfl
  unfold World.var? at h ⊢
  simp only [hg, Option.bind_some] at h ⊢
  rw [hb.block 0 (by omega)]
  exact h
theorem strCells_bytes (s : ByteArray) : Lib.strCells s = Lib.byteCells s.data.toList := by
  simp [Lib.strCells, Lib.byteCells]
theorem IsB.of {B b : Nat} {l r : List UInt8} {bs : List Value} {w : World} (h : BAt B b bs w) (e : bs = Lib.byteCells (l ++ r)) : IsB B b (l ++ r) w := by
  subst e
  exact .inr h
/-- WriteString at a builder of bytes. -/
theorem bw_any {B b : Nat} {l : List UInt8} (s : ByteArray) {w : World} (h : IsB B b l w) (hlen : l.length + s.size ≤ 140737488355328) (hBw : B ≤ w.heap.size) :
    Calls Tryd.prog 16 #[.pointer (some ⟨b, 0, none⟩), .string s] w fun e w' => (∃ v, e = .returned v) ∧ Hid (IsB B b (l ++ s.data.toList) w' ∧ Below B w w' ∧ Oth b w w') :=
  (wrS_any B b _ s w h (by rw [Lib.byteCells_length]; exact hlen) hBw).mono fun _ _ q => ⟨q.1, IsB.of q.2.1 (by rw [strCells_bytes]; simp [Lib.byteCells]), q.2.2⟩
theorem bb_any {B b : Nat} {l : List UInt8} (c : UInt8) {w : World} (h : IsB B b l w) (hlen : l.length + 1 ≤ 140737488355328) (hBw : B ≤ w.heap.size) :
    Calls Tryd.prog 19 #[.pointer (some ⟨b, 0, none⟩), .int .u8 (c.toNat : Int)] w fun e w' => (∃ v, e = .returned v) ∧ Hid (IsB B b (l ++ [c]) w' ∧ Below B w w' ∧ Oth b w w') :=
  (wrB_any B b _ (c.toNat : Int) w h (by rw [Lib.byteCells_length]; exact hlen) hBw).mono fun _ _ q => ⟨q.1, IsB.of q.2.1 (by simp [Lib.byteCells]), q.2.2⟩
theorem own_same {w w' : World} {B : Nat} {e : TypeId} {sz : Nat} {v : Value} {n : Nat} {xs : List Value} (h : w.ownsRow B e sz v n xs) (hk : ∀ g, v.ownBlock = some g → w'.heap[g]? = w.heap[g]?) : w'.ownsRow B e sz v n xs := by
  refine ⟨h.1, ?_⟩
  rcases h.2 with h | ⟨g, cap, cur, hv, h1, h2, h3⟩
  · exact .inl h
  · refine .inr ⟨g, cap, cur, hv, h1, ?_, h3⟩
    rw [hk g (by rw [hv]; rfl)]
    exact h2
theorem bat_next {B b : Nat} {p : Value} {bs : List Value} {w w' : World} (h : Lib.BuilderAt 39 5 B b p bs w) (hb : Below w.heap.size w w') : Lib.BuilderAt 39 5 B b p bs w' := by
  have hlt := h.lt
  obtain ⟨hB, v, hbk, hown, hne⟩ := h
  exact ⟨hB, v, (hb.block b hlt).trans hbk, own_same hown fun g hg => hb.block g (hown.lt g hg).2, hne⟩
theorem IsB.next {B b : Nat} {l : List UInt8} {w w' : World} (h : IsB B b l w) (hb : Below w.heap.size w w') : IsB B b l w' := by
  rcases h with h | h
  · exact .inl (bat_next h hb)
  · exact .inr (bat_next h hb)
theorem show_size (k n : Int) (s : ByteArray) (hn : -9223372036854775808 ≤ n ∧ n ≤ 9223372036854775807) : (showS k n s).size ≤ 10000 := by
  cases h : okV k n s with
  | false =>
    rw [show showS k n s = ⟨#[63]⟩ by unfold showS; rw [h]; rfl]
    decide
  | true =>
    rw [show (showS k n s).size = (showS k n s).data.toList.length by rw [Array.length_toList]; rfl, show_list h]
    rcases ok_parts h with ⟨rfl, _⟩ | ⟨rfl, _⟩ | ⟨rfl, hb, _⟩ | ⟨rfl, _, hs⟩ | ⟨rfl, _⟩
    · show ([45] : List UInt8).length ≤ _
      decide
    · show (Lib.itoa n).length ≤ _
      have := Lib.itoa_length_le n hn.1 hn.2
      omega
    · rcases hb with rfl | rfl
      · show (Lib.formatBool false).length ≤ _
        decide
      · show (Lib.formatBool true).length ≤ _
        decide
    · show (Lx.qt s.data.toList).length ≤ _
      unfold Lx.qt
      have h1 := Lx.pcs_len s.data.toList
      have h2 : s.data.toList.length = s.size := by rw [Array.length_toList]; rfl
      simp only [List.length_cons, List.length_append, List.length_nil]
      omega
    · show (35 :: Lib.itoa n).length ≤ _
      have := Lib.itoa_length_le n hn.1 hn.2
      simp only [List.length_cons]
      omega
/-- A bound of what is written. -/
def bd : Nat → Nat
  | 0 => 10000
  | d + 1 => 20 * bd d
theorem bd_ge (d : Nat) : 10000 ≤ bd d := by
  induction d with
  | zero => exact Nat.le_refl _
  | succ d ih => show 10000 ≤ 20 * bd d; omega
end Go.Proofs.YtljhobjgofhldaaDoor
