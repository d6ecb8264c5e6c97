import Derived.Test.YtichbejmelkjeaaDoorEMb
import Derived.Test.YtichbejmelkjeaaDoorLxApp
import Derived.Deep.AppendSrc
import Derived.Lib.AppendStr
namespace Go.Proofs.YtichbejmelkjeaaDoor
open Go.RowKit

/-! A text that grows: a row of bytes of one's own, or one that was made of a text (it has a mark behind its end). -/
def TxM (w : World) (B : Nat) (v : Value) (l : List UInt8) : Prop :=
  ∃ g cap cur fz, v = .slice (some ⟨g, 0, none⟩) l.length cap ∧ B ≤ g ∧ w.heap[g]? = some (.cells cur 5 fz) ∧ cur.size ≤ fz.1 ∧ l.length ≤ cap ∧ cap ≤ maxLen ∧ cur.size = cap ∧ cur.toList.take l.length = Lx.bv l
def TxB (w : World) (B : Nat) (v : Value) (l : List UInt8) : Prop := w.ownsRow B 5 1 v l.length (Lx.bv l) ∨ TxM w B v l
theorem TxB.next {w w' : World} {B : Nat} {v : Value} {l : List UInt8} (h : TxB w B v l) (k : Below w.heap.size w w') : TxB w' B v l := by
  rcases h with h | ⟨g, cap, cur, fz, rfl, h0, h1, h2⟩
  · exact .inl (own_next h k)
  · exact .inr ⟨g, cap, cur, fz, rfl, h0, (k.block g (Array.getElem?_eq_some_iff.1 h1).1).trans h1, h2⟩
theorem TxB.alloc {w : World} {B : Nat} {v : Value} {l : List UInt8} (h : TxB w B v l) (o : Obj) : TxB (w.alloc o) B v l := h.next ((Below.refl _ w).alloc (Nat.le_refl _) _)
theorem TxB.drew {w : World} {B : Nat} {v : Value} {l : List UInt8} (h : TxB w B v l) : TxB w.drew B v l := h.next (Below.refl _ w).drew
theorem txM_range {w : World} {g n : Nat} {cur : Array Value} {fz : Nat × Nat} {xs : List Value} (h1 : w.heap[g]? = some (.cells cur 5 fz)) (h6 : cur.toList.take n = xs) : w.rangeAt g 0 xs := fun j v hv => by
  rw [Nat.zero_add]
  simp only [World.cell?, h1]
  rw [← h6, List.getElem?_take] at hv
  split at hv
  · simpa using hv
  · cases hv
/-- Where it lies. -/
theorem TxB.slice {w : World} {B : Nat} {v : Value} {l : List UInt8} (h : TxB w B v l) : ∃ q cap, v = .slice q l.length cap ∧ l.length ≤ cap ∧ (0 < l.length → ∃ g, q = some ⟨g, 0, none⟩ ∧ w.rangeAt g 0 (Lx.bv l)) := by
  rcases h with h | ⟨g, cap, cur, fz, rfl, h0, h1, h2, h3, h4, h5, h6⟩
  · exact own_slice h
  · exact ⟨_, cap, rfl, h3, fun _ => ⟨g, rfl, txM_range h1 h6⟩⟩

theorem runM_src (w : World) (tx ty : TypeId) (B : Nat) (v : Value) (l : List UInt8) (hown : TxM w B v l) (hB : B ≤ w.heap.size) (x : Value) (m : Nat) (news : List UInt8) (hs : Src Tryd.prog 1 tx x m (Lx.bv news) w) (h40 : l.length + m ≤ 1000000000) :
    ∃ v' w', (Builtin.append_ #[50, tx] ty #[v, x]).run Tryd.prog w = .ok v' w' ∧ TxB w' B v' (l ++ news) ∧ Below B w w' := by
  obtain ⟨i, hi, hz0, hz1, hz2⟩ := info_parts Lx.info5
  obtain ⟨g, cap, cur, fz, rfl, h0, h1, h2, h3, h4, h5, h6⟩ := hown
  have hnl : (Lx.bv news).length = m := by have := hs.newsLen; omega
  have hnl2 : news.length = m := by rw [Lx.bv_len] at hnl; exact hnl
  have hll := Lx.bv_len l
  have hs' : Src Tryd.prog i.size tx x m (Lx.bv news) w := by rw [hz1]; exact hs
  by_cases hroom : l.length + m ≤ cap
  · have hth : ∀ j, j < (Lx.bv news).length → (w.cell? ⟨g, 0 + l.length * i.size + j, none⟩).isSome = true ∧ w.frozen? ⟨g, 0 + l.length * i.size + j, none⟩ = false := fun j hj => by
      rw [hz1]
      have hlt : 0 + l.length * 1 + j < cur.size := by omega
      refine ⟨?_, ?_⟩
      · simp only [World.cell?, h1]
        simp
        omega
      · have : ¬ (fz.1 ≤ l.length + j) := by omega
        simp only [World.frozen?, h1]
        simp [this]
    have hr := run_append_room_src (P := Tryd.prog) w 50 tx ty 5 i Tryd.underlying50 hi g 0 l.length cap x m (Lx.bv news) hs' hroom (fun j hj => (hth j hj).1) (fun j hj => (hth j hj).2)
    have hmid : w.there g (0 + l.length * i.size) (Lx.bv news).length := fun j hj => hth j hj
    rw [hz1, Nat.zero_add, Nat.mul_one] at hr hmid
    obtain ⟨c, q1, q2⟩ := sets_self g (Lx.bv news) l.length w cur h1
    have hlen : (l ++ news).length = l.length + m := by rw [List.length_append, hnl2]
    refine ⟨_, _, hr, .inr ⟨g, cap, c, fz, by rw [hlen], h0, q1, by omega, by rw [hlen]; exact hroom, h4, by omega, ?_⟩, below_sets (Below.refl _ w) h0 _ _⟩
    rw [Lx.bv_app, hlen]
    apply List.ext_getElem?
    intro j
    rw [List.getElem?_take]
    by_cases hj : j < l.length + m
    · rw [if_pos hj]
      have hcell : c.toList[j]? = (w.setCells g l.length (Lx.bv news)).cell? ⟨g, j, none⟩ := by
        simp only [World.cell?, q1]
        simp
      rw [hcell]
      by_cases hjn : j < l.length
      · rw [World.cell?_setCells_out _ _ _ _ _ (fun _ _ => by show j < l.length ∨ l.length + (Lx.bv news).length ≤ j; omega), List.getElem?_append_left (by omega)]
        have := txM_range h1 h6 j (Lx.bv l)[j] (List.getElem?_eq_getElem (by omega))
        rw [Nat.zero_add] at this
        rw [this, List.getElem?_eq_getElem (by omega)]
      · rw [List.getElem?_append_right (by omega), hll]
        have hjm : j - l.length < (Lx.bv news).length := by omega
        have := World.rangeAt_setCells_same w g l.length (Lx.bv news) hmid (j - l.length) (Lx.bv news)[j - l.length] (List.getElem?_eq_getElem hjm)
        rw [show l.length + (j - l.length) = j by omega] at this
        rw [this, List.getElem?_eq_getElem hjm]
    · rw [if_neg hj, List.getElem?_eq_none (by rw [List.length_append]; omega)]
  · have hold : (Builtin.firstCells i.size l.length (.slice (some ⟨g, 0, none⟩) l.length cap)).run Tryd.prog w.drew = .ok (Lx.bv l).toArray w.drew := run_firstCells_some (P := Tryd.prog) w.drew i.size l.length ⟨g, 0, none⟩ l.length cap (Lx.bv l) (by rw [hz1]; omega) (fun j u hu => by
      rw [Addr.add_mid]
      have := txM_range h1 h6 j u hu
      simpa using this)
    have hr := run_append_grow_src (P := Tryd.prog) w 50 tx ty 5 i _ Tryd.underlying50 hi hz0 (some ⟨g, 0, none⟩) l.length cap (Lx.bv l) hold x m (Lx.bv news) hs' (by omega) (by omega) (by rw [hz2]; exact growslice_fits (by omega) (Nat.le_trans (Nat.mul_le_mul h40 (Nat.le_refl 1)) (by decide)))
    have hge := grownCap_ge w (l.length + m) cap 5
    have hcm : grownCap w (l.length + m) cap 5 ≤ maxLen := grownCap_le_maxLen w (l.length + m) cap 5 (by unfold maxLen; omega)
    have hlen : (Lx.bv l ++ Lx.bv news).length = l.length + m := by rw [List.length_append]; omega
    have hlen2 : (l ++ news).length = l.length + m := by rw [List.length_append, hnl2]
    refine ⟨_, _, hr, .inl ?_, (Below.refl B w).drew.alloc hB _⟩
    rw [Lx.bv_app, hlen2]
    refine ⟨by rw [hlen]; omega, .inr ⟨w.heap.size, _, _, rfl, hB, heap_alloc_new w.drew _, hge, hcm, ?_, ?_⟩⟩
    · simp only [Array.size_append, List.size_toArray, size_zeroCells, hlen]
      have : (Value.int IntKind.u8 0).cells.size = 1 := rfl
      rw [this]
      omega
    · simp only [Array.toList_append]
      rw [show (l.length + m) * 1 = (Lx.bv l ++ Lx.bv news).length by omega]
      exact List.take_left
/-- Bytes that lie in a block are appended. -/
theorem run_appT {w : World} (ty : TypeId) (B : Nat) (v : Value) (l : List UInt8) (h : TxB w B v l) (H m c : Nat) (news : List UInt8) (hm : news.length = m)
    (hnews : ∀ j u, (Lx.bv news)[j]? = some u → w.cell? ((⟨H, 0, none⟩ : Addr).add j) = some u) (h40 : l.length + m ≤ 1000000000) (hB : B ≤ w.heap.size) :
    ∃ v' w', (Builtin.append_ #[50, 50] ty #[v, .slice (some ⟨H, 0, none⟩) m c]).run Tryd.prog w = .ok v' w' ∧ TxB w' B v' (l ++ news) ∧ Below B w w' := by
  rcases h with h | h
  · obtain ⟨v', w', hr, h2, h3⟩ := Lx.run_appB (w := w) ty B v l.length l h H m c news hm hnews (by omega) hB
    exact ⟨v', w', hr, .inl (by rw [List.length_append, hm]; exact h2), h3⟩
  · exact runM_src w 50 ty B v l h hB _ m news (Src.ofSlice w Tryd.underlying50 ⟨H, 0, none⟩ m c (Lx.bv news) (by rw [Lx.bv_len, hm]; omega) hnews (Lx.bv_one _)) h40
theorem bv_cells (s : ByteArray) : byteCells s = Lx.bv s.data.toList := by
  first | rfl | (unfold byteCells Lx.bv; rfl) | (unfold byteCells Lx.bv; simp)
theorem str_cells (s : ByteArray) : Lib.strCells s = Lx.bv s.data.toList := by
  first | rfl | (unfold Lib.strCells Lx.bv; rfl) | (unfold Lib.strCells Lx.bv; simp)
/-- A text is appended. -/
theorem run_appS {w : World} (ty : TypeId) (B : Nat) (v : Value) (l : List UInt8) (h : TxB w B v l) (s : ByteArray) (h40 : l.length + s.size ≤ 1000000000) (hB : B ≤ w.heap.size) :
    ∃ v' w', (Builtin.append_ #[50, 9] ty #[v, .string s]).run Tryd.prog w = .ok v' w' ∧ TxB w' B v' (l ++ s.data.toList) ∧ Below B w w' := by
  rcases h with h | h
  · obtain ⟨i, hi, hz0, hz1, hz2⟩ := info_parts Lx.info5
    obtain ⟨v', w', hr, h2, h3, -⟩ := Lib.run_append_own_string (P := Tryd.prog) w B 50 9 ty 5 i Tryd.underlying50 Tryd.underlying9 hi hz0 hz1 hz2 v l.length (Lx.bv l) h s (by unfold maxLen; omega) (by omega) hB
    refine ⟨v', w', hr, .inl ?_, (Below.refl B w).grown h3 hB (Lx.own_ge h)⟩
    rw [List.length_append, ← Lib.size_eq, Lx.bv_app, ← str_cells]
    exact h2
  · exact runM_src w 9 ty B v l h hB _ s.size s.data.toList (by rw [← bv_cells]; exact Src.ofString w Tryd.underlying9 s) h40
end Go.Proofs.YtichbejmelkjeaaDoor
