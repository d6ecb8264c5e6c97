import Derived.Test.YtdcioemjmmhbhaaDoorBox
import Derived.Deep.MidRow
import Derived.Lib.QuietBelow
import Derived.BigQuiet
namespace Go.Proofs.YtdcioemjmmhbhaaDoor
open Go.RowKit

/-- Only what lies in F may have turned. -/
structure Kp (F : Nat → Prop) (w w' : World) : Prop where
  os : w'.os = w.os
  tape : w'.tape = w.tape
  output : w'.output = w.output
  size : w.heap.size ≤ w'.heap.size
  block : ∀ k, k < w.heap.size → ¬ F k → w'.heap[k]? = w.heap[k]?

theorem Kp.refl (F : Nat → Prop) (w : World) : Kp F w w := ⟨rfl, rfl, rfl, Nat.le_refl _, fun _ _ _ => rfl⟩
theorem Kp.of {F : Nat → Prop} {w w' : World} (h : Below w.heap.size w w') : Kp F w w' := ⟨h.os, h.tape, h.output, h.size, fun k hk _ => h.block k hk⟩
theorem Kp.trans {F G : Nat → Prop} {a b c : World} (h : Kp F a b) (k : Kp G b c) (hG : ∀ i, i < a.heap.size → G i → F i) : Kp F a c :=
  ⟨k.os.trans h.os, k.tape.trans h.tape, k.output.trans h.output, Nat.le_trans h.size k.size, fun i hi hf => (k.block i (Nat.lt_of_lt_of_le hi h.size) (fun q => hf (hG i hi q))).trans (h.block i hi hf)⟩
theorem Kp.next {F : Nat → Prop} {a b c : World} (h : Kp F a b) (k : Below b.heap.size b c) : Kp F a c := h.trans (Kp.of (F := F) k) (fun _ _ q => q)
theorem Kp.below {F : Nat → Prop} {a b : World} {B : Nat} (h : Kp F a b) (hF : ∀ k, F k → B ≤ k) (hB : B ≤ a.heap.size) : Below B a b := ⟨h.os, h.tape, h.output, h.size, fun k hk => h.block k (by omega) (fun q => by have := hF k q; omega)⟩
theorem Kp.setCell {F : Nat → Prop} {a w : World} (h : Kp F a w) {p : Addr} (hp : F p.block ∨ a.heap.size ≤ p.block) (u : Value) : Kp F a (w.setCell p u) :=
  ⟨h.os, h.tape, h.output, Nat.le_trans h.size (by simp [World.setCell]), fun k hk hf => (Below.heap_setCell _ _ _ _ (by rcases hp with q | q; exact fun e => hf (e ▸ q); omega)).trans (h.block k hk hf)⟩
theorem Kp.setCells {F : Nat → Prop} {a : World} {B : Nat} (hp : F B ∨ a.heap.size ≤ B) : ∀ (vs : List Value) (o : Nat) {w : World}, Kp F a w → Kp F a (w.setCells B o vs)
  | [], _, _, h => h
  | v :: r, o, _, h => Kp.setCells hp r (o + 1) (h.setCell (p := ⟨B, o, none⟩) hp v)
theorem Kp.alloc {F : Nat → Prop} {a w : World} (h : Kp F a w) (o : Obj) : Kp F a (w.alloc o) := h.next ((Below.refl _ _).alloc (Nat.le_refl _) _)
theorem Kp.grown {F : Nat → Prop} {a w w' : World} {row : Option Nat} (h : Kp F a w) (hg : w.grownBy w' row) (hr : ∀ k, row = some k → F k ∨ a.heap.size ≤ k) : Kp F a w' :=
  ⟨hg.os.trans h.os, hg.tape.trans h.tape, hg.output.trans h.output, Nat.le_trans h.size hg.size, fun k hk hf => (hg.block k (Nat.lt_of_lt_of_le hk h.size) (fun e => by rcases hr k e.symm with q | q; exact hf q; omega)).trans (h.block k hk hf)⟩

/-- A block of cells of one kind, that may be written. -/
def Blk (w : World) (g : Nat) (t : TypeId) (n : Nat) : Prop := ∃ cur, w.heap[g]? = some (.cells cur t (0, 0)) ∧ n ≤ cur.size
theorem Blk.lt {w : World} {g : Nat} {t : TypeId} {n : Nat} (h : Blk w g t n) : g < w.heap.size := by obtain ⟨_, h, _⟩ := h; exact (Array.getElem?_eq_some_iff.1 h).1
theorem Blk.same {w w' : World} {g : Nat} {t : TypeId} {n : Nat} (h : Blk w g t n) (e : w'.heap[g]? = w.heap[g]?) : Blk w' g t n := by obtain ⟨c, h, k⟩ := h; exact ⟨c, e.trans h, k⟩
theorem Blk.le {w : World} {g : Nat} {t : TypeId} {n m : Nat} (h : Blk w g t n) (e : m ≤ n) : Blk w g t m := by obtain ⟨c, h, k⟩ := h; exact ⟨c, h, Nat.le_trans e k⟩
theorem Blk.new (w : World) (c : Array Value) (t : TypeId) {n : Nat} (e : n ≤ c.size) : Blk (w.alloc (.cells c t)) w.heap.size t n := ⟨c, World.alloc_heap_new w _, e⟩
theorem Blk.ne {w : World} {g g' : Nat} {t t' : TypeId} {n n' : Nat} (h : Blk w g t n) (k : Blk w g' t' n') (e : t ≠ t') : g ≠ g' := by
  rintro rfl
  obtain ⟨c, h, _⟩ := h
  obtain ⟨c', k, _⟩ := k
  rw [h] at k
  cases k
  exact e rfl
theorem Blk.setCell {w : World} {g : Nat} {t : TypeId} {n : Nat} (h : Blk w g t n) (a : Addr) (v : Value) : Blk (w.setCell a v) g t n := by
  obtain ⟨c, h, k⟩ := h
  unfold Blk World.setCell
  simp only [Array.getElem?_modify]
  split
  · rw [h]
    refine ⟨_, rfl, ?_⟩
    split <;> simpa using k
  · exact ⟨c, h, k⟩
theorem Blk.setCells {g : Nat} {t : TypeId} {n : Nat} (B : Nat) : ∀ (vs : List Value) (o : Nat) {w : World}, Blk w g t n → Blk (w.setCells B o vs) g t n
  | [], _, _, h => h
  | v :: r, o, _, h => Blk.setCells B r (o + 1) (h.setCell ⟨B, o, none⟩ v)
theorem Blk.next {w w' : World} {g : Nat} {t : TypeId} {n : Nat} (h : Blk w g t n) (k : Below w.heap.size w w') : Blk w' g t n := h.same (k.block g h.lt)
theorem Blk.alloc {w : World} {g : Nat} {t : TypeId} {n : Nat} (h : Blk w g t n) (o : Obj) : Blk (w.alloc o) g t n := h.next ((Below.refl _ _).alloc (Nat.le_refl _) _)
theorem Blk.there {w : World} {g : Nat} {t : TypeId} {n : Nat} (h : Blk w g t n) (o m : Nat) (e : o + m ≤ n) : w.there g o m := fun j hj => by
  obtain ⟨c, h, k⟩ := h
  refine ⟨?_, ?_⟩
  · simp only [World.cell?, h]
    simp [show o + j < c.size by omega]
  · simp only [World.frozen?, h]
    simp
theorem Blk.unfrozen {w : World} {g : Nat} {t : TypeId} {n : Nat} (h : Blk w g t n) (o : Nat) : w.frozen? ⟨g, o, none⟩ = false := by
  obtain ⟨c, h, k⟩ := h
  simp only [World.frozen?, h]
  simp

theorem own_same {w w' : World} {B : Nat} {e : TypeId} {sz : Nat} {v : Value} {n : Nat} {xs : List Value} (h : w.ownsRow B e sz v n xs) (hk : ∀ g, v.ownBlock = some g → w'.heap[g]? = w.heap[g]?) : w'.ownsRow B e sz v n xs := by
  refine ⟨h.1, ?_⟩
  rcases h.2 with q | ⟨g, cap, cur, rfl, h1, h2, h3⟩
  · exact .inl q
  · exact .inr ⟨g, cap, cur, rfl, h1, (hk g rfl).trans h2, h3⟩
theorem own_blk {w : World} {B : Nat} {e : TypeId} {sz : Nat} {v : Value} {n : Nat} {xs : List Value} (h : w.ownsRow B e sz v n xs) : ∀ g, v.ownBlock = some g → Blk w g e (n * sz) := fun g hg => by
  rcases h.2 with ⟨rfl, _⟩ | ⟨g, cap, cur, rfl, h1, h2, h3, _, h4, _⟩
  · cases hg
  · cases hg
    exact ⟨cur, h2, by rw [h4]; exact Nat.mul_le_mul_right _ h3⟩
theorem own_ne {w : World} {B : Nat} {e : TypeId} {sz : Nat} {v : Value} {n : Nat} {xs : List Value} (h : w.ownsRow B e sz v n xs) {b : Nat} {t : TypeId} {m : Nat} (k : Blk w b t m) (ht : t ≠ e) : v.ownBlock ≠ some b := fun q => (own_blk h b q).ne k (Ne.symm ht) rfl
theorem own_slice {w : World} {B : Nat} {e : TypeId} {sz : Nat} {v : Value} {n : Nat} {xs : List Value} (h : w.ownsRow B e sz v n xs) : ∃ q cap, v = .slice q n cap ∧ n ≤ cap ∧ (0 < n → ∃ g, q = some ⟨g, 0, none⟩ ∧ w.rangeAt g 0 xs) := by
  rcases h.2 with ⟨rfl, rfl⟩ | ⟨g, cap, cur, rfl, h1, h2, h3, _, h4, h5⟩
  · exact ⟨none, 0, rfl, Nat.le_refl _, fun q => by omega⟩
  · refine ⟨_, cap, rfl, h3, fun _ => ⟨g, rfl, fun j v hv => ?_⟩⟩
    rw [Nat.zero_add]
    simp only [World.cell?, h2]
    rw [← h5, List.getElem?_take] at hv
    split at hv
    · simpa using hv
    · cases hv
theorem own_next {w w' : World} {B : Nat} {e : TypeId} {sz : Nat} {v : Value} {n : Nat} {xs : List Value} (h : w.ownsRow B e sz v n xs) (k : Below w.heap.size w w') : w'.ownsRow B e sz v n xs := own_same h fun g hg => k.block g (own_blk h g hg).lt
theorem range_same {w w' : World} {g o : Nat} {xs : List Value} (h : w.rangeAt g o xs) (e : w'.heap[g]? = w.heap[g]?) : w'.rangeAt g o xs := fun j v hv => (World.cell?_of_block (w := w) (w' := w') (a := ⟨g, o + j, none⟩) e).trans (h j v hv)
theorem set_heap {w : World} {a : Addr} {v : Value} {k : Nat} (h : k ≠ a.block) : (w.setCell a v).heap[k]? = w.heap[k]? := Below.heap_setCell _ _ _ _ h
theorem sets_heap {B k : Nat} (h : k ≠ B) : ∀ (vs : List Value) (o : Nat) (w : World), (w.setCells B o vs).heap[k]? = w.heap[k]?
  | [], _, _ => rfl
  | _ :: r, o, _ => (sets_heap h r (o + 1) _).trans (set_heap (a := ⟨B, o, none⟩) h)
theorem set_size (w : World) (a : Addr) (v : Value) : (w.setCell a v).heap.size = w.heap.size := by simp [World.setCell]
theorem sets_size (B : Nat) : ∀ (vs : List Value) (o : Nat) (w : World), (w.setCells B o vs).heap.size = w.heap.size
  | [], _, _ => rfl
  | _ :: r, o, _ => (sets_size B r (o + 1) _).trans (set_size _ _ _)
end Go.Proofs.YtdcioemjmmhbhaaDoor
